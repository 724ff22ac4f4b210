/- Of every list of nodes and every place RexIs says true: package rex answers it as the document says, its errors among it. No conditions. -/
import Derived.Test.YtldiaokjgfoomaaDoorRw6
import Derived.Test.YtldiaokjgfoomaaDoorRxIE
namespace Go.Proofs.YtldiaokjgfoomaaDoor
theorem rexIs_holds : Rows.RexIsCardSaid := rexIs_holds_of rexC
#print axioms rexIs_holds
end Go.Proofs.YtldiaokjgfoomaaDoor
