/- Of every pattern, however long and whatever its nodes, RexTurns says true: turned twice it is itself, and turned it may be nothing just if it may be. No conditions. -/
import Derived.Test.YtldiaokjgfoomaaRw5
import Derived.Test.YtldiaokjgfoomaaRxTE
namespace Go.Proofs.Ytldiaokjgfoomaa
theorem rexTurns_holds : Rows.RexTurnsSaid := rexTurns_holds_of rexT
#print axioms rexTurns_holds
end Go.Proofs.Ytldiaokjgfoomaa
