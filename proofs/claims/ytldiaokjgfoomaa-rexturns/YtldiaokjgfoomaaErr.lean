/- An error as the program hands it back. -/
import Derived.Test.YtldiaokjgfoomaaProg
namespace Go.Proofs.Ytldiaokjgfoomaa
/-- An error as the program hands it back: nil where the number is 0. -/
def errV (n : Int) : Value := if n = 0 then .nilIface else .iface 59 (.int .i64 n)
end Go.Proofs.Ytldiaokjgfoomaa
