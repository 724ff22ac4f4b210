/- An error as the program hands it back. -/
import Derived.Test.YtldiaokjgfoomaaDoorProg
namespace Go.Proofs.YtldiaokjgfoomaaDoor
/-- An error as the program hands it back: nil where the number is 0. -/
def errV (n : Int) : Value := if n = 0 then .nilIface else .iface 25 (.int .i64 n)
end Go.Proofs.YtldiaokjgfoomaaDoor
