/- An error as the program hands it back. -/
import Derived.Test.YtmdfdlljeggbbaaProg
namespace Go.Proofs.Ytmdfdlljeggbbaa
/-- An error as the program hands it back: nil where the number is 0. -/
def errV (n : Int) : Value := if n = 0 then .nilIface else .iface 52 (.int .i64 n)
end Go.Proofs.Ytmdfdlljeggbbaa
