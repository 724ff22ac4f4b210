/- Closed facts on the model's entries that errors.As comes to. -/
import Derived.Test.YtldiaokjgfoomaaDoorProg
import Derived.WalkKit
import Derived.WalkSpells
import Derived.WalkLawsBesides
import Derived.Deep.QuietTactic
import Derived.BigQuiet
import Derived.Stop.Asserts
set_option linter.unusedSimpArgs false
set_option linter.unusedVariables false
namespace Go.Proofs.YtldiaokjgfoomaaDoor
open Go.RowKit

abbrev hnd (t : Nat) : Value := .pointer (some ⟨2, t, none⟩)
abbrev rty (t : Nat) : Value := .iface 95 (.agg #[hnd t])
theorem x_valueOfPtr (a : Addr) (w : World) : (callFunc 51 #[.iface 67 (.pointer (some a))]).run Tryd.prog w = .ok (.value (.agg #[hnd 67, .pointer (some ⟨w.heap.size, 0, none⟩), .int .u64 150])) (w.alloc (.cells #[.pointer (some a)] 67)) := by kernel_rfl
theorem x_valueOfErr (n : Int) (w : World) : (callFunc 51 #[.iface 25 (.int .i64 n)]).run Tryd.prog w = .ok (.value (.agg #[hnd 25, .pointer (some ⟨w.heap.size, 0, none⟩), .int .u64 130])) (w.alloc (.cells #[.int .i64 n] 25)) := by kernel_rfl
theorem x_type (a : Addr) (w : World) : (callFunc 52 #[.agg #[hnd 67, .pointer (some a), .int .u64 150]]).run Tryd.prog w = .ok (.value (rty 67)) w := by kernel_rfl
theorem x_typeOf (n : Int) (w : World) : (callFunc 57 #[.iface 25 (.int .i64 n)]).run Tryd.prog w = .ok (.value (rty 25)) w := by kernel_rfl
theorem x_kindP (w : World) : (callFunc 78 #[hnd 67]).run Tryd.prog w = .ok (.value (.int .u8 22)) w := by kernel_rfl
theorem x_kindE (w : World) : (callFunc 78 #[hnd 25]).run Tryd.prog w = .ok (.value (.int .u8 2)) w := by kernel_rfl
theorem x_elem (w : World) : (callFunc 89 #[.agg #[hnd 67]]).run Tryd.prog w = .ok (.value (rty 25)) w := by kernel_rfl
theorem x_impl (w : World) : (callFunc 90 #[.agg #[hnd 25], rty 28]).run Tryd.prog w = .ok (.value (.bool true)) w := by kernel_rfl
theorem x_assign (w : World) : (callFunc 87 #[.agg #[hnd 25], rty 25]).run Tryd.prog w = .ok (.value (.bool true)) w := by kernel_rfl
theorem m_kind (t : Nat) (w : World) : (method 238 95 (.agg #[hnd t]) "Kind").run Tryd.prog w = .ok (78, hnd t) w := by kernel_rfl
theorem m_elem (t : Nat) (w : World) : (method 238 95 (.agg #[hnd t]) "Elem").run Tryd.prog w = .ok (89, .agg #[hnd t]) w := by kernel_rfl
theorem m_impl (t : Nat) (w : World) : (method 238 95 (.agg #[hnd t]) "Implements").run Tryd.prog w = .ok (90, .agg #[hnd t]) w := by kernel_rfl
theorem m_assign (t : Nat) (w : World) : (method 238 95 (.agg #[hnd t]) "AssignableTo").run Tryd.prog w = .ok (87, .agg #[hnd t]) w := by kernel_rfl
end Go.Proofs.YtldiaokjgfoomaaDoor
