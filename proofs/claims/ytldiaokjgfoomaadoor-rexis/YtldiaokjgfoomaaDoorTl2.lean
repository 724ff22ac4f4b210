/- Facts on the model's entries that errors.As comes to, where memory is read or written. -/
import Derived.Test.YtldiaokjgfoomaaDoorTlf
import Derived.WalkKit
import Derived.Laws.Externs
set_option linter.unusedSimpArgs false
set_option linter.unusedVariables false
namespace Go.Proofs.YtldiaokjgfoomaaDoor
open Go.RowKit

theorem parts_ptr (a : Addr) (w : World) : (Extern.ReflectliteValue.parts (.agg #[hnd 67, .pointer (some a), .int .u64 150])).run Tryd.prog w = .ok (some (67, a, 150)) w := by kernel_rfl
theorem parts_dst (a : Addr) (w : World) : (Extern.ReflectliteValue.parts (.agg #[hnd 25, .pointer (some a), .int .u64 386])).run Tryd.prog w = .ok (some (25, a, 386)) w := by kernel_rfl
theorem parts_src (a : Addr) (w : World) : (Extern.ReflectliteValue.parts (.agg #[hnd 25, .pointer (some a), .int .u64 130])).run Tryd.prog w = .ok (some (25, a, 130)) w := by kernel_rfl
theorem load_ptr (a p : Addr) (w : World) (h : w.cell? a = some (.pointer (some p))) : (loadVar 67 a).run Tryd.prog w = .ok (.pointer (some p)) w := by
  go_simp
theorem load_err (a : Addr) (n : Int) (w : World) (h : w.cell? a = some (.int .i64 n)) : (loadVar 25 a).run Tryd.prog w = .ok (.int .i64 n) w := by
  go_simp
theorem x_isNil (a p : Addr) (w : World) (h : w.cell? a = some (.pointer (some p))) : (callFunc 53 #[.agg #[hnd 67, .pointer (some a), .int .u64 150]]).run Tryd.prog w = .ok (.value (.bool false)) w := by
  rw [run_callFunc_extern Tryd.func53 (by kernel_rfl) (by kernel_rfl) (by kernel_rfl) (e := Extern.ReflectliteValue.method (Extern.ReflectliteValue.valueError "reflectlite.Value.IsNil" 0) Extern.ReflectliteValue.isNil) (by kernel_rfl)]
  have hp := parts_ptr a w
  have hl := load_ptr a p w h
  change (Sem.run Tryd.prog (Extern.ReflectliteValue.parts (.agg #[hnd 67, .pointer (some a), .int .u64 150]) >>= _) w).andThen _ = _
  rw [Sem.run_bind, hp]
  simp [Extern.ReflectliteValue.isNil, hl]
theorem x_elemV (a p : Addr) (w : World) (h : w.cell? a = some (.pointer (some p))) : (callFunc 58 #[.agg #[hnd 67, .pointer (some a), .int .u64 150]]).run Tryd.prog w = .ok (.value (.agg #[hnd 25, .pointer (some p), .int .u64 386])) w := by
  rw [run_callFunc_extern Tryd.func58 (by kernel_rfl) (by kernel_rfl) (by kernel_rfl) (e := Extern.ReflectliteValue.method (Extern.ReflectliteValue.valueError "reflectlite.Value.Elem" 0) Extern.ReflectliteValue.elem) (by kernel_rfl)]
  have hp := parts_ptr a w
  have hl := load_ptr a p w h
  have he : ∀ w, (Extern.Rtype.elem? 67).run Tryd.prog w = .ok (some 25) w := fun w => by kernel_rfl
  have hm : ∀ w, (Extern.ReflectliteValue.mk 25 p Extern.ReflectliteValue.flagAddr).run Tryd.prog w = .ok (.agg #[hnd 25, .pointer (some p), .int .u64 386]) w := fun w => by kernel_rfl
  change (Sem.run Tryd.prog (Extern.ReflectliteValue.parts (.agg #[hnd 67, .pointer (some a), .int .u64 150]) >>= _) w).andThen _ = _
  rw [Sem.run_bind, hp]
  simp [Extern.ReflectliteValue.elem, hl, he, hm]
theorem x_set (a b : Addr) (n m : Int) (w : World) (h : w.cell? a = some (.int .i64 m)) (hf : w.frozen? a = false) (hb : w.cell? b = some (.int .i64 n)) : (callFunc 59 #[.agg #[hnd 25, .pointer (some a), .int .u64 386], .agg #[hnd 25, .pointer (some b), .int .u64 130]]).run Tryd.prog w = .ok (.value (.tuple #[])) (w.setCell a (.int .i64 n)) := by
  rw [run_callFunc_extern Tryd.func59 (by kernel_rfl) (by kernel_rfl) (by kernel_rfl) (e := Extern.ReflectliteValue.set) (by kernel_rfl)]
  have hd := parts_dst a w
  have hs := parts_src b w
  have hl := load_err b n w hb
  have hda : ∀ w, (Extern.Rtype.directlyAssignable 25 25).run Tryd.prog w = .ok true w := fun w => by kernel_rfl
  have hst : (storeVar 25 a (.int .i64 n)).run Tryd.prog w = .ok () (w.setCell a (.int .i64 n)) := by go_simp
  change (Sem.run Tryd.prog (Extern.ReflectliteValue.parts (.agg #[hnd 25, .pointer (some a), .int .u64 386]) >>= _) w).andThen _ = _
  rw [Sem.run_bind, hd, Result.andThen_ok]
  change (Sem.run Tryd.prog (Extern.ReflectliteValue.parts (.agg #[hnd 25, .pointer (some b), .int .u64 130]) >>= _) w).andThen _ = _
  rw [Sem.run_bind, hs, Result.andThen_ok]
  simp [Extern.ReflectliteValue.flagAddr, hl, hda, hst]
end Go.Proofs.YtldiaokjgfoomaaDoor
