/- What plain.Told answers: of nil 0; of an Errno its number. -/
import Derived.Test.YtldiaokjgfoomaaDoorTl2
import Derived.Test.YtldiaokjgfoomaaDoorErr
import Derived.WalkKit
import Derived.WalkSpells
import Derived.WalkLawsBesides
import Derived.Deep.QuietTactic
import Derived.BigQuiet
import Derived.Stop.Asserts
set_option linter.unusedSimpArgs false
set_option linter.unusedVariables false
namespace Go.Proofs.YtldiaokjgfoomaaDoor
open Go.RowKit

set_option maxHeartbeats 1000000 in
set_option maxRecDepth 100000 in
theorem as_in (n : Int) (b c : Nat) (w : World) (hc : w.cell? ⟨b, 0, none⟩ = some (.int .i64 0)) (hf : w.frozen? ⟨b, 0, none⟩ = false) (hp : w.cell? ⟨c, 0, none⟩ = some (.pointer (some ⟨b, 0, none⟩))) (hlt : b < w.heap.size) :
    Calls Tryd.prog 54 #[.iface 25 (.int .i64 n), .iface 67 (.pointer (some ⟨b, 0, none⟩)), .agg #[hnd 67, .pointer (some ⟨c, 0, none⟩), .int .u64 150], rty 25] w fun e w' => e = .returned (.bool true) ∧ w'.cell? ⟨b, 0, none⟩ = some (.int .i64 n) ∧ Below b w w' := by
  have x1 := x_typeOf
  have x2 := x_assign
  have x3 := x_valueOfErr
  have m1 := m_assign
  have b1 : ∀ o, Below w.heap.size w (w.alloc o) := fun o => (Below.refl _ _).alloc (Nat.le_refl _) o
  have b2 : ∀ o o2, Below w.heap.size w ((w.alloc o).alloc o2) := fun o o2 => (b1 o).alloc (by simp) o2
  have hel := fun o => x_elemV ⟨c, 0, none⟩ ⟨b, 0, none⟩ (w.alloc o) (cell_later (b1 o) hp)
  have hse := fun o => x_set ⟨b, 0, none⟩ ⟨w.heap.size + 1, 0, none⟩ n 0 ((w.alloc o).alloc (.cells #[.int .i64 n] 25)) (cell_later (b2 o _) hc) (((b2 o _).frozen (p := ⟨b, 0, none⟩) hlt).trans hf) (by simp)
  have B2 := (show Hid _ from b2)
  clear b1 b2
  go_enter Tryd.func54, Tryd.ntmps54
  go_wp2_with fail
  refine wp_loop_rounds 1 ?_
  rw [rounds_succ]
  go_wp2
  go_ret
  have hs : (w.setCell ⟨b, 0, none⟩ (.int .i64 n)).cell? ⟨b, 0, none⟩ = some (.int .i64 n) := World.cell?_setCell_same _ _ _ hc
  have hb3 : ∀ u : World, ∀ o o2, Below u.heap.size u ((u.alloc o).alloc o2) := fun u o o2 => ((Below.refl _ _).alloc (Nat.le_refl _) o).alloc (by simp) o2
  refine ⟨rfl, cell_later (hb3 _ _ _) hs, ?_⟩
  exact (((Below.refl b w).setCell (p := ⟨b, 0, none⟩) (Nat.le_refl _) _).alloc (by simp [World.setCell]; omega) _).alloc (by simp [World.setCell]; omega) _
set_option maxHeartbeats 1000000 in
set_option maxRecDepth 100000 in
theorem as_errno (n : Int) (b : Nat) (w : World) (hE : w.cell? ⟨0, 0, none⟩ = some (rty 28)) (hc : w.cell? ⟨b, 0, none⟩ = some (.int .i64 0)) (hf : w.frozen? ⟨b, 0, none⟩ = false) (hlt : b < w.heap.size) :
    Calls Tryd.prog 43 #[.iface 25 (.int .i64 n), .iface 67 (.pointer (some ⟨b, 0, none⟩))] w fun e w' => e = .returned (.bool true) ∧ w'.cell? ⟨b, 0, none⟩ = some (.int .i64 n) ∧ Below b w w' := by
  have x1 := x_valueOfPtr
  have x2 := x_type
  have x3 := x_kindP
  have x4 := x_kindE
  have x5 := x_elem
  have x6 := x_impl
  have m1 := m_kind
  have m2 := m_elem
  have m3 := m_impl
  have b2 : ∀ o o2, Below w.heap.size w ((w.alloc o).alloc o2) := fun o o2 => ((Below.refl _ _).alloc (Nat.le_refl _) o).alloc (by simp) o2
  have hin := fun o => x_isNil ⟨w.heap.size, 0, none⟩ ⟨b, 0, none⟩ ((w.alloc (.cells #[.pointer (some ⟨b, 0, none⟩)] 67)).alloc o) (by simp)
  have hE2 := fun o o2 => cell_later (b2 o o2) hE
  have B2 := (show Hid _ from b2)
  clear b2
  go_enter Tryd.func43, Tryd.ntmps43
  go_wp2_with fail
  refine (as_in n b w.heap.size _ (cell_later (B2.out _ _) hc) (((B2.out _ _).frozen (p := ⟨b, 0, none⟩) hlt).trans hf) (by simp) (by simp; omega)).mono ?_
  rintro e w1 ⟨rfl, h1, h2⟩
  go_wp2
  go_ret
  exact ⟨rfl, h1, ((B2.out _ _).mono (by omega)).trans h2⟩
set_option maxHeartbeats 400000 in
theorem told_nil (w : World) : Calls Tryd.prog 30 #[.nilIface] w fun e w' => e = .returned (.int .i64 0) ∧ Below w.heap.size w w' := by
  go_enter Tryd.func30, Tryd.ntmps30
  go_wp2
  go_ret
  exact ⟨rfl, Below.refl _ _⟩
set_option maxHeartbeats 1000000 in
set_option maxRecDepth 100000 in
theorem told_errno (n : Int) (w : World) (hE : w.cell? ⟨0, 0, none⟩ = some (rty 28)) : Calls Tryd.prog 30 #[.iface 25 (.int .i64 n)] w fun e w' => e = .returned (.int .i64 n) ∧ Below w.heap.size w w' := by
  go_enter Tryd.func30, Tryd.ntmps30
  go_wp2_with fail
  have hb := (Below.refl w.heap.size w).alloc (Nat.le_refl _) (.cells #[.int .i64 0] 25)
  refine (as_errno n w.heap.size _ (cell_later hb hE) (by simp) (by simp) (by simp)).mono ?_
  rintro e w1 ⟨rfl, h1, h2⟩
  go_wp2
  go_ret
  exact ⟨rfl, hb.trans h2⟩
theorem told_any (n : Int) (w : World) (hE : w.cell? ⟨0, 0, none⟩ = some (rty 28)) : Calls Tryd.prog 30 #[errV n] w fun e w' => e = .returned (.int .i64 n) ∧ Below w.heap.size w w' := by
  unfold errV
  split
  · rename_i h
    subst h
    exact told_nil w
  · exact told_errno n w hE
set_option maxHeartbeats 400000 in
theorem error_any (n m : Int) (w : World) (hE : w.cell? ⟨0, 0, none⟩ = some (rty 28)) : Calls Tryd.prog 7 #[errV n, .int .i64 m] w fun e w' => e = .returned (.bool (n == m)) ∧ Below w.heap.size w w' := by
  go_enter Tryd.func7, Tryd.ntmps7
  go_wp2_with fail
  refine (told_any n _ hE).mono ?_
  rintro e w1 ⟨rfl, h1⟩
  go_wp2
  go_ret
  exact ⟨rfl, h1⟩
end Go.Proofs.YtldiaokjgfoomaaDoor
