/- The landed prog: what is a step, what a step's Op has. The landed prog: Check. (Made by wip/tools/genpk2.py.) The landed prog: Check. The program of a tree, as the landed package prog lays it: plain mathematics. THOMPSON'S CONSTRUCTION: the program of a tree comes to its end just where the tree fits: plain mathematics. -/
import Derived.Test.YtopoiljgghglaaaDoorY03
import Derived.Test.YtopoiljgghglaaaDoorY07
import Derived.Test.YtopoiljgghglaaaDoorY02
import Derived.Deep.RegionHeld3
import Derived.BigQuiet
import Derived.Lib.QuietBelow
import Derived.Test.YtopoiljgghglaaaDoorY04
namespace Go.Proofs.YtopoiljgghglaaaDoor
set_option linter.unusedSimpArgs false
set_option linter.unusedVariables false
set_option maxRecDepth 100000
open Go.RowKit
theorem isStep_any (N : Nat) (hN : N ≤ 9223372036854775807) (x : Int) (b : Nat) (a : Option Addr) (cap : Nat) (w : World) (hb : w.cell? ⟨b, 0, none⟩ = some (.slice a N cap)) :
    Calls Tryd.prog 21 #[.int .i64 x, .pointer (some ⟨b, 0, none⟩)] w fun e w' => e = .returned (.bool (decide (0 ≤ x ∧ x < (N : Int)))) ∧ w' = w := by
  by_cases h0 : 0 ≤ x
  · by_cases h1 : x < (N : Int)
    · go_enter Tryd.func21, Tryd.ntmps21
      go_wp2
      go_ret
      exact ⟨by first | (simp [h0, h1]; done) | (simp [h0]; omega), rfl⟩
    · go_enter Tryd.func21, Tryd.ntmps21
      go_wp2
      go_ret
      exact ⟨by first | (simp [h0, h1]; done) | (simp [h0]; omega), rfl⟩
  · go_enter Tryd.func21, Tryd.ntmps21
    go_wp2
    go_ret
    exact ⟨by first | (simp [h0]; done) | (simp; omega), rfl⟩
/-- A step with the fields alone that its Op has. -/
def bareS (s : St) : St := if s.op = 1 then ⟨s.op, s.c, s.x, 0⟩ else if s.op = 2 then ⟨s.op, z4, s.x, s.y⟩ else if s.op = 3 ∨ s.op = 4 then ⟨s.op, z4, s.x, 0⟩ else ⟨s.op, z4, 0, 0⟩
theorem bare_any (s : St) (w : World) : Calls Tryd.prog 41 #[s.v] w fun e w' => e = .returned (bareS s).v ∧ Below w.heap.size w w' := by
  obtain ⟨op, c, x, y⟩ := s
  have HB : Hid (∀ o1 o2, Below w.heap.size w ((w.alloc o1).alloc o2)) := fun o1 o2 => ((Below.refl _ _).alloc (Nat.le_refl _) _).alloc (by simp) _
  by_cases h1 : op = 1
  · subst h1
    have HF : Hid (bareS ⟨1, c, x, y⟩ = ⟨1, c, x, 0⟩) := by show _ = _; unfold bareS; rw [if_pos rfl]
    go_enter Tryd.func41, Tryd.ntmps41
    go_wp2
    rw [HF.out]
    refine bodyPost_ret (by simp [results, Tryd.results41, go_sem, z4]) rfl ⟨rfl, HB.out _ _⟩
  by_cases h2 : op = 2
  · subst h2
    have HF : Hid (bareS ⟨2, c, x, y⟩ = ⟨2, z4, x, y⟩) := by show _ = _; unfold bareS; rw [if_neg (by simp), if_pos rfl]
    go_enter Tryd.func41, Tryd.ntmps41
    go_wp2
    rw [HF.out]
    refine bodyPost_ret (by simp [results, Tryd.results41, go_sem, z4]) rfl ⟨rfl, HB.out _ _⟩
  by_cases h3 : op = 3
  · subst h3
    have HF : Hid (bareS ⟨3, c, x, y⟩ = ⟨3, z4, x, 0⟩) := by show _ = _; unfold bareS; rw [if_neg (by simp), if_neg (by simp), if_pos (by simp)]
    go_enter Tryd.func41, Tryd.ntmps41
    go_wp2
    rw [HF.out]
    refine bodyPost_ret (by simp [results, Tryd.results41, go_sem, z4]) rfl ⟨rfl, HB.out _ _⟩
  by_cases h4 : op = 4
  · subst h4
    have HF : Hid (bareS ⟨4, c, x, y⟩ = ⟨4, z4, x, 0⟩) := by show _ = _; unfold bareS; rw [if_neg (by simp), if_neg (by simp), if_pos (by simp)]
    go_enter Tryd.func41, Tryd.ntmps41
    go_wp2
    rw [HF.out]
    refine bodyPost_ret (by simp [results, Tryd.results41, go_sem, z4]) rfl ⟨rfl, HB.out _ _⟩
  have HF : Hid (bareS ⟨op, c, x, y⟩ = ⟨op, z4, 0, 0⟩) := by show _ = _; unfold bareS; rw [if_neg h1, if_neg h2, if_neg (by simp; omega)]
  have g1 : (op == 1) = false := by simp [h1]
  have g2 : (op == 2) = false := by simp [h2]
  have g3 : (op == 3) = false := by simp [h3]
  have g4 : (op == 4) = false := by simp [h4]
  clear h1 h2 h3 h4
  go_enter Tryd.func41, Tryd.ntmps41
  go_wp2
  rw [HF.out]
  refine bodyPost_ret (by simp [results, Tryd.results41, go_sem, z4]) rfl ⟨rfl, HB.out _ _⟩
end Go.Proofs.YtopoiljgghglaaaDoor
namespace Go.Proofs.YtopoiljgghglaaaDoor
set_option linter.unusedSimpArgs false
set_option linter.unusedVariables false
set_option maxRecDepth 100000
open Go.RowKit
theorem bareS_eqb (s : St) (h1 : ¬ s.op < 1) (h5 : ¬ 5 < s.op) : s.eqb (bareS s) = ! decide (stShape s) := by
  obtain ⟨op, c, x, y⟩ := s
  have hc : c.eqb c = true := eqb_self c
  have hop : op = 1 ∨ op = 2 ∨ op = 3 ∨ op = 4 ∨ op = 5 := by simp only at h1 h5; omega
  unfold stShape
  rcases hop with rfl | rfl | rfl | rfl | rfl <;> cases h : c.eqb z4 <;> by_cases hy : y = 0 <;> by_cases hx : x = 0 <;> simp [bareS, St.eqb, hc, h, hy, hx]
/-- What a step is held against: any step's number. -/
abbrev isV (b : Nat) : Value := .func (.func 21) #[] #[.pointer (some ⟨b, 0, none⟩)]
set_option maxHeartbeats 8000000 in
theorem checkStep_any (N : Nat) (hN : N ≤ 9223372036854775807) (s : St) (b : Nat) (a : Option Addr) (cap : Nat) (w : World) (hb : w.cell? ⟨b, 0, none⟩ = some (.slice a N cap)) :
    Calls Tryd.prog 22 #[s.v, isV b] w fun e w' => e = .returned (errV (stBad N s)) ∧ Below w.heap.size w w' := by
  obtain ⟨op, c, x, y⟩ := s
  have hbl : b < w.heap.size := by
    rcases Nat.lt_or_ge b w.heap.size with h | h
    · exact h
    · simp [World.cell?, Array.getElem?_eq_none h] at hb
  obtain ⟨o, ho⟩ : ∃ o : Obj, o = .cells #[.int .i64 op, .int .u64 c.a, .int .u64 c.b, .int .u64 c.c, .int .u64 c.d, .int .i64 x, .int .i64 y] 54 := ⟨_, rfl⟩
  have HC' : Hid (∀ (z : Int), Calls Tryd.prog 21 #[.int .i64 z, .pointer (some ⟨b, 0, none⟩)] (w.alloc o) fun e w' => e = .returned (.bool (decide (0 ≤ z ∧ z < (N : Int)))) ∧ w' = w.alloc o) := fun z =>
    isStep_any N hN z b a cap _ ((World.cell?_of_block (a := ⟨b, 0, none⟩) (Below.heap_alloc w o b hbl)).trans hb)
  have HB : Hid (Below w.heap.size w (w.alloc o)) := (Below.refl _ _).alloc (Nat.le_refl _) _
  obtain ⟨t, HT⟩ : ∃ t, Hid (t = bareS ⟨op, c, x, y⟩) := ⟨_, Eq.refl _⟩
  have BA : Hid (∀ W, Calls Tryd.prog 41 #[.agg #[.int .i64 op, .int .u64 c.a, .int .u64 c.b, .int .u64 c.c, .int .u64 c.d, .int .i64 x, .int .i64 y]] W fun e w' => e = .returned (.agg #[.int .i64 t.op, .int .u64 t.c.a, .int .u64 t.c.b, .int .u64 t.c.c, .int .u64 t.c.d, .int .i64 t.x, .int .i64 t.y]) ∧ Below W.heap.size W w') := by
    intro W
    rw [HT.out]
    exact bare_any ⟨op, c, x, y⟩ W
  have RC : Hid ((∀ d os, (Go.Sort.grow (redrawn (w.alloc o) d) os).cell? ⟨w.heap.size, 0, none⟩ = some (.int .i64 op)) ∧ (∀ d os, (Go.Sort.grow (redrawn (w.alloc o) d) os).cell? ⟨w.heap.size, 1, none⟩ = some (.int .u64 c.a)) ∧ (∀ d os, (Go.Sort.grow (redrawn (w.alloc o) d) os).cell? ⟨w.heap.size, 2, none⟩ = some (.int .u64 c.b)) ∧ (∀ d os, (Go.Sort.grow (redrawn (w.alloc o) d) os).cell? ⟨w.heap.size, 3, none⟩ = some (.int .u64 c.c)) ∧ (∀ d os, (Go.Sort.grow (redrawn (w.alloc o) d) os).cell? ⟨w.heap.size, 4, none⟩ = some (.int .u64 c.d)) ∧ (∀ d os, (Go.Sort.grow (redrawn (w.alloc o) d) os).cell? ⟨w.heap.size, 5, none⟩ = some (.int .i64 x)) ∧ (∀ d os, (Go.Sort.grow (redrawn (w.alloc o) d) os).cell? ⟨w.heap.size, 6, none⟩ = some (.int .i64 y))) := by
    refine ⟨?_, ?_, ?_, ?_, ?_, ?_, ?_⟩ <;> exact cell_regrown (by rw [ho]; simp)
  clear hb
  by_cases h1 : op < 1
  · have HF : Hid (stBad N ⟨op, c, x, y⟩ = 1) := stBad_range (Or.inl h1)
    go_enter Tryd.func22, Tryd.ntmps22
    go_wp2
    go_ret
    exact ⟨by rw [HF.out]; rfl, by rw [← ho]; exact HB.out⟩
  by_cases h5 : 5 < op
  · have HF : Hid (stBad N ⟨op, c, x, y⟩ = 1) := stBad_range (Or.inr (Or.inl h5))
    go_enter Tryd.func22, Tryd.ntmps22
    go_wp2
    go_ret
    exact ⟨by rw [HF.out]; rfl, by rw [← ho]; exact HB.out⟩
  have HC : Hid (∀ (z : Int), Calls Tryd.prog 21 #[.int .i64 z, .pointer (some ⟨b, 0, none⟩)] (w.alloc (.cells #[.int .i64 op, .int .u64 c.a, .int .u64 c.b, .int .u64 c.c, .int .u64 c.d, .int .i64 x, .int .i64 y] 54)) fun e w' => e = .returned (.bool (decide (0 ≤ z ∧ z < (N : Int)))) ∧ w' = w.alloc (.cells #[.int .i64 op, .int .u64 c.a, .int .u64 c.b, .int .u64 c.c, .int .u64 c.d, .int .i64 x, .int .i64 y] 54)) := by
    rw [← ho]
    exact HC'
  clear HC'
  by_cases hd : op = 5
  · subst hd
    have hr : ¬ stRange N ⟨5, c, x, y⟩ := by unfold stRange; simp
    by_cases hs : stShape ⟨5, c, x, y⟩
    · have HF : Hid (stBad N ⟨5, c, x, y⟩ = 2) := stBad_shape hr hs
      have he : ∀ w, (Op.equalIn 10000 54 (.agg #[.int .i64 5, .int .u64 c.a, .int .u64 c.b, .int .u64 c.c, .int .u64 c.d, .int .i64 x, .int .i64 y]) (.agg #[.int .i64 t.op, .int .u64 t.c.a, .int .u64 t.c.b, .int .u64 t.c.c, .int .u64 t.c.d, .int .i64 t.x, .int .i64 t.y])).run Tryd.prog w = .ok false w := fun w => (eqS ⟨5, c, x, y⟩ t w).trans (by rw [HT.out, bareS_eqb _ (by show ¬ 5 < 1; omega) (by show ¬ 5 < 5; omega)]; simp only [hs, decide_true, decide_false, Bool.not_true, Bool.not_false])
      go_enter Tryd.func22, Tryd.ntmps22
      go_wp2_with fail
      rw [← ho]
      clear ho
      obtain ⟨r0, r1, r2, r3, r4, r5, r6⟩ := RC.out
      refine wp_region_quiet_below (by kernel_rfl) (by kernel_rfl) ?_
      repeat (go_big_quiet_step (first
        | (go_at_call 41; exact Calls.regrown_of (BA.out _))))
      refine wpQuiet_nil ?_
      intro _ hw'
      obtain ⟨⟨dq, osq⟩, hw''⟩ := hw'
      have B2 : Hid (Below w.heap.size w (Go.Sort.grow (redrawn (w.alloc o) dq) osq)) := HB.out.trans ((below_regrown (w.alloc o) dq osq).mono (by simp))
      subst hw''
      generalize Go.Sort.grow (redrawn (w.alloc o) dq) osq = W at *
      clear RC r0 r1 r2 r3 r4 r5 r6
      go_wp2
      go_ret
      exact ⟨by rw [HF.out]; rfl, B2.out⟩
    · have HF : Hid (stBad N ⟨5, c, x, y⟩ = 0) := stBad_ok hr hs
      have he : ∀ w, (Op.equalIn 10000 54 (.agg #[.int .i64 5, .int .u64 c.a, .int .u64 c.b, .int .u64 c.c, .int .u64 c.d, .int .i64 x, .int .i64 y]) (.agg #[.int .i64 t.op, .int .u64 t.c.a, .int .u64 t.c.b, .int .u64 t.c.c, .int .u64 t.c.d, .int .i64 t.x, .int .i64 t.y])).run Tryd.prog w = .ok true w := fun w => (eqS ⟨5, c, x, y⟩ t w).trans (by rw [HT.out, bareS_eqb _ (by show ¬ 5 < 1; omega) (by show ¬ 5 < 5; omega)]; simp only [hs, decide_true, decide_false, Bool.not_true, Bool.not_false])
      go_enter Tryd.func22, Tryd.ntmps22
      go_wp2_with fail
      rw [← ho]
      clear ho
      obtain ⟨r0, r1, r2, r3, r4, r5, r6⟩ := RC.out
      refine wp_region_quiet_below (by kernel_rfl) (by kernel_rfl) ?_
      repeat (go_big_quiet_step (first
        | (go_at_call 41; exact Calls.regrown_of (BA.out _))))
      refine wpQuiet_nil ?_
      intro _ hw'
      obtain ⟨⟨dq, osq⟩, hw''⟩ := hw'
      have B2 : Hid (Below w.heap.size w (Go.Sort.grow (redrawn (w.alloc o) dq) osq)) := HB.out.trans ((below_regrown (w.alloc o) dq osq).mono (by simp))
      subst hw''
      generalize Go.Sort.grow (redrawn (w.alloc o) dq) osq = W at *
      clear RC r0 r1 r2 r3 r4 r5 r6
      go_wp2
      go_ret
      exact ⟨by rw [HF.out]; rfl, B2.out⟩
  have g5 : (op != 5) = true := by simp [hd]
  by_cases hx : 0 ≤ x ∧ x < (N : Int)
  case neg =>
    have HF : Hid (stBad N ⟨op, c, x, y⟩ = 1) := stBad_range (Or.inr (Or.inr (Or.inl ⟨hd, by show x < 0 ∨ (N : Int) ≤ x; omega⟩)))
    have hxd : decide (0 ≤ x ∧ x < (N : Int)) = false := by simp only [hx, decide_false]
    go_enter Tryd.func22, Tryd.ntmps22
    go_wp2_with fail
    refine Calls.mono (HC.out _) ?_
    rintro e w1 ⟨rfl, rfl⟩
    rw [hxd]
    go_wp2
    go_ret
    exact ⟨by rw [HF.out]; rfl, by rw [← ho]; exact HB.out⟩
  have hxd : decide (0 ≤ x ∧ x < (N : Int)) = true := by simp only [hx, and_self, decide_true]
  by_cases hf : op = 2
  · subst hf
    by_cases hy : 0 ≤ y ∧ y < (N : Int)
    case neg =>
      have HF : Hid (stBad N ⟨2, c, x, y⟩ = 1) := stBad_range (Or.inr (Or.inr (Or.inr ⟨rfl, by show y < 0 ∨ (N : Int) ≤ y; omega⟩)))
      have hyd : decide (0 ≤ y ∧ y < (N : Int)) = false := by simp only [hy, decide_false]
      go_enter Tryd.func22, Tryd.ntmps22
      go_wp2_with fail
      refine Calls.mono (HC.out _) ?_
      rintro e w1 ⟨rfl, rfl⟩
      rw [hxd]
      go_wp2_with fail
      refine Calls.mono (HC.out _) ?_
      rintro e w1 ⟨rfl, rfl⟩
      rw [hyd]
      go_wp2
      go_ret
      exact ⟨by rw [HF.out]; rfl, by rw [← ho]; exact HB.out⟩
    have hyd : decide (0 ≤ y ∧ y < (N : Int)) = true := by simp only [hy, and_self, decide_true]
    have hr : ¬ stRange N ⟨2, c, x, y⟩ := by
      show ¬ ((2 : Int) < 1 ∨ (5 : Int) < 2 ∨ ((2 : Int) ≠ 5 ∧ (x < 0 ∨ (N : Int) ≤ x)) ∨ ((2 : Int) = 2 ∧ (y < 0 ∨ (N : Int) ≤ y)))
      omega
    by_cases hs : stShape ⟨2, c, x, y⟩
    · have HF : Hid (stBad N ⟨2, c, x, y⟩ = 2) := stBad_shape hr hs
      have he : ∀ w, (Op.equalIn 10000 54 (.agg #[.int .i64 2, .int .u64 c.a, .int .u64 c.b, .int .u64 c.c, .int .u64 c.d, .int .i64 x, .int .i64 y]) (.agg #[.int .i64 t.op, .int .u64 t.c.a, .int .u64 t.c.b, .int .u64 t.c.c, .int .u64 t.c.d, .int .i64 t.x, .int .i64 t.y])).run Tryd.prog w = .ok false w := fun w => (eqS ⟨2, c, x, y⟩ t w).trans (by rw [HT.out, bareS_eqb _ (by show ¬ 2 < 1; omega) (by show ¬ 5 < 2; omega)]; simp only [hs, decide_true, decide_false, Bool.not_true, Bool.not_false])
      go_enter Tryd.func22, Tryd.ntmps22
      go_wp2_with fail
      refine Calls.mono (HC.out _) ?_
      rintro e w1 ⟨rfl, rfl⟩
      rw [hxd]
      go_wp2_with fail
      refine Calls.mono (HC.out _) ?_
      rintro e w1 ⟨rfl, rfl⟩
      rw [hyd]
      go_wp2_with fail
      rw [← ho]
      clear ho
      obtain ⟨r0, r1, r2, r3, r4, r5, r6⟩ := RC.out
      refine wp_region_quiet_below (by kernel_rfl) (by kernel_rfl) ?_
      repeat (go_big_quiet_step (first
        | (go_at_call 41; exact Calls.regrown_of (BA.out _))))
      refine wpQuiet_nil ?_
      intro _ hw'
      obtain ⟨⟨dq, osq⟩, hw''⟩ := hw'
      have B2 : Hid (Below w.heap.size w (Go.Sort.grow (redrawn (w.alloc o) dq) osq)) := HB.out.trans ((below_regrown (w.alloc o) dq osq).mono (by simp))
      subst hw''
      generalize Go.Sort.grow (redrawn (w.alloc o) dq) osq = W at *
      clear RC r0 r1 r2 r3 r4 r5 r6
      go_wp2
      go_ret
      exact ⟨by rw [HF.out]; rfl, B2.out⟩
    · have HF : Hid (stBad N ⟨2, c, x, y⟩ = 0) := stBad_ok hr hs
      have he : ∀ w, (Op.equalIn 10000 54 (.agg #[.int .i64 2, .int .u64 c.a, .int .u64 c.b, .int .u64 c.c, .int .u64 c.d, .int .i64 x, .int .i64 y]) (.agg #[.int .i64 t.op, .int .u64 t.c.a, .int .u64 t.c.b, .int .u64 t.c.c, .int .u64 t.c.d, .int .i64 t.x, .int .i64 t.y])).run Tryd.prog w = .ok true w := fun w => (eqS ⟨2, c, x, y⟩ t w).trans (by rw [HT.out, bareS_eqb _ (by show ¬ 2 < 1; omega) (by show ¬ 5 < 2; omega)]; simp only [hs, decide_true, decide_false, Bool.not_true, Bool.not_false])
      go_enter Tryd.func22, Tryd.ntmps22
      go_wp2_with fail
      refine Calls.mono (HC.out _) ?_
      rintro e w1 ⟨rfl, rfl⟩
      rw [hxd]
      go_wp2_with fail
      refine Calls.mono (HC.out _) ?_
      rintro e w1 ⟨rfl, rfl⟩
      rw [hyd]
      go_wp2_with fail
      rw [← ho]
      clear ho
      obtain ⟨r0, r1, r2, r3, r4, r5, r6⟩ := RC.out
      refine wp_region_quiet_below (by kernel_rfl) (by kernel_rfl) ?_
      repeat (go_big_quiet_step (first
        | (go_at_call 41; exact Calls.regrown_of (BA.out _))))
      refine wpQuiet_nil ?_
      intro _ hw'
      obtain ⟨⟨dq, osq⟩, hw''⟩ := hw'
      have B2 : Hid (Below w.heap.size w (Go.Sort.grow (redrawn (w.alloc o) dq) osq)) := HB.out.trans ((below_regrown (w.alloc o) dq osq).mono (by simp))
      subst hw''
      generalize Go.Sort.grow (redrawn (w.alloc o) dq) osq = W at *
      clear RC r0 r1 r2 r3 r4 r5 r6
      go_wp2
      go_ret
      exact ⟨by rw [HF.out]; rfl, B2.out⟩
  have g2 : (op == 2) = false := by simp [hf]
  have hr : ¬ stRange N ⟨op, c, x, y⟩ := by
    show ¬ (op < 1 ∨ 5 < op ∨ (op ≠ 5 ∧ (x < 0 ∨ (N : Int) ≤ x)) ∨ (op = 2 ∧ (y < 0 ∨ (N : Int) ≤ y)))
    omega
  by_cases hs : stShape ⟨op, c, x, y⟩
  · have HF : Hid (stBad N ⟨op, c, x, y⟩ = 2) := stBad_shape hr hs
    have he : ∀ w, (Op.equalIn 10000 54 (.agg #[.int .i64 op, .int .u64 c.a, .int .u64 c.b, .int .u64 c.c, .int .u64 c.d, .int .i64 x, .int .i64 y]) (.agg #[.int .i64 t.op, .int .u64 t.c.a, .int .u64 t.c.b, .int .u64 t.c.c, .int .u64 t.c.d, .int .i64 t.x, .int .i64 t.y])).run Tryd.prog w = .ok false w := fun w => (eqS ⟨op, c, x, y⟩ t w).trans (by rw [HT.out, bareS_eqb _ (by show ¬ op < 1; omega) (by show ¬ 5 < op; omega)]; simp only [hs, decide_true, decide_false, Bool.not_true, Bool.not_false])
    go_enter Tryd.func22, Tryd.ntmps22
    go_wp2_with fail
    refine Calls.mono (HC.out _) ?_
    rintro e w1 ⟨rfl, rfl⟩
    rw [hxd]
    go_wp2_with fail
    rw [← ho]
    clear ho
    obtain ⟨r0, r1, r2, r3, r4, r5, r6⟩ := RC.out
    refine wp_region_quiet_below (by kernel_rfl) (by kernel_rfl) ?_
    repeat (go_big_quiet_step (first
      | (go_at_call 41; exact Calls.regrown_of (BA.out _))))
    refine wpQuiet_nil ?_
    intro _ hw'
    obtain ⟨⟨dq, osq⟩, hw''⟩ := hw'
    have B2 : Hid (Below w.heap.size w (Go.Sort.grow (redrawn (w.alloc o) dq) osq)) := HB.out.trans ((below_regrown (w.alloc o) dq osq).mono (by simp))
    subst hw''
    generalize Go.Sort.grow (redrawn (w.alloc o) dq) osq = W at *
    clear RC r0 r1 r2 r3 r4 r5 r6
    go_wp2
    go_ret
    exact ⟨by rw [HF.out]; rfl, B2.out⟩
  · have HF : Hid (stBad N ⟨op, c, x, y⟩ = 0) := stBad_ok hr hs
    have he : ∀ w, (Op.equalIn 10000 54 (.agg #[.int .i64 op, .int .u64 c.a, .int .u64 c.b, .int .u64 c.c, .int .u64 c.d, .int .i64 x, .int .i64 y]) (.agg #[.int .i64 t.op, .int .u64 t.c.a, .int .u64 t.c.b, .int .u64 t.c.c, .int .u64 t.c.d, .int .i64 t.x, .int .i64 t.y])).run Tryd.prog w = .ok true w := fun w => (eqS ⟨op, c, x, y⟩ t w).trans (by rw [HT.out, bareS_eqb _ (by show ¬ op < 1; omega) (by show ¬ 5 < op; omega)]; simp only [hs, decide_true, decide_false, Bool.not_true, Bool.not_false])
    go_enter Tryd.func22, Tryd.ntmps22
    go_wp2_with fail
    refine Calls.mono (HC.out _) ?_
    rintro e w1 ⟨rfl, rfl⟩
    rw [hxd]
    go_wp2_with fail
    rw [← ho]
    clear ho
    obtain ⟨r0, r1, r2, r3, r4, r5, r6⟩ := RC.out
    refine wp_region_quiet_below (by kernel_rfl) (by kernel_rfl) ?_
    repeat (go_big_quiet_step (first
      | (go_at_call 41; exact Calls.regrown_of (BA.out _))))
    refine wpQuiet_nil ?_
    intro _ hw'
    obtain ⟨⟨dq, osq⟩, hw''⟩ := hw'
    have B2 : Hid (Below w.heap.size w (Go.Sort.grow (redrawn (w.alloc o) dq) osq)) := HB.out.trans ((below_regrown (w.alloc o) dq osq).mono (by simp))
    subst hw''
    generalize Go.Sort.grow (redrawn (w.alloc o) dq) osq = W at *
    clear RC r0 r1 r2 r3 r4 r5 r6
    go_wp2
    go_ret
    exact ⟨by rw [HF.out]; rfl, B2.out⟩
end Go.Proofs.YtopoiljgghglaaaDoor
namespace Go.Proofs.YtopoiljgghglaaaDoor
set_option linter.unusedSimpArgs false
set_option linter.unusedVariables false
set_option maxRecDepth 100000
open Go.RowKit
theorem pcheck_full (ss : List St) (v : Value) (w : World) (h : SsIn w v ss) (h200 : 200 < ss.length) :
    Calls Tryd.prog 9 #[v] w fun e w' => e = .returned (errV (stepsF ss)) ∧ Below w.heap.size w w' := by
  obtain ⟨a, cap, rfl, hm⟩ := ssIn_form h
  unfold maxLen at hm
  have g200 : (200 : Int) < (ss.length : Int) := by omega
  have HF : Hid (stepsF ss = 3) := by show _ = _; rw [stepsF, if_pos h200]
  clear h
  go_enter Tryd.func9, Tryd.ntmps9
  go_wp2
  go_ret
  exact ⟨by rw [HF.out]; rfl, (Below.refl _ _).alloc (Nat.le_refl _) _⟩
theorem pcheck_none (v : Value) (w : World) (h : SsIn w v []) :
    Calls Tryd.prog 9 #[v] w fun e w' => e = .returned (errV (stepsF [])) ∧ Below w.heap.size w w' := by
  obtain ⟨a, cap, rfl, hm⟩ := ssIn_form h
  simp only [List.length_nil]
  clear h
  go_enter Tryd.func9, Tryd.ntmps9
  go_wp2
  go_ret
  exact ⟨rfl, (Below.refl _ _).alloc (Nat.le_refl _) _⟩
set_option maxHeartbeats 4000000 in
theorem pcheck_at (ss : List St) (b off cap : Nat) (w : World) (hlt : b < w.heap.size) (hN : SsAt w b off ss) (h0 : 0 < ss.length) (h200 : ¬ 200 < ss.length) :
    Calls Tryd.prog 9 #[.slice (some ⟨b, off, none⟩) ss.length cap] w fun e w' => e = .returned (errV (stepsF ss)) ∧ Below w.heap.size w w' := by
  have g200 : (ss.length : Int) ≤ 200 := by omega
  have z0 : ((ss.length : Int) == 0) = false := by rw [beq_eq_false_iff_ne]; omega
  obtain ⟨o, ho⟩ : ∃ o : Obj, o = .cells #[.slice (some ⟨b, off, none⟩) ss.length cap] 23 := ⟨_, rfl⟩
  have hcell : (w.alloc o).cell? ⟨w.heap.size, 0, none⟩ = some (.slice (some ⟨b, off, none⟩) ss.length cap) := by rw [ho]; simp
  have hB0 : Below w.heap.size w (w.alloc o) := (Below.refl _ _).alloc (Nat.le_refl _) _
  have HCK : Hid (∀ (W : World) (n : St), Below (w.alloc o).heap.size (w.alloc o) W → Calls Tryd.prog 22 #[n.v, isV w.heap.size] W fun e w' => e = .returned (errV (stBad ss.length n)) ∧ Below W.heap.size W w') := fun W n hW =>
    checkStep_any ss.length (by omega) n w.heap.size _ cap W ((hW.cell (p := ⟨w.heap.size, 0, none⟩) (by simp)).trans hcell)
  have HN : Hid (SsAt (w.alloc o) b off ss) := hN.below hB0 hlt
  have HFZ : Hid (stScan ss.length ss = stepsF ss) := by show _ = _; rw [stepsF, if_neg h200, if_neg (by omega)]
  clear hcell hN
  go_enter Tryd.func9, Tryd.ntmps9
  go_wp2_with fail
  rw [← ho]
  clear ho
  go_loopw [18] (fun v wr => ∃ i : Nat, i ≤ ss.length ∧ v = .int .i64 i ∧ Hid (stScan ss.length ss = stScan ss.length (ss.drop i)) ∧ Hid (Below (w.alloc o).heap.size (w.alloc o) wr)) (fun v _ => ss.length - (intOf v).toNat)
  case atStart => exact ⟨0, by omega, rfl, Eq.refl _, Below.refl _ _⟩
  case round =>
    obtain ⟨i, hi, rfl, HS, HB⟩ := hrel
    by_cases hil : i < ss.length
    · obtain ⟨n, hn⟩ : ∃ n, ss[i]? = some n := ⟨ss[i], List.getElem?_eq_getElem hil⟩
      obtain ⟨c0, c1, c2, c3, c4, c5, c6⟩ := (HN.out.below HB.out (by simp; omega)) i n hn
      have hlt1 : (i : Int) < (ss.length : Int) := by omega
      have HSD := hid (stScan_drop ss.length ss i n hn)
      go_wp2_with fail
      refine Calls.mono (HCK.out _ n (HB.out.alloc HB.out.size _)) ?_
      rintro e w1 ⟨rfl, hb1⟩
      have B1 : Hid (Below (w.alloc o).heap.size (w.alloc o) w1) := (HB.out.alloc HB.out.size _).trans (hb1.mono (by have := HB.out.size; simp at this ⊢; omega))
      by_cases hz : stBad ss.length n = 0
      · have HS2 : Hid (stScan ss.length ss = stScan ss.length (ss.drop (i + 1))) := by show _ = _; rw [HS.out, HSD.out, if_pos hz]
        have e0 : errV (stBad ss.length n) = .nilIface := by rw [hz]; rfl
        rw [e0]
        clear hb1 c0 c1 c2 c3 c4 c5 c6 e0 hz
        go_wp2
        exact ⟨⟨i + 1, by omega, by go_num, HS2, B1⟩, by simp [intOf]; omega⟩
      · have HS2 : Hid (stepsF ss = stBad ss.length n) := by show _ = _; rw [← HFZ.out, HS.out, HSD.out, if_neg hz]
        have e0 : errV (stBad ss.length n) = .iface 41 (.int .i64 (stBad ss.length n)) := by unfold errV; rw [if_neg hz]
        rw [e0]
        clear hb1 c0 c1 c2 c3 c4 c5 c6
        go_wp2
        go_ret
        refine ⟨by rw [HS2.out, e0]; rfl, hB0.trans (B1.out.mono (by simp))⟩
    · have he : i = ss.length := by omega
      have hg1 : ¬ (i : Int) < (ss.length : Int) := by omega
      have HE : Hid (stepsF ss = 0) := by
        show _ = _
        rw [← HFZ.out, HS.out, he, List.drop_length]
        rfl
      go_wp2
      go_ret
      exact ⟨by rw [HE.out]; rfl, hB0.trans (HB.out.mono (by simp))⟩
theorem pcheck_any (ss : List St) (v : Value) (w : World) (h : SsIn w v ss) :
    Calls Tryd.prog 9 #[v] w fun e w' => e = .returned (errV (stepsF ss)) ∧ Below w.heap.size w w' := by
  by_cases h200 : 200 < ss.length
  · exact pcheck_full ss v w h h200
  rcases Nat.eq_zero_or_pos ss.length with h0 | h0
  · have e : ss = [] := List.eq_nil_of_length_eq_zero h0
    subst e
    exact pcheck_none v w h
  · obtain ⟨a, cap, rfl, hm, h | ⟨b, off, rfl, hlt, hn⟩⟩ := h
    · subst h
      simp at h0
    · exact pcheck_at ss b off cap w hlt hn h0 h200
end Go.Proofs.YtopoiljgghglaaaDoor
namespace Go.Proofs.YtopoiljgghglaaaDoor
set_option linter.unusedSimpArgs false
set_option linter.unusedVariables false
set_option maxRecDepth 100000
open Go.RowKit
/-- A step that is not known yet. -/
abbrev stZ : St := ⟨0, z4, 0, 0⟩
/-- A fork. -/
abbrev stF (x y : Nat) : St := ⟨2, z4, x, y⟩
/-- The last step. -/
abbrev stD : St := ⟨5, z4, 0, 0⟩
/-- The steps of a tree, the first of them being step p. -/
def Rx.cod : Rx → Nat → List St
  | .leaf n, p => if n.op = 1 then [⟨1, n.c, ((p + 1 : Nat) : Int), 0⟩] else if n.op = 8 then [⟨3, z4, ((p + 1 : Nat) : Int), 0⟩] else if n.op = 9 then [⟨4, z4, ((p + 1 : Nat) : Int), 0⟩] else []
  | .one n a, p =>
    if n.op = 5 then stF (p + 1) (p + 1 + (a.cod (p + 1)).length + 1) :: (a.cod (p + 1) ++ [stF (p + 1) (p + 1 + (a.cod (p + 1)).length + 1)])
    else if n.op = 6 then a.cod p ++ [stF p (p + (a.cod p).length + 1)]
    else stF (p + 1) (p + 1 + (a.cod (p + 1)).length) :: a.cod (p + 1)
  | .two n a b, p =>
    if n.op = 3 then a.cod p ++ b.cod (p + (a.cod p).length)
    else stF (p + 1) (p + 1 + (a.cod (p + 1)).length + 1) :: (a.cod (p + 1) ++ (stF (p + 1 + (a.cod (p + 1)).length + 1 + (b.cod (p + 1 + (a.cod (p + 1)).length + 1)).length) (p + 1 + (a.cod (p + 1)).length + 1 + (b.cod (p + 1 + (a.cod (p + 1)).length + 1)).length) :: b.cod (p + 1 + (a.cod (p + 1)).length + 1)))
theorem Rx.cod_len : ∀ (t : Rx) (p : Nat), (t.cod p).length ≤ 2 * t.flat.length
  | .leaf n, p => by
    simp only [Rx.cod, Rx.flat]
    repeat' split
    all_goals simp
  | .one n a, p => by
    have h1 := a.cod_len p
    have h2 := a.cod_len (p + 1)
    simp only [Rx.cod, Rx.flat]
    repeat' split
    all_goals simp
    all_goals omega
  | .two n a b, p => by
    have h1 := a.cod_len p
    have h2 := a.cod_len (p + 1)
    have h3 := b.cod_len (p + (a.cod p).length)
    have h4 := b.cod_len (p + 1 + (a.cod (p + 1)).length + 1)
    simp only [Rx.cod, Rx.flat]
    repeat' split
    all_goals simp
    all_goals omega
/-- The program of a tree. -/
def Rx.prog (t : Rx) : List St := t.cod 0 ++ [stD]
end Go.Proofs.YtopoiljgghglaaaDoor
namespace Go.Proofs.YtopoiljgghglaaaDoor
set_option linter.unusedSimpArgs false
set_option linter.unusedVariables false
set_option maxRecDepth 100000
open Go.RowKit

/-- One step of a run, from step k at place a. -/
def Stp (P : List St) (s : List UInt8) (k a k' a' : Nat) : Prop := ∃ n, P[k]? = some n ∧
  ((n.op = 1 ∧ k' = n.x.toNat ∧ a' = a + 1 ∧ ∃ c, s[a]? = some c ∧ n.c.has c.toNat = true) ∨ (n.op = 2 ∧ (k' = n.x.toNat ∨ k' = n.y.toNat) ∧ a' = a) ∨ (n.op = 3 ∧ k' = n.x.toNat ∧ a' = a ∧ a = 0) ∨ (n.op = 4 ∧ k' = n.x.toNat ∧ a' = a ∧ a = s.length))
/-- So many steps of a run. -/
inductive Pth (P : List St) (s : List UInt8) : Nat → Nat → Nat → Nat → Nat → Prop
  | nil (k a : Nat) : Pth P s 0 k a k a
  | cons (m k a k1 a1 k' a' : Nat) : Stp P s k a k1 a1 → Pth P s m k1 a1 k' a' → Pth P s (m + 1) k a k' a'
theorem Pth.trans {P : List St} {s : List UInt8} {m n k a k1 a1 k2 a2 : Nat} (h1 : Pth P s m k a k1 a1) (h2 : Pth P s n k1 a1 k2 a2) : Pth P s (m + n) k a k2 a2 := by
  induction h1 with
  | nil k a => rw [Nat.zero_add]; exact h2
  | cons m k a k3 a3 k' a' h _ ih =>
    rw [show m + 1 + n = m + n + 1 from by omega]
    exact .cons _ _ _ _ _ _ _ h (ih h2)
theorem Pth.one {P : List St} {s : List UInt8} {k a k1 a1 : Nat} (h : Stp P s k a k1 a1) : Pth P s 1 k a k1 a1 := .cons _ _ _ _ _ _ _ h (.nil _ _)
/-- The steps L stand in P from p on. -/
def Seg (P : List St) (p : Nat) (L : List St) : Prop := ∀ i n, L[i]? = some n → P[p + i]? = some n
theorem Seg.left {P : List St} {p : Nat} {A B : List St} (h : Seg P p (A ++ B)) : Seg P p A := fun i n hi => by
  refine h i n ?_
  have : i < A.length := by
    rcases Nat.lt_or_ge i A.length with h' | h'
    · exact h'
    · rw [List.getElem?_eq_none h'] at hi; cases hi
  rw [List.getElem?_append_left this]
  exact hi
theorem Seg.right {P : List St} {p : Nat} {A B : List St} (h : Seg P p (A ++ B)) : Seg P (p + A.length) B := fun i n hi => by
  have := h (A.length + i) n (by rw [List.getElem?_append_right (by omega)]; simpa using hi)
  rw [← this]
  congr 1
  omega
theorem Seg.head {P : List St} {p : Nat} {n : St} {B : List St} (h : Seg P p (n :: B)) : P[p]? = some n := h 0 n rfl
theorem Seg.tail {P : List St} {p : Nat} {n : St} {B : List St} (h : Seg P p (n :: B)) : Seg P (p + 1) B := Seg.right (A := [n]) h
theorem stp_fork {P : List St} {s : List UInt8} {k x y a : Nat} (h : P[k]? = some (stF x y)) : Stp P s k a x a ∧ Stp P s k a y a :=
  ⟨⟨_, h, Or.inr (Or.inl ⟨rfl, Or.inl (by simp), rfl⟩)⟩, ⟨_, h, Or.inr (Or.inl ⟨rfl, Or.inr (by simp), rfl⟩)⟩⟩
theorem fork_stp {P : List St} {s : List UInt8} {k x y a k' a' : Nat} (h : P[k]? = some (stF x y)) (hs : Stp P s k a k' a') : (k' = x ∨ k' = y) ∧ a' = a := by
  obtain ⟨n, hn, hc⟩ := hs
  rw [h] at hn
  obtain rfl := Option.some.inj hn
  rcases hc with ⟨h1, _⟩ | ⟨_, h2, h3⟩ | ⟨h1, _⟩ | ⟨h1, _⟩
  · simp at h1
  · exact ⟨by simpa using h2, h3⟩
  · simp at h1
  · simp at h1
/-- What fits is come to. -/
theorem fit_path (P : List St) (s : List UInt8) : ∀ (t : Rx), t.Ok → (∀ n ∈ t.flat, 1 ≤ n.op ∧ n.op ≤ 9) → ∀ (p i j : Nat), Seg P p (t.cod p) → Fit s t i j → ∃ m, Pth P s m p i (p + (t.cod p).length) j
  | .leaf n, hk, ho, p, i, j, hS, hF => by
    have hop := ho n (by simp [Rx.flat])
    have h0 : prt n.op = 0 := hk
    have h2 : ¬ prt n.op = 2 := by omega
    have h3 : ¬ prt n.op = 1 := by omega
    rw [prt_two] at h2
    rw [prt_one] at h3
    simp only [Rx.cod] at hS ⊢
    simp only [Fit] at hF
    by_cases h1 : n.op = 1
    · rw [if_pos h1] at hF
      simp only [if_pos h1] at hS ⊢
      obtain ⟨c, hc, hh, rfl⟩ := hF
      exact ⟨1, .one ⟨_, hS.head, Or.inl ⟨rfl, by simp, rfl, c, hc, hh⟩⟩⟩
    · rw [if_neg h1] at hF
      simp only [if_neg h1] at hS ⊢
      by_cases h8 : n.op = 8
      · rw [if_pos h8] at hF
        simp only [if_pos h8] at hS ⊢
        obtain ⟨rfl, rfl⟩ := hF
        exact ⟨1, .one ⟨_, hS.head, Or.inr (Or.inr (Or.inl ⟨rfl, by simp, rfl, rfl⟩))⟩⟩
      · rw [if_neg h8] at hF
        simp only [if_neg h8] at hS ⊢
        by_cases h9 : n.op = 9
        · rw [if_pos h9] at hF
          simp only [if_pos h9] at hS ⊢
          obtain ⟨rfl, rfl⟩ := hF
          exact ⟨1, .one ⟨_, hS.head, Or.inr (Or.inr (Or.inr ⟨rfl, by simp, rfl, rfl⟩))⟩⟩
        · rw [if_neg h9] at hF
          simp only [if_neg h9] at hS ⊢
          obtain ⟨rfl, _⟩ := hF
          exact ⟨0, .nil _ _⟩
  | .one n a, hk, ho, p, i, j, hS, hF => by
    have ih := fit_path P s a hk.2 (fun m hm => ho m (by simp [Rx.flat, hm]))
    simp only [Rx.cod] at hS ⊢
    simp only [Fit] at hF
    by_cases h5 : n.op = 5
    · rw [if_pos h5] at hF
      simp only [if_pos h5] at hS ⊢
      have hA := hS.tail.left
      have hE := hS.tail.right.head
      have hf1 := hS.head
      have loop : ∀ {i j : Nat}, Str s.length (Fit s a) i j → ∃ m, Pth P s m (p + 1 + (a.cod (p + 1)).length) i (p + 1 + (a.cod (p + 1)).length + 1) j := by
        intro i j hs
        induction hs with
        | nil i _ => exact ⟨1, .one (stp_fork hE).2⟩
        | cons i k j h1 _ ih2 =>
          obtain ⟨m1, p1⟩ := ih (p + 1) i k hA h1
          obtain ⟨m2, p2⟩ := ih2
          exact ⟨1 + m1 + m2, ((Pth.one (stp_fork hE).1).trans p1).trans p2⟩
      have e : p + (stF (p + 1) (p + 1 + (a.cod (p + 1)).length + 1) :: (a.cod (p + 1) ++ [stF (p + 1) (p + 1 + (a.cod (p + 1)).length + 1)])).length = p + 1 + (a.cod (p + 1)).length + 1 := by simp; omega
      rw [e]
      cases hF with
      | nil _ _ => exact ⟨1, .one (stp_fork hf1).2⟩
      | cons _ k _ h1 h2 =>
        obtain ⟨m1, p1⟩ := ih (p + 1) i k hA h1
        obtain ⟨m2, p2⟩ := loop h2
        exact ⟨1 + m1 + m2, ((Pth.one (stp_fork hf1).1).trans p1).trans p2⟩
    · rw [if_neg h5] at hF
      simp only [if_neg h5] at hS ⊢
      by_cases h6 : n.op = 6
      · rw [if_pos h6] at hF
        simp only [if_pos h6] at hS ⊢
        have hA := hS.left
        have hE := hS.right.head
        have loop : ∀ {i j : Nat}, Str s.length (Fit s a) i j → ∃ m, Pth P s m (p + (a.cod p).length) i (p + (a.cod p).length + 1) j := by
          intro i j hs
          induction hs with
          | nil i _ => exact ⟨1, .one (stp_fork hE).2⟩
          | cons i k j h1 _ ih2 =>
            obtain ⟨m1, p1⟩ := ih p i k hA h1
            obtain ⟨m2, p2⟩ := ih2
            exact ⟨1 + m1 + m2, ((Pth.one (stp_fork hE).1).trans p1).trans p2⟩
        obtain ⟨k, h1, h2⟩ := hF
        obtain ⟨m1, p1⟩ := ih p i k hA h1
        obtain ⟨m2, p2⟩ := loop h2
        rw [show p + (a.cod p ++ [stF p (p + (a.cod p).length + 1)]).length = p + (a.cod p).length + 1 from by simp; omega]
        exact ⟨m1 + m2, p1.trans p2⟩
      · rw [if_neg h6] at hF
        simp only [if_neg h6] at hS ⊢
        have hA := hS.tail
        have hf1 := hS.head
        rw [show p + (stF (p + 1) (p + 1 + (a.cod (p + 1)).length) :: a.cod (p + 1)).length = p + 1 + (a.cod (p + 1)).length from by simp; omega]
        rcases hF with ⟨rfl, _⟩ | h1
        · exact ⟨1, .one (stp_fork hf1).2⟩
        · obtain ⟨m1, p1⟩ := ih (p + 1) i j hA h1
          exact ⟨1 + m1, (Pth.one (stp_fork hf1).1).trans p1⟩
  | .two n a b, hk, ho, p, i, j, hS, hF => by
    have iha := fit_path P s a hk.2.1 (fun m hm => ho m (by simp [Rx.flat, hm]))
    have ihb := fit_path P s b hk.2.2 (fun m hm => ho m (by simp [Rx.flat, hm]))
    simp only [Rx.cod] at hS ⊢
    simp only [Fit] at hF
    by_cases h3 : n.op = 3
    · rw [if_pos h3] at hF
      simp only [if_pos h3] at hS ⊢
      obtain ⟨k, h1, h2⟩ := hF
      obtain ⟨m1, p1⟩ := iha p i k hS.left h1
      obtain ⟨m2, p2⟩ := ihb _ k j hS.right h2
      rw [List.length_append, ← Nat.add_assoc]
      exact ⟨m1 + m2, p1.trans p2⟩
    · rw [if_neg h3] at hF
      simp only [if_neg h3] at hS ⊢
      have hf1 := hS.head
      have hA := hS.tail.left
      have hf2 := hS.tail.right.head
      have hB := hS.tail.right.tail
      generalize hq : p + 1 + (a.cod (p + 1)).length + 1 = q at *
      rw [show p + (stF (p + 1) q :: (a.cod (p + 1) ++ stF (q + (b.cod q).length) (q + (b.cod q).length) :: b.cod q)).length = q + (b.cod q).length from by simp; omega]
      rcases hF with h1 | h1
      · obtain ⟨m1, p1⟩ := iha (p + 1) i j hA h1
        exact ⟨1 + m1 + 1, ((Pth.one (stp_fork hf1).1).trans p1).trans (.one (stp_fork hf2).1)⟩
      · obtain ⟨m1, p1⟩ := ihb q i j hB h1
        exact ⟨1 + m1, (Pth.one (stp_fork hf1).2).trans p1⟩
/-- From the beginning of a part whoever comes out of it comes to the step behind it, and the part fits what was between. -/
def Out (P : List St) (s : List UInt8) (t : Rx) (p : Nat) : Prop := ∀ (n i k a : Nat), i ≤ s.length → Pth P s n p i k a → (k < p ∨ p + (t.cod p).length ≤ k) → ∃ j m, m ≤ n ∧ Fit s t i j ∧ Pth P s m (p + (t.cod p).length) j k a
theorem out_loop {P : List St} {s : List UInt8} {t : Rx} {p : Nat} (h : Out P s t p) (hF : P[p + (t.cod p).length]? = some (stF p (p + (t.cod p).length + 1))) : ∀ (N n i k a : Nat), n ≤ N → i ≤ s.length → Pth P s n p i k a → (k < p ∨ p + (t.cod p).length + 1 ≤ k) → ∃ j m, m ≤ n ∧ (∃ q, Fit s t i q ∧ Str s.length (Fit s t) q j) ∧ Pth P s m (p + (t.cod p).length + 1) j k a := by
  intro N
  induction N with
  | zero =>
    intro n i k a hn hi hp hout
    obtain ⟨j, m, hm, hf, hq⟩ := h n i k a hi hp (by omega)
    have : m = 0 := by omega
    subst this
    cases hq
    omega
  | succ N ih =>
    intro n i k a hn hi hp hout
    obtain ⟨j, m, hm, hf, hq⟩ := h n i k a hi hp (by omega)
    have hj := (fit_le s t i j hf).2
    cases hq with
    | nil => omega
    | cons m _ _ k1 a1 _ _ hs hr =>
      obtain ⟨hk, ha1⟩ := fork_stp hF hs
      rw [ha1] at hr
      rcases hk with rfl | rfl
      · obtain ⟨j2, m2, hm2, ⟨q, hq1, hq2⟩, hq3⟩ := ih m j k a (by omega) hj hr hout
        exact ⟨j2, m2, by omega, ⟨j, hf, .cons _ _ _ hq1 hq2⟩, hq3⟩
      · exact ⟨j, m, by omega, ⟨j, hf, .nil _ hj⟩, hr⟩
/-- Who comes out of a part has fitted it. -/
theorem path_fit (P : List St) (s : List UInt8) : ∀ (t : Rx), t.Ok → (∀ n ∈ t.flat, 1 ≤ n.op ∧ n.op ≤ 9) → ∀ (p : Nat), Seg P p (t.cod p) → Out P s t p
  | .leaf n, hk, ho, p, hS => by
    intro m i k a hi hp hout
    simp only [Rx.cod] at hS hout ⊢
    simp only [Fit]
    by_cases h1 : n.op = 1
    · simp only [if_pos h1] at hS hout ⊢
      cases hp with
      | nil => simp at hout; omega
      | cons m _ _ k1 a1 _ _ hs hr =>
        obtain ⟨x, hx, hc⟩ := hs
        rw [hS.head] at hx
        obtain rfl := Option.some.inj hx
        rcases hc with ⟨_, h2, h3, h4⟩ | ⟨h2, _⟩ | ⟨h2, _⟩ | ⟨h2, _⟩
        · subst h3
          obtain ⟨c, hc, hh⟩ := h4
          refine ⟨i + 1, m, by omega, ⟨c, hc, hh, rfl⟩, ?_⟩
          rw [show (k1 : Nat) = p + 1 from by simpa using h2] at hr
          simpa using hr
        · simp at h2
        · simp at h2
        · simp at h2
    · simp only [if_neg h1] at hS hout ⊢
      by_cases h8 : n.op = 8
      · simp only [if_pos h8] at hS hout ⊢
        cases hp with
        | nil => simp at hout; omega
        | cons m _ _ k1 a1 _ _ hs hr =>
          obtain ⟨x, hx, hc⟩ := hs
          rw [hS.head] at hx
          obtain rfl := Option.some.inj hx
          rcases hc with ⟨h2, _⟩ | ⟨h2, _⟩ | ⟨_, h2, h3, h4⟩ | ⟨h2, _⟩
          · simp at h2
          · simp at h2
          · subst h3
            refine ⟨a1, m, by omega, ⟨h4, h4⟩, ?_⟩
            rw [show (k1 : Nat) = p + 1 from by simpa using h2] at hr
            simpa using hr
          · simp at h2
      · simp only [if_neg h8] at hS hout ⊢
        by_cases h9 : n.op = 9
        · simp only [if_pos h9] at hS hout ⊢
          cases hp with
          | nil => simp at hout; omega
          | cons m _ _ k1 a1 _ _ hs hr =>
            obtain ⟨x, hx, hc⟩ := hs
            rw [hS.head] at hx
            obtain rfl := Option.some.inj hx
            rcases hc with ⟨h2, _⟩ | ⟨h2, _⟩ | ⟨h2, _⟩ | ⟨_, h2, h3, h4⟩
            · simp at h2
            · simp at h2
            · simp at h2
            · subst h3
              refine ⟨a1, m, by omega, ⟨h4, h4⟩, ?_⟩
              rw [show (k1 : Nat) = p + 1 from by simpa using h2] at hr
              simpa using hr
        · simp only [if_neg h9] at hS hout ⊢
          exact ⟨i, m, Nat.le_refl _, ⟨rfl, hi⟩, by simpa using hp⟩
  | .one n t, hk, ho, p, hS => by
    have ih := path_fit P s t hk.2 (fun m hm => ho m (by simp [Rx.flat, hm]))
    intro m i k a hi hp hout
    simp only [Rx.cod] at hS hout ⊢
    simp only [Fit]
    by_cases h5 : n.op = 5
    · simp only [if_pos h5] at hS hout ⊢
      have hA := hS.tail.left
      have hE := hS.tail.right.head
      have hf1 := hS.head
      have e : p + (stF (p + 1) (p + 1 + (t.cod (p + 1)).length + 1) :: (t.cod (p + 1) ++ [stF (p + 1) (p + 1 + (t.cod (p + 1)).length + 1)])).length = p + 1 + (t.cod (p + 1)).length + 1 := by simp; omega
      rw [e] at hout ⊢
      cases hp with
      | nil => omega
      | cons m _ _ k1 a1 _ _ hs hr =>
        obtain ⟨hk1, ha1⟩ := fork_stp hf1 hs
        rw [ha1] at hr
        rcases hk1 with rfl | rfl
        · obtain ⟨j, m2, hm2, ⟨q, h1, h2⟩, h3⟩ := out_loop (ih (p + 1) hA) hE m m i k a (Nat.le_refl _) hi hr (by omega)
          exact ⟨j, m2, by omega, .cons _ _ _ h1 h2, h3⟩
        · exact ⟨i, m, by omega, .nil _ hi, hr⟩
    · simp only [if_neg h5] at hS hout ⊢
      by_cases h6 : n.op = 6
      · simp only [if_pos h6] at hS hout ⊢
        have hA := hS.left
        have hE := hS.right.head
        have e : p + (t.cod p ++ [stF p (p + (t.cod p).length + 1)]).length = p + (t.cod p).length + 1 := by simp; omega
        rw [e] at hout ⊢
        obtain ⟨j, m2, hm2, h1, h3⟩ := out_loop (ih p hA) hE m m i k a (Nat.le_refl _) hi hp hout
        exact ⟨j, m2, hm2, h1, h3⟩
      · simp only [if_neg h6] at hS hout ⊢
        have hA := hS.tail
        have hf1 := hS.head
        have e : p + (stF (p + 1) (p + 1 + (t.cod (p + 1)).length) :: t.cod (p + 1)).length = p + 1 + (t.cod (p + 1)).length := by simp; omega
        rw [e] at hout ⊢
        cases hp with
        | nil => omega
        | cons m _ _ k1 a1 _ _ hs hr =>
          obtain ⟨hk1, ha1⟩ := fork_stp hf1 hs
          rw [ha1] at hr
          rcases hk1 with rfl | rfl
          · obtain ⟨j, m2, hm2, h1, h3⟩ := ih (p + 1) hA m i k a hi hr (by omega)
            exact ⟨j, m2, by omega, Or.inr h1, h3⟩
          · exact ⟨i, m, by omega, Or.inl ⟨rfl, hi⟩, hr⟩
  | .two n t u, hk, ho, p, hS => by
    have iha := path_fit P s t hk.2.1 (fun m hm => ho m (by simp [Rx.flat, hm]))
    have ihb := path_fit P s u hk.2.2 (fun m hm => ho m (by simp [Rx.flat, hm]))
    intro m i k a hi hp hout
    simp only [Rx.cod] at hS hout ⊢
    simp only [Fit]
    by_cases h3 : n.op = 3
    · simp only [if_pos h3] at hS hout ⊢
      rw [List.length_append, ← Nat.add_assoc] at hout ⊢
      obtain ⟨j1, m1, hm1, hf1, hp1⟩ := iha p hS.left m i k a hi hp (by omega)
      obtain ⟨j2, m2, hm2, hf2, hp2⟩ := ihb _ hS.right m1 j1 k a (fit_le s t i j1 hf1).2 hp1 (by omega)
      exact ⟨j2, m2, by omega, ⟨j1, hf1, hf2⟩, hp2⟩
    · simp only [if_neg h3] at hS hout ⊢
      have hf1 := hS.head
      have hA := hS.tail.left
      have hf2 := hS.tail.right.head
      have hB := hS.tail.right.tail
      generalize hq : p + 1 + (t.cod (p + 1)).length + 1 = q at *
      rw [show p + (stF (p + 1) q :: (t.cod (p + 1) ++ stF (q + (u.cod q).length) (q + (u.cod q).length) :: u.cod q)).length = q + (u.cod q).length from by simp; omega] at hout ⊢
      cases hp with
      | nil => omega
      | cons m _ _ k1 a1 _ _ hs hr =>
        obtain ⟨hk1, ha1⟩ := fork_stp hf1 hs
        rw [ha1] at hr
        rcases hk1 with rfl | rfl
        · obtain ⟨j1, m1, hm1, hfa, hp1⟩ := iha (p + 1) hA m i k a hi hr (by omega)
          cases hp1 with
          | nil => omega
          | cons m1 _ _ k2 a2 _ _ hs2 hr2 =>
            obtain ⟨hk2, ha1⟩ := fork_stp hf2 hs2
            rw [ha1] at hr2
            rcases hk2 with rfl | rfl <;> exact ⟨j1, m1, by omega, Or.inl hfa, hr2⟩
        · obtain ⟨j1, m1, hm1, hfb, hp1⟩ := ihb _ hB m i k a hi hr (by omega)
          exact ⟨j1, m1, by omega, Or.inr hfb, hp1⟩
end Go.Proofs.YtopoiljgghglaaaDoor
