/- The landed prog: Check. (Made by wip/tools/genpk2.py.) The landed prog: Check. Package sim: WaysOf, CheckPlace, checked. What a pattern fits, as sets of places: plain mathematics. -/
import Derived.Test.YteobcgajaebabaaDoorY11
import Derived.Test.YteobcgajaebabaaDoorY02
import Derived.Test.YteobcgajaebabaaDoorY03
import Derived.Test.YteobcgajaebabaaDoorY04
namespace Go.Proofs.YteobcgajaebabaaDoor
set_option linter.unusedSimpArgs false
set_option linter.unusedVariables false
set_option maxRecDepth 100000
open Go.RowKit
theorem bareS_eqb (s : St) (h1 : ¬ s.op < 1) (h5 : ¬ 5 < s.op) : s.eqb (bareS s) = ! decide (stShape s) := by
  obtain ⟨op, c, x, y⟩ := s
  have hc : c.eqb c = true := eqb_self c
  have hop : op = 1 ∨ op = 2 ∨ op = 3 ∨ op = 4 ∨ op = 5 := by simp only at h1 h5; omega
  unfold stShape
  rcases hop with rfl | rfl | rfl | rfl | rfl <;> cases h : c.eqb z4 <;> by_cases hy : y = 0 <;> by_cases hx : x = 0 <;> simp [bareS, St.eqb, hc, h, hy, hx]
/-- What a step is held against: any step's number. -/
abbrev isV (b : Nat) : Value := .func (.func 84) #[] #[.pointer (some ⟨b, 0, none⟩)]
set_option maxHeartbeats 8000000 in
theorem checkStep_any (N : Nat) (hN : N ≤ 9223372036854775807) (s : St) (b : Nat) (a : Option Addr) (cap : Nat) (w : World) (hb : w.cell? ⟨b, 0, none⟩ = some (.slice a N cap)) :
    Calls Tryd.prog 85 #[s.v, isV b] w fun e w' => e = .returned (errV (stBad N s)) ∧ Below w.heap.size w w' := by
  obtain ⟨op, c, x, y⟩ := s
  have hbl : b < w.heap.size := by
    rcases Nat.lt_or_ge b w.heap.size with h | h
    · exact h
    · simp [World.cell?, Array.getElem?_eq_none h] at hb
  obtain ⟨o, ho⟩ : ∃ o : Obj, o = .cells #[.int .i64 op, .int .u64 c.a, .int .u64 c.b, .int .u64 c.c, .int .u64 c.d, .int .i64 x, .int .i64 y] 103 := ⟨_, rfl⟩
  have HC' : Hid (∀ (z : Int), Calls Tryd.prog 84 #[.int .i64 z, .pointer (some ⟨b, 0, none⟩)] (w.alloc o) fun e w' => e = .returned (.bool (decide (0 ≤ z ∧ z < (N : Int)))) ∧ w' = w.alloc o) := fun z =>
    isStep_any N hN z b a cap _ ((World.cell?_of_block (a := ⟨b, 0, none⟩) (Below.heap_alloc w o b hbl)).trans hb)
  have HB : Hid (Below w.heap.size w (w.alloc o)) := (Below.refl _ _).alloc (Nat.le_refl _) _
  obtain ⟨t, HT⟩ : ∃ t, Hid (t = bareS ⟨op, c, x, y⟩) := ⟨_, Eq.refl _⟩
  have BA : Hid (∀ W, Calls Tryd.prog 90 #[.agg #[.int .i64 op, .int .u64 c.a, .int .u64 c.b, .int .u64 c.c, .int .u64 c.d, .int .i64 x, .int .i64 y]] W fun e w' => e = .returned (.agg #[.int .i64 t.op, .int .u64 t.c.a, .int .u64 t.c.b, .int .u64 t.c.c, .int .u64 t.c.d, .int .i64 t.x, .int .i64 t.y]) ∧ Below W.heap.size W w') := by
    intro W
    rw [HT.out]
    exact bare_any ⟨op, c, x, y⟩ W
  have RC : Hid ((∀ d os, (Go.Sort.grow (redrawn (w.alloc o) d) os).cell? ⟨w.heap.size, 0, none⟩ = some (.int .i64 op)) ∧ (∀ d os, (Go.Sort.grow (redrawn (w.alloc o) d) os).cell? ⟨w.heap.size, 1, none⟩ = some (.int .u64 c.a)) ∧ (∀ d os, (Go.Sort.grow (redrawn (w.alloc o) d) os).cell? ⟨w.heap.size, 2, none⟩ = some (.int .u64 c.b)) ∧ (∀ d os, (Go.Sort.grow (redrawn (w.alloc o) d) os).cell? ⟨w.heap.size, 3, none⟩ = some (.int .u64 c.c)) ∧ (∀ d os, (Go.Sort.grow (redrawn (w.alloc o) d) os).cell? ⟨w.heap.size, 4, none⟩ = some (.int .u64 c.d)) ∧ (∀ d os, (Go.Sort.grow (redrawn (w.alloc o) d) os).cell? ⟨w.heap.size, 5, none⟩ = some (.int .i64 x)) ∧ (∀ d os, (Go.Sort.grow (redrawn (w.alloc o) d) os).cell? ⟨w.heap.size, 6, none⟩ = some (.int .i64 y))) := by
    refine ⟨?_, ?_, ?_, ?_, ?_, ?_, ?_⟩ <;> exact cell_regrown (by rw [ho]; simp)
  clear hb
  by_cases h1 : op < 1
  · have HF : Hid (stBad N ⟨op, c, x, y⟩ = 1) := stBad_range (Or.inl h1)
    go_enter Tryd.func85, Tryd.ntmps85
    go_wp2
    go_ret
    exact ⟨by rw [HF.out]; rfl, by rw [← ho]; exact HB.out⟩
  by_cases h5 : 5 < op
  · have HF : Hid (stBad N ⟨op, c, x, y⟩ = 1) := stBad_range (Or.inr (Or.inl h5))
    go_enter Tryd.func85, Tryd.ntmps85
    go_wp2
    go_ret
    exact ⟨by rw [HF.out]; rfl, by rw [← ho]; exact HB.out⟩
  have HC : Hid (∀ (z : Int), Calls Tryd.prog 84 #[.int .i64 z, .pointer (some ⟨b, 0, none⟩)] (w.alloc (.cells #[.int .i64 op, .int .u64 c.a, .int .u64 c.b, .int .u64 c.c, .int .u64 c.d, .int .i64 x, .int .i64 y] 103)) fun e w' => e = .returned (.bool (decide (0 ≤ z ∧ z < (N : Int)))) ∧ w' = w.alloc (.cells #[.int .i64 op, .int .u64 c.a, .int .u64 c.b, .int .u64 c.c, .int .u64 c.d, .int .i64 x, .int .i64 y] 103)) := by
    rw [← ho]
    exact HC'
  clear HC'
  by_cases hd : op = 5
  · subst hd
    have hr : ¬ stRange N ⟨5, c, x, y⟩ := by unfold stRange; simp
    by_cases hs : stShape ⟨5, c, x, y⟩
    · have HF : Hid (stBad N ⟨5, c, x, y⟩ = 2) := stBad_shape hr hs
      have he : ∀ w, (Op.equalIn 10000 103 (.agg #[.int .i64 5, .int .u64 c.a, .int .u64 c.b, .int .u64 c.c, .int .u64 c.d, .int .i64 x, .int .i64 y]) (.agg #[.int .i64 t.op, .int .u64 t.c.a, .int .u64 t.c.b, .int .u64 t.c.c, .int .u64 t.c.d, .int .i64 t.x, .int .i64 t.y])).run Tryd.prog w = .ok false w := fun w => (eqS ⟨5, c, x, y⟩ t w).trans (by rw [HT.out, bareS_eqb _ (by show ¬ 5 < 1; omega) (by show ¬ 5 < 5; omega)]; simp only [hs, decide_true, decide_false, Bool.not_true, Bool.not_false])
      go_enter Tryd.func85, Tryd.ntmps85
      go_wp2_with fail
      rw [← ho]
      clear ho
      obtain ⟨r0, r1, r2, r3, r4, r5, r6⟩ := RC.out
      refine wp_region_quiet_below (by kernel_rfl) (by kernel_rfl) ?_
      repeat (go_big_quiet_step (first
        | (go_at_call 90; exact Calls.regrown_of (BA.out _))))
      refine wpQuiet_nil ?_
      intro _ hw'
      obtain ⟨⟨dq, osq⟩, hw''⟩ := hw'
      have B2 : Hid (Below w.heap.size w (Go.Sort.grow (redrawn (w.alloc o) dq) osq)) := HB.out.trans ((below_regrown (w.alloc o) dq osq).mono (by simp))
      subst hw''
      generalize Go.Sort.grow (redrawn (w.alloc o) dq) osq = W at *
      clear RC r0 r1 r2 r3 r4 r5 r6
      go_wp2
      go_ret
      exact ⟨by rw [HF.out]; rfl, B2.out⟩
    · have HF : Hid (stBad N ⟨5, c, x, y⟩ = 0) := stBad_ok hr hs
      have he : ∀ w, (Op.equalIn 10000 103 (.agg #[.int .i64 5, .int .u64 c.a, .int .u64 c.b, .int .u64 c.c, .int .u64 c.d, .int .i64 x, .int .i64 y]) (.agg #[.int .i64 t.op, .int .u64 t.c.a, .int .u64 t.c.b, .int .u64 t.c.c, .int .u64 t.c.d, .int .i64 t.x, .int .i64 t.y])).run Tryd.prog w = .ok true w := fun w => (eqS ⟨5, c, x, y⟩ t w).trans (by rw [HT.out, bareS_eqb _ (by show ¬ 5 < 1; omega) (by show ¬ 5 < 5; omega)]; simp only [hs, decide_true, decide_false, Bool.not_true, Bool.not_false])
      go_enter Tryd.func85, Tryd.ntmps85
      go_wp2_with fail
      rw [← ho]
      clear ho
      obtain ⟨r0, r1, r2, r3, r4, r5, r6⟩ := RC.out
      refine wp_region_quiet_below (by kernel_rfl) (by kernel_rfl) ?_
      repeat (go_big_quiet_step (first
        | (go_at_call 90; exact Calls.regrown_of (BA.out _))))
      refine wpQuiet_nil ?_
      intro _ hw'
      obtain ⟨⟨dq, osq⟩, hw''⟩ := hw'
      have B2 : Hid (Below w.heap.size w (Go.Sort.grow (redrawn (w.alloc o) dq) osq)) := HB.out.trans ((below_regrown (w.alloc o) dq osq).mono (by simp))
      subst hw''
      generalize Go.Sort.grow (redrawn (w.alloc o) dq) osq = W at *
      clear RC r0 r1 r2 r3 r4 r5 r6
      go_wp2
      go_ret
      exact ⟨by rw [HF.out]; rfl, B2.out⟩
  have g5 : (op != 5) = true := by simp [hd]
  by_cases hx : 0 ≤ x ∧ x < (N : Int)
  case neg =>
    have HF : Hid (stBad N ⟨op, c, x, y⟩ = 1) := stBad_range (Or.inr (Or.inr (Or.inl ⟨hd, by show x < 0 ∨ (N : Int) ≤ x; omega⟩)))
    have hxd : decide (0 ≤ x ∧ x < (N : Int)) = false := by simp only [hx, decide_false]
    go_enter Tryd.func85, Tryd.ntmps85
    go_wp2_with fail
    refine Calls.mono (HC.out _) ?_
    rintro e w1 ⟨rfl, rfl⟩
    rw [hxd]
    go_wp2
    go_ret
    exact ⟨by rw [HF.out]; rfl, by rw [← ho]; exact HB.out⟩
  have hxd : decide (0 ≤ x ∧ x < (N : Int)) = true := by simp only [hx, and_self, decide_true]
  by_cases hf : op = 2
  · subst hf
    by_cases hy : 0 ≤ y ∧ y < (N : Int)
    case neg =>
      have HF : Hid (stBad N ⟨2, c, x, y⟩ = 1) := stBad_range (Or.inr (Or.inr (Or.inr ⟨rfl, by show y < 0 ∨ (N : Int) ≤ y; omega⟩)))
      have hyd : decide (0 ≤ y ∧ y < (N : Int)) = false := by simp only [hy, decide_false]
      go_enter Tryd.func85, Tryd.ntmps85
      go_wp2_with fail
      refine Calls.mono (HC.out _) ?_
      rintro e w1 ⟨rfl, rfl⟩
      rw [hxd]
      go_wp2_with fail
      refine Calls.mono (HC.out _) ?_
      rintro e w1 ⟨rfl, rfl⟩
      rw [hyd]
      go_wp2
      go_ret
      exact ⟨by rw [HF.out]; rfl, by rw [← ho]; exact HB.out⟩
    have hyd : decide (0 ≤ y ∧ y < (N : Int)) = true := by simp only [hy, and_self, decide_true]
    have hr : ¬ stRange N ⟨2, c, x, y⟩ := by
      show ¬ ((2 : Int) < 1 ∨ (5 : Int) < 2 ∨ ((2 : Int) ≠ 5 ∧ (x < 0 ∨ (N : Int) ≤ x)) ∨ ((2 : Int) = 2 ∧ (y < 0 ∨ (N : Int) ≤ y)))
      omega
    by_cases hs : stShape ⟨2, c, x, y⟩
    · have HF : Hid (stBad N ⟨2, c, x, y⟩ = 2) := stBad_shape hr hs
      have he : ∀ w, (Op.equalIn 10000 103 (.agg #[.int .i64 2, .int .u64 c.a, .int .u64 c.b, .int .u64 c.c, .int .u64 c.d, .int .i64 x, .int .i64 y]) (.agg #[.int .i64 t.op, .int .u64 t.c.a, .int .u64 t.c.b, .int .u64 t.c.c, .int .u64 t.c.d, .int .i64 t.x, .int .i64 t.y])).run Tryd.prog w = .ok false w := fun w => (eqS ⟨2, c, x, y⟩ t w).trans (by rw [HT.out, bareS_eqb _ (by show ¬ 2 < 1; omega) (by show ¬ 5 < 2; omega)]; simp only [hs, decide_true, decide_false, Bool.not_true, Bool.not_false])
      go_enter Tryd.func85, Tryd.ntmps85
      go_wp2_with fail
      refine Calls.mono (HC.out _) ?_
      rintro e w1 ⟨rfl, rfl⟩
      rw [hxd]
      go_wp2_with fail
      refine Calls.mono (HC.out _) ?_
      rintro e w1 ⟨rfl, rfl⟩
      rw [hyd]
      go_wp2_with fail
      rw [← ho]
      clear ho
      obtain ⟨r0, r1, r2, r3, r4, r5, r6⟩ := RC.out
      refine wp_region_quiet_below (by kernel_rfl) (by kernel_rfl) ?_
      repeat (go_big_quiet_step (first
        | (go_at_call 90; exact Calls.regrown_of (BA.out _))))
      refine wpQuiet_nil ?_
      intro _ hw'
      obtain ⟨⟨dq, osq⟩, hw''⟩ := hw'
      have B2 : Hid (Below w.heap.size w (Go.Sort.grow (redrawn (w.alloc o) dq) osq)) := HB.out.trans ((below_regrown (w.alloc o) dq osq).mono (by simp))
      subst hw''
      generalize Go.Sort.grow (redrawn (w.alloc o) dq) osq = W at *
      clear RC r0 r1 r2 r3 r4 r5 r6
      go_wp2
      go_ret
      exact ⟨by rw [HF.out]; rfl, B2.out⟩
    · have HF : Hid (stBad N ⟨2, c, x, y⟩ = 0) := stBad_ok hr hs
      have he : ∀ w, (Op.equalIn 10000 103 (.agg #[.int .i64 2, .int .u64 c.a, .int .u64 c.b, .int .u64 c.c, .int .u64 c.d, .int .i64 x, .int .i64 y]) (.agg #[.int .i64 t.op, .int .u64 t.c.a, .int .u64 t.c.b, .int .u64 t.c.c, .int .u64 t.c.d, .int .i64 t.x, .int .i64 t.y])).run Tryd.prog w = .ok true w := fun w => (eqS ⟨2, c, x, y⟩ t w).trans (by rw [HT.out, bareS_eqb _ (by show ¬ 2 < 1; omega) (by show ¬ 5 < 2; omega)]; simp only [hs, decide_true, decide_false, Bool.not_true, Bool.not_false])
      go_enter Tryd.func85, Tryd.ntmps85
      go_wp2_with fail
      refine Calls.mono (HC.out _) ?_
      rintro e w1 ⟨rfl, rfl⟩
      rw [hxd]
      go_wp2_with fail
      refine Calls.mono (HC.out _) ?_
      rintro e w1 ⟨rfl, rfl⟩
      rw [hyd]
      go_wp2_with fail
      rw [← ho]
      clear ho
      obtain ⟨r0, r1, r2, r3, r4, r5, r6⟩ := RC.out
      refine wp_region_quiet_below (by kernel_rfl) (by kernel_rfl) ?_
      repeat (go_big_quiet_step (first
        | (go_at_call 90; exact Calls.regrown_of (BA.out _))))
      refine wpQuiet_nil ?_
      intro _ hw'
      obtain ⟨⟨dq, osq⟩, hw''⟩ := hw'
      have B2 : Hid (Below w.heap.size w (Go.Sort.grow (redrawn (w.alloc o) dq) osq)) := HB.out.trans ((below_regrown (w.alloc o) dq osq).mono (by simp))
      subst hw''
      generalize Go.Sort.grow (redrawn (w.alloc o) dq) osq = W at *
      clear RC r0 r1 r2 r3 r4 r5 r6
      go_wp2
      go_ret
      exact ⟨by rw [HF.out]; rfl, B2.out⟩
  have g2 : (op == 2) = false := by simp [hf]
  have hr : ¬ stRange N ⟨op, c, x, y⟩ := by
    show ¬ (op < 1 ∨ 5 < op ∨ (op ≠ 5 ∧ (x < 0 ∨ (N : Int) ≤ x)) ∨ (op = 2 ∧ (y < 0 ∨ (N : Int) ≤ y)))
    omega
  by_cases hs : stShape ⟨op, c, x, y⟩
  · have HF : Hid (stBad N ⟨op, c, x, y⟩ = 2) := stBad_shape hr hs
    have he : ∀ w, (Op.equalIn 10000 103 (.agg #[.int .i64 op, .int .u64 c.a, .int .u64 c.b, .int .u64 c.c, .int .u64 c.d, .int .i64 x, .int .i64 y]) (.agg #[.int .i64 t.op, .int .u64 t.c.a, .int .u64 t.c.b, .int .u64 t.c.c, .int .u64 t.c.d, .int .i64 t.x, .int .i64 t.y])).run Tryd.prog w = .ok false w := fun w => (eqS ⟨op, c, x, y⟩ t w).trans (by rw [HT.out, bareS_eqb _ (by show ¬ op < 1; omega) (by show ¬ 5 < op; omega)]; simp only [hs, decide_true, decide_false, Bool.not_true, Bool.not_false])
    go_enter Tryd.func85, Tryd.ntmps85
    go_wp2_with fail
    refine Calls.mono (HC.out _) ?_
    rintro e w1 ⟨rfl, rfl⟩
    rw [hxd]
    go_wp2_with fail
    rw [← ho]
    clear ho
    obtain ⟨r0, r1, r2, r3, r4, r5, r6⟩ := RC.out
    refine wp_region_quiet_below (by kernel_rfl) (by kernel_rfl) ?_
    repeat (go_big_quiet_step (first
      | (go_at_call 90; exact Calls.regrown_of (BA.out _))))
    refine wpQuiet_nil ?_
    intro _ hw'
    obtain ⟨⟨dq, osq⟩, hw''⟩ := hw'
    have B2 : Hid (Below w.heap.size w (Go.Sort.grow (redrawn (w.alloc o) dq) osq)) := HB.out.trans ((below_regrown (w.alloc o) dq osq).mono (by simp))
    subst hw''
    generalize Go.Sort.grow (redrawn (w.alloc o) dq) osq = W at *
    clear RC r0 r1 r2 r3 r4 r5 r6
    go_wp2
    go_ret
    exact ⟨by rw [HF.out]; rfl, B2.out⟩
  · have HF : Hid (stBad N ⟨op, c, x, y⟩ = 0) := stBad_ok hr hs
    have he : ∀ w, (Op.equalIn 10000 103 (.agg #[.int .i64 op, .int .u64 c.a, .int .u64 c.b, .int .u64 c.c, .int .u64 c.d, .int .i64 x, .int .i64 y]) (.agg #[.int .i64 t.op, .int .u64 t.c.a, .int .u64 t.c.b, .int .u64 t.c.c, .int .u64 t.c.d, .int .i64 t.x, .int .i64 t.y])).run Tryd.prog w = .ok true w := fun w => (eqS ⟨op, c, x, y⟩ t w).trans (by rw [HT.out, bareS_eqb _ (by show ¬ op < 1; omega) (by show ¬ 5 < op; omega)]; simp only [hs, decide_true, decide_false, Bool.not_true, Bool.not_false])
    go_enter Tryd.func85, Tryd.ntmps85
    go_wp2_with fail
    refine Calls.mono (HC.out _) ?_
    rintro e w1 ⟨rfl, rfl⟩
    rw [hxd]
    go_wp2_with fail
    rw [← ho]
    clear ho
    obtain ⟨r0, r1, r2, r3, r4, r5, r6⟩ := RC.out
    refine wp_region_quiet_below (by kernel_rfl) (by kernel_rfl) ?_
    repeat (go_big_quiet_step (first
      | (go_at_call 90; exact Calls.regrown_of (BA.out _))))
    refine wpQuiet_nil ?_
    intro _ hw'
    obtain ⟨⟨dq, osq⟩, hw''⟩ := hw'
    have B2 : Hid (Below w.heap.size w (Go.Sort.grow (redrawn (w.alloc o) dq) osq)) := HB.out.trans ((below_regrown (w.alloc o) dq osq).mono (by simp))
    subst hw''
    generalize Go.Sort.grow (redrawn (w.alloc o) dq) osq = W at *
    clear RC r0 r1 r2 r3 r4 r5 r6
    go_wp2
    go_ret
    exact ⟨by rw [HF.out]; rfl, B2.out⟩
end Go.Proofs.YteobcgajaebabaaDoor
namespace Go.Proofs.YteobcgajaebabaaDoor
set_option linter.unusedSimpArgs false
set_option linter.unusedVariables false
set_option maxRecDepth 100000
open Go.RowKit
theorem pcheck_full (ss : List St) (v : Value) (w : World) (h : SsIn w v ss) (h200 : 200 < ss.length) :
    Calls Tryd.prog 72 #[v] w fun e w' => e = .returned (errV (stepsF ss)) ∧ Below w.heap.size w w' := by
  obtain ⟨a, cap, rfl, hm⟩ := ssIn_form h
  unfold maxLen at hm
  have g200 : (200 : Int) < (ss.length : Int) := by omega
  have HF : Hid (stepsF ss = 3) := by show _ = _; rw [stepsF, if_pos h200]
  clear h
  go_enter Tryd.func72, Tryd.ntmps72
  go_wp2
  go_ret
  exact ⟨by rw [HF.out]; rfl, (Below.refl _ _).alloc (Nat.le_refl _) _⟩
theorem pcheck_none (v : Value) (w : World) (h : SsIn w v []) :
    Calls Tryd.prog 72 #[v] w fun e w' => e = .returned (errV (stepsF [])) ∧ Below w.heap.size w w' := by
  obtain ⟨a, cap, rfl, hm⟩ := ssIn_form h
  simp only [List.length_nil]
  clear h
  go_enter Tryd.func72, Tryd.ntmps72
  go_wp2
  go_ret
  exact ⟨rfl, (Below.refl _ _).alloc (Nat.le_refl _) _⟩
set_option maxHeartbeats 4000000 in
theorem pcheck_at (ss : List St) (b off cap : Nat) (w : World) (hlt : b < w.heap.size) (hN : SsAt w b off ss) (h0 : 0 < ss.length) (h200 : ¬ 200 < ss.length) :
    Calls Tryd.prog 72 #[.slice (some ⟨b, off, none⟩) ss.length cap] w fun e w' => e = .returned (errV (stepsF ss)) ∧ Below w.heap.size w w' := by
  have g200 : (ss.length : Int) ≤ 200 := by omega
  have z0 : ((ss.length : Int) == 0) = false := by rw [beq_eq_false_iff_ne]; omega
  obtain ⟨o, ho⟩ : ∃ o : Obj, o = .cells #[.slice (some ⟨b, off, none⟩) ss.length cap] 76 := ⟨_, rfl⟩
  have hcell : (w.alloc o).cell? ⟨w.heap.size, 0, none⟩ = some (.slice (some ⟨b, off, none⟩) ss.length cap) := by rw [ho]; simp
  have hB0 : Below w.heap.size w (w.alloc o) := (Below.refl _ _).alloc (Nat.le_refl _) _
  have HCK : Hid (∀ (W : World) (n : St), Below (w.alloc o).heap.size (w.alloc o) W → Calls Tryd.prog 85 #[n.v, isV w.heap.size] W fun e w' => e = .returned (errV (stBad ss.length n)) ∧ Below W.heap.size W w') := fun W n hW =>
    checkStep_any ss.length (by omega) n w.heap.size _ cap W ((hW.cell (p := ⟨w.heap.size, 0, none⟩) (by simp)).trans hcell)
  have HN : Hid (SsAt (w.alloc o) b off ss) := hN.below hB0 hlt
  have HFZ : Hid (stScan ss.length ss = stepsF ss) := by show _ = _; rw [stepsF, if_neg h200, if_neg (by omega)]
  clear hcell hN
  go_enter Tryd.func72, Tryd.ntmps72
  go_wp2_with fail
  rw [← ho]
  clear ho
  go_loopw [18] (fun v wr => ∃ i : Nat, i ≤ ss.length ∧ v = .int .i64 i ∧ Hid (stScan ss.length ss = stScan ss.length (ss.drop i)) ∧ Hid (Below (w.alloc o).heap.size (w.alloc o) wr)) (fun v _ => ss.length - (intOf v).toNat)
  case atStart => exact ⟨0, by omega, rfl, Eq.refl _, Below.refl _ _⟩
  case round =>
    obtain ⟨i, hi, rfl, HS, HB⟩ := hrel
    by_cases hil : i < ss.length
    · obtain ⟨n, hn⟩ : ∃ n, ss[i]? = some n := ⟨ss[i], List.getElem?_eq_getElem hil⟩
      obtain ⟨c0, c1, c2, c3, c4, c5, c6⟩ := (HN.out.below HB.out (by simp; omega)) i n hn
      have hlt1 : (i : Int) < (ss.length : Int) := by omega
      have HSD := hid (stScan_drop ss.length ss i n hn)
      go_wp2_with fail
      refine Calls.mono (HCK.out _ n (HB.out.alloc HB.out.size _)) ?_
      rintro e w1 ⟨rfl, hb1⟩
      have B1 : Hid (Below (w.alloc o).heap.size (w.alloc o) w1) := (HB.out.alloc HB.out.size _).trans (hb1.mono (by have := HB.out.size; simp at this ⊢; omega))
      by_cases hz : stBad ss.length n = 0
      · have HS2 : Hid (stScan ss.length ss = stScan ss.length (ss.drop (i + 1))) := by show _ = _; rw [HS.out, HSD.out, if_pos hz]
        have e0 : errV (stBad ss.length n) = .nilIface := by rw [hz]; rfl
        rw [e0]
        clear hb1 c0 c1 c2 c3 c4 c5 c6 e0 hz
        go_wp2
        exact ⟨⟨i + 1, by omega, by go_num, HS2, B1⟩, by simp [intOf]; omega⟩
      · have HS2 : Hid (stepsF ss = stBad ss.length n) := by show _ = _; rw [← HFZ.out, HS.out, HSD.out, if_neg hz]
        have e0 : errV (stBad ss.length n) = .iface 23 (.int .i64 (stBad ss.length n)) := by unfold errV; rw [if_neg hz]
        rw [e0]
        clear hb1 c0 c1 c2 c3 c4 c5 c6
        go_wp2
        go_ret
        refine ⟨by rw [HS2.out, e0]; rfl, hB0.trans (B1.out.mono (by simp))⟩
    · have he : i = ss.length := by omega
      have hg1 : ¬ (i : Int) < (ss.length : Int) := by omega
      have HE : Hid (stepsF ss = 0) := by
        show _ = _
        rw [← HFZ.out, HS.out, he, List.drop_length]
        rfl
      go_wp2
      go_ret
      exact ⟨by rw [HE.out]; rfl, hB0.trans (HB.out.mono (by simp))⟩
theorem pcheck_any (ss : List St) (v : Value) (w : World) (h : SsIn w v ss) :
    Calls Tryd.prog 72 #[v] w fun e w' => e = .returned (errV (stepsF ss)) ∧ Below w.heap.size w w' := by
  by_cases h200 : 200 < ss.length
  · exact pcheck_full ss v w h h200
  rcases Nat.eq_zero_or_pos ss.length with h0 | h0
  · have e : ss = [] := List.eq_nil_of_length_eq_zero h0
    subst e
    exact pcheck_none v w h
  · obtain ⟨a, cap, rfl, hm, h | ⟨b, off, rfl, hlt, hn⟩⟩ := h
    · subst h
      simp at h0
    · exact pcheck_at ss b off cap w hlt hn h0 h200
end Go.Proofs.YteobcgajaebabaaDoor
namespace Go.Proofs.YteobcgajaebabaaDoor
set_option linter.unusedSimpArgs false
set_option linter.unusedVariables false
set_option maxRecDepth 100000
open Go.RowKit Go.Shelf
attribute [local go_sem] Oper.semAt_some
/-- append of all steps of a slice to an empty one. -/
theorem wpList_append_all {ops : Array Oper} {rest : List Oper} {o : Oper} {a : Act} {Q : Exit → Act → World → Prop} {w : World} (hgd : o.guard = none) (s x : Operand)
    (ho : o.op = .call { callee := .builtin .append, args := #[s, x], argTypes := #[76, 76] })
    (B : Nat) (v : Value) (hs : a.eval s = v) (hown : SsOwn w B v []) (ss : List St) (h0 : 0 < ss.length) (h200 : ss.length ≤ 200) (b off cap : Nat) (hx : a.eval x = .slice (some ⟨b, off, none⟩) ss.length cap)
    (hN : SsAt w b off ss) (hbase : B ≤ w.heap.size)
    (h : ∀ g c w', SsOwn w' B (.slice (some ⟨g, 0, none⟩) ss.length c) ss → w.grownBy w' v.ownBlock → B ≤ g → g < w'.heap.size → wpList Tryd.prog ops Q rest (a.put o.dst (.slice (some ⟨g, 0, none⟩) ss.length c)) w') : wpList Tryd.prog ops Q (o :: rest) a w := by
  obtain ⟨i0, hi, hz0, hz1, hz2⟩ := info_step
  refine wpList_append_lies w hgd s x 76 ho B 103 i0 _ 7 56 Tryd.underlying76 hi hz0 hz1 hz2 rfl (by decide) v 0 [] hs hown ⟨b, off, none⟩ ss.length cap (ssCells ss) hx (ssCells_len ss) ?_ (ssCells_one ss) h0 (by unfold maxLen; omega) (by omega) hbase w.heap.size rfl ?_
  · intro j u hj
    rw [Addr.add_lit]
    have hjl : j < ss.length * 7 := by
      have := (List.getElem?_eq_some_iff.1 hj).1
      rwa [ssCells_len] at this
    have hd : j = j / 7 * 7 + j % 7 := by omega
    obtain ⟨n, hn⟩ : ∃ n, ss[j / 7]? = some n := ⟨ss[j / 7]'(by omega), List.getElem?_eq_getElem (by omega)⟩
    have h1 := ssCells_at ss (j / 7) n hn (j % 7) (by omega)
    rw [← hd, hj] at h1
    obtain ⟨d0, d1, d2, d3, d4, d5, d6⟩ := hN (j / 7) n hn
    have e : off + j = off + j / 7 * 7 + j % 7 := by omega
    rw [e]
    generalize j % 7 = t at h1
    have ht : t = 0 ∨ t = 1 ∨ t = 2 ∨ t = 3 ∨ t = 4 ∨ t = 5 ∨ t = 6 := by
      have := (List.getElem?_eq_some_iff.1 h1.symm).1
      simp [stCells] at this
      omega
    rcases ht with rfl | rfl | rfl | rfl | rfl | rfl | rfl <;> (simp [stCells] at h1; subst h1; assumption)
  · intro g c w' h1 h2 h3 h4
    rw [Nat.zero_add, List.nil_append] at h1
    rw [Nat.zero_add]
    have hg : B ≤ g := by
      rcases h3 with h3 | h3
      · rcases hown.2 with ⟨hv, _⟩ | ⟨g', cap', cur, hv, hb, _⟩
        · rw [hv] at h3; cases h3
        · rw [hv] at h3
          injection h3 with h3
          simp at h3
          omega
      · omega
    exact h g c w' h1 h2 hg h4
set_option maxHeartbeats 1000000 in
theorem sclone_any (ss : List St) (h0 : 0 < ss.length) (h200 : ss.length ≤ 200) (b off cap : Nat) (w : World) (hlt : b < w.heap.size) (hN : SsAt w b off ss) :
    Calls Tryd.prog 73 #[.slice (some ⟨b, off, none⟩) ss.length cap] w fun e w' => ∃ g c, e = .returned (.slice (some ⟨g, 0, none⟩) ss.length c) ∧ Below w.heap.size w w' ∧ SsAt w' g 0 ss ∧ w.heap.size ≤ g ∧ g < w'.heap.size := by
  have hN2 := hid hN
  have hq : ∀ w, (binOp BinOp.eql 76 (.slice (some ⟨b, off, none⟩) ss.length cap) (.slice none 0 0)).run Tryd.prog w = .ok (.bool false) w := fun _ => by kernel_rfl
  clear hN
  go_enter Tryd.func73, Tryd.ntmps73
  go_wp2_with (at_builtin; refine wpList_append_all rfl _ _ rfl w.heap.size _ rfl ?hown ss h0 h200 b off cap rfl ?hat ?hbs ?_)
  case hown => exact World.ownsRow_lit w #[] 0 (Nat.le_refl _) (by unfold maxLen; omega) rfl
  case hat => exact hN2.out.below ((Below.refl _ _).alloc (Nat.le_refl _) _) hlt
  case hbs => simp
  intro g c w' hown hgr hg hgl
  have hN' : SsAt w' g 0 ss := by
    obtain ⟨a, c', hv, _, h | ⟨b', o', hv', _, h⟩⟩ := hown.isIn (by unfold maxLen; omega)
    · rw [h] at h0; simp at h0
    · injection hv with hv
      subst hv
      injection hv' with hv'
      injection hv' with e1 e2 _
      subst e1 e2
      exact h
  have hb : Below w.heap.size w w' := ((Below.refl _ _).alloc (Nat.le_refl _) (.cells #[] 103)).grown hgr (by simp) (fun k e => by simp [Value.ownBlock] at e; omega)
  have HR : Hid (Below w.heap.size w w' ∧ SsAt w' g 0 ss ∧ w.heap.size ≤ g ∧ g < w'.heap.size) := ⟨hb, hN', hg, hgl⟩
  clear hown hgr hN' hb hN2 hq
  go_wp2
  go_ret
  exact ⟨g, c, rfl, HR.out⟩
set_option maxHeartbeats 1000000 in
theorem waysOf_ok (ss : List St) (v : Value) (w : World) (hf : stepsF ss = 0) (hS : SsIn w v ss) :
    Calls Tryd.prog 46 #[v] w fun e w' => ∃ g c, e = .returned (.tuple #[wyV g 0 ss.length c, .nilIface]) ∧ Below w.heap.size w w' ∧ SsAt w' g 0 ss ∧ w.heap.size ≤ g ∧ g < w'.heap.size := by
  have HC := hid (fun w' (h : SsIn w' v ss) => pcheck_any ss v w' h)
  obtain ⟨h200, h0, _⟩ := stepsF_zero hf
  have HS := hid hS
  obtain ⟨a, cap, rfl, hm, h | ⟨b, off, rfl, hlt, hN⟩⟩ := hS
  · rw [h] at h0; simp at h0
  rw [hf, show errV 0 = .nilIface from rfl] at HC
  have HN := hid hN
  have HK := hid (fun w' (h : Below w.heap.size w w') => sclone_any ss h0 h200 b off cap w' (Nat.lt_of_lt_of_le hlt h.size) (HN.out.below h hlt))
  have hb0 : Below w.heap.size w (w.alloc (.cells #[.slice none 0 0] 105)) := (Below.refl _ _).alloc (Nat.le_refl _) _
  have HS0 := hid (HS.out.below hb0)
  have hh0 : (w.alloc (.cells #[.slice none 0 0] 105)).heap[w.heap.size]? = some (.cells #[.slice none 0 0] 105 (0, 0)) := World.alloc_heap_new w _
  obtain ⟨w0, hw0⟩ : ∃ w0, w.alloc (.cells #[.slice none 0 0] 105) = w0 := ⟨_, rfl⟩
  rw [hw0] at hb0 HS0 hh0
  have HH := hid hh0
  have HB0 := hid hb0
  clear hf hN hm HS hh0 hb0
  go_enter Tryd.func46, Tryd.ntmps46
  go_wp2_with fail
  refine Calls.mono (HC.out _ HS0.out) ?_
  rintro e w1 ⟨rfl, hb1⟩
  have HB1 := hid (HB0.out.trans (hb1.mono HB0.out.size))
  have HH1 : Hid (w1.heap[w.heap.size]? = some (.cells #[.slice none 0 0] 105 (0, 0))) := (hb1.block _ (heap_lt HH.out)).trans HH.out
  clear hb1 hw0
  go_wp2_with fail
  refine Calls.mono (HK.out _ HB1.out) ?_
  rintro e w2 ⟨g, c, rfl, hb2, hN2, hg, hgl⟩
  have hh2 := (hb2.block _ (heap_lt HH1.out)).trans HH1.out
  have u0 := Lib.cell_of_heap hh2 0
  have z0 := Lib.frozen_of_heap hh2 0
  simp only [List.getElem?_toArray, List.getElem?_cons_zero] at u0
  have HR : Hid (Below w.heap.size w (w2.setCell ⟨w.heap.size, 0, none⟩ (.slice (some ⟨g, 0, none⟩) ss.length c)) ∧ SsAt (w2.setCell ⟨w.heap.size, 0, none⟩ (.slice (some ⟨g, 0, none⟩) ss.length c)) g 0 ss ∧ w.heap.size ≤ g ∧ g < (w2.setCell ⟨w.heap.size, 0, none⟩ (.slice (some ⟨g, 0, none⟩) ss.length c)).heap.size) := by
    have hlt1 := heap_lt HH1.out
    refine ⟨(HB1.out.trans (hb2.mono HB1.out.size)).setCell (p := ⟨w.heap.size, 0, none⟩) (Nat.le_refl _) _, ?_, by omega, by simpa using hgl⟩
    exact hN2.grown (grown_setS w2 w.heap.size 0 _) hgl (by intro e; injection e with e; omega)
  have c2 : (w2.setCell ⟨w.heap.size, 0, none⟩ (.slice (some ⟨g, 0, none⟩) ss.length c)).cell? ⟨w.heap.size, 0, none⟩ = some (.slice (some ⟨g, 0, none⟩) ss.length c) := by
    have : Boxed w2 w.heap.size 105 (.slice none 0 0) := hh2
    exact (this.set _).cell
  clear hb2 hN2 hg hgl hh2 HH1 HH HB1 HB0
  go_wp2
  refine bodyPost_ret (v := .tuple #[wyV g 0 ss.length c, .nilIface]) (by simp [results, Tryd.results46, go_sem, c2]) rfl ⟨g, c, rfl, HR.out⟩
set_option maxHeartbeats 1000000 in
theorem waysOf_bad (ss : List St) (v : Value) (w : World) (hf : ¬ stepsF ss = 0) (hS : SsIn w v ss) :
    Calls Tryd.prog 46 #[v] w fun e w' => e = .returned (.tuple #[.agg #[.slice none 0 0], errV (stepsF ss)]) ∧ Below w.heap.size w w' := by
  have HC := hid (fun w' (h : SsIn w' v ss) => pcheck_any ss v w' h)
  have HS := hid hS
  obtain ⟨a, cap, rfl, hm⟩ := ssIn_form hS
  have hE : errV (stepsF ss) = .iface 23 (.int .i64 (stepsF ss)) := by unfold errV; rw [if_neg hf]
  rw [hE] at HC ⊢
  have hb0 : Below w.heap.size w (w.alloc (.cells #[.slice none 0 0] 105)) := (Below.refl _ _).alloc (Nat.le_refl _) _
  have HS0 := hid (HS.out.below hb0)
  have hh0 : (w.alloc (.cells #[.slice none 0 0] 105)).heap[w.heap.size]? = some (.cells #[.slice none 0 0] 105 (0, 0)) := World.alloc_heap_new w _
  obtain ⟨w0, hw0⟩ : ∃ w0, w.alloc (.cells #[.slice none 0 0] 105) = w0 := ⟨_, rfl⟩
  rw [hw0] at hb0 HS0 hh0
  have HH := hid hh0
  have HB0 := hid hb0
  clear hf hm HS hh0 hb0 hS
  go_enter Tryd.func46, Tryd.ntmps46
  go_wp2_with fail
  refine Calls.mono (HC.out _ HS0.out) ?_
  rintro e w1 ⟨rfl, hb1⟩
  have hB1 := HB0.out.trans (hb1.mono HB0.out.size)
  have hh1 : Boxed w1 w.heap.size 105 (.slice none 0 0) := (hb1.block _ (heap_lt HH.out)).trans HH.out
  have u0 := hh1.cell
  have z0 := hh1.frozen
  have c2 := (hh1.set (.slice none 0 0)).cell
  have HR := hid (hB1.setCell (p := ⟨w.heap.size, 0, none⟩) (Nat.le_refl _) (.slice none 0 0))
  clear hb1 hw0 HH HB0 HC HS0 hB1 hh1
  go_wp2
  refine bodyPost_ret (v := .tuple #[.agg #[.slice none 0 0], .iface 23 (.int .i64 (stepsF ss))]) (by simp [results, Tryd.results46, go_sem, c2]) rfl ⟨rfl, HR.out⟩
/-- What is wrong with a place of a text of n bytes. -/
def plE (n : Nat) (i : Int) : Int := if 400 < n then 3 else if 0 ≤ i ∧ i ≤ n then 0 else 1
theorem simE_eq (ss : List St) (n : Nat) (i : Int) : simE ss n i = if stepsF ss = 0 then plE n i else stepsF ss := rfl
theorem plE_cases (n : Nat) (i : Int) : plE n i = 0 ∨ plE n i = 1 ∨ plE n i = 3 := by
  unfold plE
  split
  · exact Or.inr (Or.inr rfl)
  · split
    · exact Or.inl rfl
    · exact Or.inr (Or.inl rfl)
set_option maxHeartbeats 1000000 in
theorem checkPlace_any (s : ByteArray) (i : Int) (w : World) (hs : s.size ≤ maxLen) :
    Calls Tryd.prog 48 #[.string s, .int .i64 i] w fun e w' => e = .returned (errV (plE s.size i)) ∧ Below w.heap.size w w' := by
  unfold maxLen at hs
  by_cases h4 : 400 < s.size
  · have HF : Hid (plE s.size i = 3) := by show _ = _; unfold plE; rw [if_pos h4]
    have g4 : (400 : Int) < (s.size : Int) := by omega
    clear h4
    go_enter Tryd.func48, Tryd.ntmps48
    go_wp2
    go_ret
    exact ⟨by rw [HF.out]; rfl, Below.refl _ _⟩
  · have g4 : (s.size : Int) ≤ 400 := by omega
    by_cases h0 : 0 ≤ i
    · by_cases h1 : i ≤ (s.size : Int)
      · have HF : Hid (plE s.size i = 0) := by show _ = _; unfold plE; rw [if_neg h4, if_pos ⟨h0, h1⟩]
        clear h4
        go_enter Tryd.func48, Tryd.ntmps48
        go_wp2
        go_ret
        exact ⟨by rw [HF.out]; rfl, Below.refl _ _⟩
      · have HF : Hid (plE s.size i = 1) := by show _ = _; unfold plE; rw [if_neg h4, if_neg (by omega)]
        clear h4
        go_enter Tryd.func48, Tryd.ntmps48
        go_wp2
        go_ret
        exact ⟨by rw [HF.out]; rfl, Below.refl _ _⟩
    · have HF : Hid (plE s.size i = 1) := by show _ = _; unfold plE; rw [if_neg h4, if_neg (by omega)]
      clear h4
      go_enter Tryd.func48, Tryd.ntmps48
      go_wp2
      go_ret
      exact ⟨by rw [HF.out]; rfl, Below.refl _ _⟩
theorem lasts_tab : Lasts Tab := fun w w' h hb => h.below hb (Nat.le_refl _)
end Go.Proofs.YteobcgajaebabaaDoor
namespace Go.Proofs.YteobcgajaebabaaDoor
set_option linter.unusedSimpArgs false
set_option linter.unusedVariables false
set_option maxRecDepth 100000
open Go.RowKit

/-- The places that stand in a relation to one. -/
noncomputable def rs (R : Nat → Nat → Prop) (i : Nat) : Nat → Bool := fun j => @decide (R i j) (Classical.propDecidable _)
theorem rs_iff {R : Nat → Nat → Prop} {i j : Nat} : rs R i j = true ↔ R i j := @decide_eq_true_iff (R i j) (Classical.propDecidable _)
/-- .. to one of some. -/
noncomputable def ov (R : Nat → Nat → Prop) (l : List Nat) : Nat → Bool := fun j => @decide (∃ k ∈ l, R k j) (Classical.propDecidable _)
theorem ov_iff {R : Nat → Nat → Prop} {l : List Nat} {j : Nat} : ov R l j = true ↔ ∃ k ∈ l, R k j := @decide_eq_true_iff (∃ k ∈ l, R k j) (Classical.propDecidable _)
noncomputable def fs (s : List UInt8) (t : Rx) (i : Nat) : Nat → Bool := rs (Fit s t) i
theorem fs_iff {s : List UInt8} {t : Rx} {i j : Nat} : fs s t i j = true ↔ Fit s t i j := rs_iff
theorem set_ext {p q : Nat → Bool} (h : ∀ j, p j = true ↔ q j = true) : p = q := by
  funext j
  have := h j
  cases hp : p j <;> cases hq : q j <;> simp_all
theorem join_iff {p q : Nat → Bool} {j : Nat} : joinP p q j = true ↔ p j = true ∨ q j = true := by simp [joinP]
theorem with_iff {p : Nat → Bool} {a j : Nat} : withP p a j = true ↔ p j = true ∨ j = a := by simp [withP]
theorem when_iff {so : Bool} {a j : Nat} : whenP so a j = true ↔ so = true ∧ j = a := by simp [whenP]
theorem ov_nil (R : Nat → Nat → Prop) : ov R [] = noP := set_ext fun j => by
  rw [ov_iff]
  simp [noP]
theorem ov_snoc (R : Nat → Nat → Prop) (l : List Nat) (x : Nat) : joinP (ov R l) (rs R x) = ov R (l ++ [x]) := set_ext fun j => by
  rw [join_iff, ov_iff, ov_iff, rs_iff]
  constructor
  · rintro (⟨k, hk, h⟩ | h)
    · exact ⟨k, by simp [hk], h⟩
    · exact ⟨x, by simp, h⟩
  · rintro ⟨k, hk, h⟩
    rw [List.mem_append, List.mem_singleton] at hk
    rcases hk with hk | rfl
    · exact Or.inl ⟨k, hk, h⟩
    · exact Or.inr h
theorem when_true (a : Nat) : whenP true a = withP noP a := set_ext fun j => by rw [when_iff, with_iff]; simp [noP]
theorem when_false (a : Nat) : whenP false a = noP := set_ext fun j => by rw [when_iff]; simp [noP]
/-- Ends, as a list. -/
theorem el_ends {s : List UInt8} {t : Rx} {i : Nat} {l : List Nat} (h : EndsR s t i l) (hs : s.length ≤ 400) : el (fs s t i) 448 = l := by
  refine rise_eq _ _ (List.Pairwise.filter _ List.pairwise_lt_range) h.1 (fun j => ?_)
  rw [el_mem, fs_iff, h.2]
  exact ⟨fun h => h.2, fun h => ⟨by have := fit_le s t i j h; omega, h⟩⟩
/-- The parts of a tree. -/
theorem fs_cat {s : List UInt8} (hs : s.length ≤ 400) (n : Nd) (a b : Rx) (i : Nat) (h3 : n.op = 3) : fs s (.two n a b) i = ov (Fit s b) (el (fs s a i) 448) := set_ext fun j => by
  rw [fs_iff, ov_iff]
  conv => lhs; unfold Fit
  rw [if_pos h3]
  constructor
  · rintro ⟨k, h1, h2⟩
    exact ⟨k, (el_mem _ _ _).2 ⟨by have := fit_le s a i k h1; omega, fs_iff.2 h1⟩, h2⟩
  · rintro ⟨k, h1, h2⟩
    exact ⟨k, fs_iff.1 ((el_mem _ _ _).1 h1).2, h2⟩
theorem fs_or {s : List UInt8} (n : Nd) (a b : Rx) (i : Nat) (h3 : ¬ n.op = 3) : fs s (.two n a b) i = joinP (fs s a i) (fs s b i) := set_ext fun j => by
  rw [fs_iff, join_iff, fs_iff, fs_iff]
  conv => lhs; unfold Fit
  rw [if_neg h3]
theorem fs_opt {s : List UInt8} (n : Nd) (a : Rx) (i : Nat) (hi : i ≤ s.length) (h5 : ¬ n.op = 5) (h6 : ¬ n.op = 6) : fs s (.one n a) i = withP (fs s a i) i := set_ext fun j => by
  rw [fs_iff, with_iff, fs_iff]
  conv => lhs; unfold Fit
  rw [if_neg h5, if_neg h6]
  constructor
  · rintro (⟨h, _⟩ | h)
    · exact Or.inr h.symm
    · exact Or.inl h
  · rintro (h | h)
    · exact Or.inr h
    · exact Or.inl ⟨h.symm, hi⟩
theorem Str.go {N : Nat} {R : Nat → Nat → Prop} (h : ∀ i j, R i j → i ≤ j ∧ j ≤ N) {i j : Nat} (hs : Str N R i j) : j = i ∨ ∃ k, i < k ∧ R i k ∧ Str N R k j := by
  induction hs with
  | nil i hi => exact Or.inl rfl
  | cons i k j h1 h2 ih =>
    rcases Nat.lt_or_ge i k with hik | hik
    · exact Or.inr ⟨k, hik, h1, h2⟩
    · have := (h i k h1).1
      obtain rfl : k = i := by omega
      exact ih
/-- Behind a place ahead. -/
def hop (s : List UInt8) (t : Rx) (i : Nat) : Nat → Nat → Prop := fun k j => i < k ∧ Fit s t k j
theorem fit_star_trans {s : List UInt8} (n : Nd) (a : Rx) (h : n.op = 5 ∨ n.op = 6) {i j k : Nat} (h1 : Fit s (.one n a) i j) (h2 : Fit s (.one n a) j k) : Fit s (.one n a) i k := by
  unfold Fit at h1 h2 ⊢
  by_cases h5 : n.op = 5
  · rw [if_pos h5] at h1 h2 ⊢
    exact h1.trans h2
  · have h6 : n.op = 6 := by omega
    rw [if_neg h5, if_pos h6] at h1 h2 ⊢
    obtain ⟨x, hx, hx'⟩ := h1
    obtain ⟨y, hy, hy'⟩ := h2
    exact ⟨x, hx, hx'.trans (.cons _ y _ hy hy')⟩
theorem fs_plus {s : List UInt8} (hs : s.length ≤ 400) (n : Nd) (a : Rx) (i : Nat) (h6 : n.op = 6) : fs s (.one n a) i = joinP (ov (hop s (.one n a) i) (el (fs s a i) 448)) (fs s a i) := set_ext fun j => by
  have h5 : ¬ n.op = 5 := by omega
  have hfit : ∀ x y, Fit s (.one n a) x y ↔ ∃ k, Fit s a x k ∧ Str s.length (Fit s a) k y := fun x y => by
    conv => lhs; unfold Fit
    rw [if_neg h5, if_pos h6]
  rw [fs_iff, join_iff, ov_iff, fs_iff, hfit]
  constructor
  · rintro ⟨k, h1, h2⟩
    have hle := fit_le s a i k h1
    rcases Str.go (fit_le s a) h2 with rfl | ⟨m, hm, h3, h4⟩
    · exact Or.inr h1
    · rcases Nat.lt_or_ge i k with hik | hik
      · exact Or.inl ⟨k, (el_mem _ _ _).2 ⟨by omega, fs_iff.2 h1⟩, hik, (hfit k j).2 ⟨m, h3, h4⟩⟩
      · obtain rfl : k = i := by omega
        have hle2 := fit_le s a k m h3
        rcases Str.go (fit_le s a) h4 with rfl | ⟨m', hm', h5', h6'⟩
        · exact Or.inr h3
        · exact Or.inl ⟨m, (el_mem _ _ _).2 ⟨by omega, fs_iff.2 h3⟩, hm, (hfit m j).2 ⟨m', h5', h6'⟩⟩
  · rintro (⟨k, h1, h2, h3⟩ | h1)
    · obtain ⟨m, h4, h5'⟩ := (hfit k j).1 h3
      exact ⟨k, fs_iff.1 ((el_mem _ _ _).1 h1).2, .cons _ m _ h4 h5'⟩
    · exact ⟨j, h1, .nil _ (fit_le s a i j h1).2⟩
theorem fs_star {s : List UInt8} (hs : s.length ≤ 400) (n : Nd) (a : Rx) (i : Nat) (hi : i ≤ s.length) (h5 : n.op = 5) : fs s (.one n a) i = withP (joinP (ov (hop s (.one n a) i) (el (fs s a i) 448)) (fs s a i)) i := set_ext fun j => by
  have hfit : ∀ x y, Fit s (.one n a) x y ↔ Str s.length (Fit s a) x y := fun x y => by
    conv => lhs; unfold Fit
    rw [if_pos h5]
  rw [fs_iff, with_iff, join_iff, ov_iff, fs_iff, hfit]
  constructor
  · intro h
    rcases Str.go (fit_le s a) h with rfl | ⟨k, hk, h1, h2⟩
    · exact Or.inr rfl
    · exact Or.inl (Or.inl ⟨k, (el_mem _ _ _).2 ⟨by have := fit_le s a i k h1; omega, fs_iff.2 h1⟩, hk, (hfit k j).2 h2⟩)
  · rintro ((⟨k, h1, h2, h3⟩ | h1) | rfl)
    · exact .cons _ k _ (fs_iff.1 ((el_mem _ _ _).1 h1).2) ((hfit k j).1 h3)
    · exact Str.one (fit_le s a) h1
    · exact .nil _ hi
/-- What follows a place that is there already is there already. -/
theorem hop_known {s : List UInt8} (n : Nd) (a : Rx) (h : n.op = 5 ∨ n.op = 6) (i : Nat) (l : List Nat) (x : Nat) (hx : ov (hop s (.one n a) i) l x = true) : ov (hop s (.one n a) i) (l ++ [x]) = ov (hop s (.one n a) i) l := set_ext fun j => by
  rw [ov_iff, ov_iff]
  constructor
  · rintro ⟨k, hk, h1, h2⟩
    rw [List.mem_append, List.mem_singleton] at hk
    rcases hk with hk | rfl
    · exact ⟨k, hk, h1, h2⟩
    · obtain ⟨m, hm, h3, h4⟩ := ov_iff.1 hx
      exact ⟨m, hm, h3, fit_star_trans n a h h4 h2⟩
  · rintro ⟨k, hk, h1⟩
    exact ⟨k, by simp [hk], h1⟩
theorem hop_back {s : List UInt8} (t : Rx) (i : Nat) (l : List Nat) (x : Nat) (hx : ¬ i < x) : ov (hop s t i) (l ++ [x]) = ov (hop s t i) l := set_ext fun j => by
  rw [ov_iff, ov_iff]
  constructor
  · rintro ⟨k, hk, h1, h2⟩
    rw [List.mem_append, List.mem_singleton] at hk
    rcases hk with hk | rfl
    · exact ⟨k, hk, h1, h2⟩
    · exact absurd h1 hx
  · rintro ⟨k, hk, h1⟩
    exact ⟨k, by simp [hk], h1⟩
theorem hop_on {s : List UInt8} (t : Rx) (i : Nat) (l : List Nat) (x : Nat) (hx : i < x) : joinP (ov (hop s t i) l) (fs s t x) = ov (hop s t i) (l ++ [x]) := by
  rw [← ov_snoc]
  congr 1
  refine set_ext fun j => ?_
  rw [fs_iff, rs_iff]
  exact ⟨fun h => ⟨hx, h⟩, fun h => h.2⟩
theorem fs_byte {s : List UInt8} (n : Nd) (i : Nat) (h1 : n.op = 1) : fs s (.leaf n) i = whenP (match s[i]? with | some c => n.c.has c.toNat | none => false) (i + 1) := set_ext fun j => by
  rw [fs_iff, when_iff]
  unfold Fit
  rw [if_pos h1]
  cases hc : s[i]? with
  | none => simp
  | some c => simp
theorem fs_begin {s : List UInt8} (n : Nd) (i : Nat) (h8 : n.op = 8) : fs s (.leaf n) i = whenP (decide (i = 0)) i := set_ext fun j => by
  rw [fs_iff, when_iff]
  unfold Fit
  rw [if_neg (by omega), if_pos h8]
  simp
  omega
theorem fs_end {s : List UInt8} (n : Nd) (i : Nat) (h9 : n.op = 9) : fs s (.leaf n) i = whenP (decide (i = s.length)) i := set_ext fun j => by
  rw [fs_iff, when_iff]
  unfold Fit
  rw [if_neg (by omega), if_neg (by omega), if_pos h9]
  simp
  omega
theorem fs_empty {s : List UInt8} (n : Nd) (i : Nat) (hi : i ≤ s.length) (h1 : ¬ n.op = 1) (h8 : ¬ n.op = 8) (h9 : ¬ n.op = 9) : fs s (.leaf n) i = whenP true i := set_ext fun j => by
  rw [fs_iff, when_iff]
  unfold Fit
  rw [if_neg h1, if_neg h8, if_neg h9]
  simp
  omega
/-- A tree is told by its nodes, whatever is behind. -/
theorem flat_pre : ∀ (t u : Rx), t.Ok → u.Ok → ∀ (q r : List Nd), t.flat ++ q = u.flat ++ r → t = u ∧ q = r
  | .leaf n, .leaf m, _, _, q, r, h => by
    simp [Rx.flat] at h
    exact ⟨by rw [h.1], h.2⟩
  | .leaf n, .one m a, ht, hu, q, r, h => by
    simp [Rx.flat] at h
    simp only [Rx.Ok] at ht hu
    rw [h.1] at ht
    omega
  | .leaf n, .two m a b, ht, hu, q, r, h => by
    simp [Rx.flat] at h
    simp only [Rx.Ok] at ht hu
    rw [h.1] at ht
    omega
  | .one n a, .leaf m, ht, hu, q, r, h => by
    simp [Rx.flat] at h
    simp only [Rx.Ok] at ht hu
    rw [h.1] at ht
    omega
  | .one n a, .one m b, ht, hu, q, r, h => by
    simp [Rx.flat] at h
    obtain ⟨h1, h2⟩ := flat_pre a b ht.2 hu.2 _ _ h.2
    exact ⟨by rw [h.1, h1], h2⟩
  | .one n a, .two m b c, ht, hu, q, r, h => by
    simp [Rx.flat] at h
    simp only [Rx.Ok] at ht hu
    rw [h.1] at ht
    omega
  | .two n a b, .leaf m, ht, hu, q, r, h => by
    simp [Rx.flat] at h
    simp only [Rx.Ok] at ht hu
    rw [h.1] at ht
    omega
  | .two n a b, .one m c, ht, hu, q, r, h => by
    simp [Rx.flat] at h
    simp only [Rx.Ok] at ht hu
    rw [h.1] at ht
    omega
  | .two n a b, .two m c d, ht, hu, q, r, h => by
    simp [Rx.flat] at h
    obtain ⟨h1, h2⟩ := flat_pre a c ht.2.1 hu.2.1 _ _ h.2
    obtain ⟨h3, h4⟩ := flat_pre b d ht.2.2 hu.2.2 _ _ h2
    exact ⟨by rw [h.1, h1, h3], h4⟩
/-- A list of things that are apart, each one of N, has at most N. -/
theorem pigeon {α : Type} (f : Nat → α) : ∀ (N : Nat) (l : List α), l.Pairwise (fun a b => a ≠ b) → (∀ k ∈ l, ∃ c, c < N ∧ k = f c) → l.length ≤ N
  | 0, [], _, _ => Nat.le_refl _
  | 0, a :: l, _, h => by obtain ⟨c, hc, _⟩ := h a (by simp); omega
  | N + 1, l, hp, h => by
    haveI : DecidableEq α := fun a b => Classical.propDecidable (a = b)
    have h1 := pigeon f N (l.filter fun a => !decide (a = f N)) (hp.filter _) (fun k hk => by
      rw [List.mem_filter] at hk
      obtain ⟨c, hc, rfl⟩ := h k hk.1
      refine ⟨c, ?_, rfl⟩
      rcases Nat.lt_or_ge c N with h' | h'
      · exact h'
      · obtain rfl : c = N := by omega
        simp at hk)
    have h2 : ∀ (l : List α), l.Pairwise (fun a b => a ≠ b) → l.length ≤ (l.filter fun a => !decide (a = f N)).length + 1 := by
      intro l
      induction l with
      | nil => intro _; simp
      | cons a l ih =>
        intro hp
        rw [List.pairwise_cons] at hp
        by_cases ha : a = f N
        · have e : l.filter (fun a => !decide (a = f N)) = l := List.filter_eq_self.2 fun b hb => by
            have := hp.1 b hb
            simp
            intro e
            exact this (ha.trans e.symm)
          rw [List.filter_cons, e]
          simp [ha]
        · rw [List.filter_cons]
          have := ih hp.2
          simp [ha]
          omega
    have := h2 l hp
    omega
end Go.Proofs.YteobcgajaebabaaDoor
