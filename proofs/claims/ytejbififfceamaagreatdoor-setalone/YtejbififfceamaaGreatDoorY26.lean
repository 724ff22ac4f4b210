/- The landed prog: Check. (Made by wip/tools/genpk2.py.) The landed prog: Check. Package sim: WaysOf. A program as an argument: opened. What is asked of runs of programs: plain words, no function. Package sim: CheckPlace. -/
import Derived.Test.YtejbififfceamaaGreatDoorY25
import Derived.Test.YtejbififfceamaaGreatDoorY02
import Derived.Test.YtejbififfceamaaGreatDoorY21
import Derived.Lib.SmallJoins
import Derived.Test.YtejbififfceamaaGreatDoorY07
import Derived.Test.YtejbififfceamaaGreatDoorY20
namespace Go.Proofs.YtejbififfceamaaGreatDoor
set_option linter.unusedSimpArgs false
set_option linter.unusedVariables false
set_option maxRecDepth 100000
open Go.RowKit
theorem bareS_eqb (s : St) (h1 : ¬ s.op < 1) (h5 : ¬ 5 < s.op) : s.eqb (bareS s) = ! decide (stShape s) := by
  obtain ⟨op, c, x, y⟩ := s
  have hc : c.eqb c = true := eqb_self c
  have hop : op = 1 ∨ op = 2 ∨ op = 3 ∨ op = 4 ∨ op = 5 := by simp only at h1 h5; omega
  unfold stShape
  rcases hop with rfl | rfl | rfl | rfl | rfl <;> cases h : c.eqb z4 <;> by_cases hy : y = 0 <;> by_cases hx : x = 0 <;> simp [bareS, St.eqb, hc, h, hy, hx]
/-- What a step is held against: any step's number. -/
abbrev isV (b : Nat) : Value := .func (.func 123) #[] #[.pointer (some ⟨b, 0, none⟩)]
set_option maxHeartbeats 8000000 in
theorem checkStep_any (N : Nat) (hN : N ≤ 9223372036854775807) (s : St) (b : Nat) (a : Option Addr) (cap : Nat) (w : World) (hb : w.cell? ⟨b, 0, none⟩ = some (.slice a N cap)) :
    Calls Tryz.prog 124 #[s.v, isV b] w fun e w' => e = .returned (errV (stBad N s)) ∧ Below w.heap.size w w' := by
  obtain ⟨op, c, x, y⟩ := s
  have hbl : b < w.heap.size := by
    rcases Nat.lt_or_ge b w.heap.size with h | h
    · exact h
    · simp [World.cell?, Array.getElem?_eq_none h] at hb
  obtain ⟨o, ho⟩ : ∃ o : Obj, o = .cells #[.int .i64 op, .int .u64 c.a, .int .u64 c.b, .int .u64 c.c, .int .u64 c.d, .int .i64 x, .int .i64 y] 158 := ⟨_, rfl⟩
  have HC' : Hid (∀ (z : Int), Calls Tryz.prog 123 #[.int .i64 z, .pointer (some ⟨b, 0, none⟩)] (w.alloc o) fun e w' => e = .returned (.bool (decide (0 ≤ z ∧ z < (N : Int)))) ∧ w' = w.alloc o) := fun z =>
    isStep_any N hN z b a cap _ ((World.cell?_of_block (a := ⟨b, 0, none⟩) (Below.heap_alloc w o b hbl)).trans hb)
  have HB : Hid (Below w.heap.size w (w.alloc o)) := (Below.refl _ _).alloc (Nat.le_refl _) _
  obtain ⟨t, HT⟩ : ∃ t, Hid (t = bareS ⟨op, c, x, y⟩) := ⟨_, Eq.refl _⟩
  have BA : Hid (∀ W, Calls Tryz.prog 136 #[.agg #[.int .i64 op, .int .u64 c.a, .int .u64 c.b, .int .u64 c.c, .int .u64 c.d, .int .i64 x, .int .i64 y]] W fun e w' => e = .returned (.agg #[.int .i64 t.op, .int .u64 t.c.a, .int .u64 t.c.b, .int .u64 t.c.c, .int .u64 t.c.d, .int .i64 t.x, .int .i64 t.y]) ∧ Below W.heap.size W w') := by
    intro W
    rw [HT.out]
    exact bare_any ⟨op, c, x, y⟩ W
  have RC : Hid ((∀ d os, (Go.Sort.grow (redrawn (w.alloc o) d) os).cell? ⟨w.heap.size, 0, none⟩ = some (.int .i64 op)) ∧ (∀ d os, (Go.Sort.grow (redrawn (w.alloc o) d) os).cell? ⟨w.heap.size, 1, none⟩ = some (.int .u64 c.a)) ∧ (∀ d os, (Go.Sort.grow (redrawn (w.alloc o) d) os).cell? ⟨w.heap.size, 2, none⟩ = some (.int .u64 c.b)) ∧ (∀ d os, (Go.Sort.grow (redrawn (w.alloc o) d) os).cell? ⟨w.heap.size, 3, none⟩ = some (.int .u64 c.c)) ∧ (∀ d os, (Go.Sort.grow (redrawn (w.alloc o) d) os).cell? ⟨w.heap.size, 4, none⟩ = some (.int .u64 c.d)) ∧ (∀ d os, (Go.Sort.grow (redrawn (w.alloc o) d) os).cell? ⟨w.heap.size, 5, none⟩ = some (.int .i64 x)) ∧ (∀ d os, (Go.Sort.grow (redrawn (w.alloc o) d) os).cell? ⟨w.heap.size, 6, none⟩ = some (.int .i64 y))) := by
    refine ⟨?_, ?_, ?_, ?_, ?_, ?_, ?_⟩ <;> exact cell_regrown (by rw [ho]; simp)
  clear hb
  by_cases h1 : op < 1
  · have HF : Hid (stBad N ⟨op, c, x, y⟩ = 1) := stBad_range (Or.inl h1)
    go_enter Tryz.func124, Tryz.ntmps124
    go_wp2
    go_ret
    exact ⟨by rw [HF.out]; rfl, by rw [← ho]; exact HB.out⟩
  by_cases h5 : 5 < op
  · have HF : Hid (stBad N ⟨op, c, x, y⟩ = 1) := stBad_range (Or.inr (Or.inl h5))
    go_enter Tryz.func124, Tryz.ntmps124
    go_wp2
    go_ret
    exact ⟨by rw [HF.out]; rfl, by rw [← ho]; exact HB.out⟩
  have HC : Hid (∀ (z : Int), Calls Tryz.prog 123 #[.int .i64 z, .pointer (some ⟨b, 0, none⟩)] (w.alloc (.cells #[.int .i64 op, .int .u64 c.a, .int .u64 c.b, .int .u64 c.c, .int .u64 c.d, .int .i64 x, .int .i64 y] 158)) fun e w' => e = .returned (.bool (decide (0 ≤ z ∧ z < (N : Int)))) ∧ w' = w.alloc (.cells #[.int .i64 op, .int .u64 c.a, .int .u64 c.b, .int .u64 c.c, .int .u64 c.d, .int .i64 x, .int .i64 y] 158)) := by
    rw [← ho]
    exact HC'
  clear HC'
  by_cases hd : op = 5
  · subst hd
    have hr : ¬ stRange N ⟨5, c, x, y⟩ := by unfold stRange; simp
    by_cases hs : stShape ⟨5, c, x, y⟩
    · have HF : Hid (stBad N ⟨5, c, x, y⟩ = 2) := stBad_shape hr hs
      have he : ∀ w, (Op.equalIn 10000 158 (.agg #[.int .i64 5, .int .u64 c.a, .int .u64 c.b, .int .u64 c.c, .int .u64 c.d, .int .i64 x, .int .i64 y]) (.agg #[.int .i64 t.op, .int .u64 t.c.a, .int .u64 t.c.b, .int .u64 t.c.c, .int .u64 t.c.d, .int .i64 t.x, .int .i64 t.y])).run Tryz.prog w = .ok false w := fun w => (eqS ⟨5, c, x, y⟩ t w).trans (by rw [HT.out, bareS_eqb _ (by show ¬ 5 < 1; omega) (by show ¬ 5 < 5; omega)]; simp only [hs, decide_true, decide_false, Bool.not_true, Bool.not_false])
      go_enter Tryz.func124, Tryz.ntmps124
      go_wp2_with fail
      rw [← ho]
      clear ho
      obtain ⟨r0, r1, r2, r3, r4, r5, r6⟩ := RC.out
      refine wp_region_quiet_below (by kernel_rfl) (by kernel_rfl) ?_
      repeat (go_big_quiet_step (first
        | (go_at_call 136; exact Calls.regrown_of (BA.out _))))
      refine wpQuiet_nil ?_
      intro _ hw'
      obtain ⟨⟨dq, osq⟩, hw''⟩ := hw'
      have B2 : Hid (Below w.heap.size w (Go.Sort.grow (redrawn (w.alloc o) dq) osq)) := HB.out.trans ((below_regrown (w.alloc o) dq osq).mono (by simp))
      subst hw''
      generalize Go.Sort.grow (redrawn (w.alloc o) dq) osq = W at *
      clear RC r0 r1 r2 r3 r4 r5 r6
      go_wp2
      go_ret
      exact ⟨by rw [HF.out]; rfl, B2.out⟩
    · have HF : Hid (stBad N ⟨5, c, x, y⟩ = 0) := stBad_ok hr hs
      have he : ∀ w, (Op.equalIn 10000 158 (.agg #[.int .i64 5, .int .u64 c.a, .int .u64 c.b, .int .u64 c.c, .int .u64 c.d, .int .i64 x, .int .i64 y]) (.agg #[.int .i64 t.op, .int .u64 t.c.a, .int .u64 t.c.b, .int .u64 t.c.c, .int .u64 t.c.d, .int .i64 t.x, .int .i64 t.y])).run Tryz.prog w = .ok true w := fun w => (eqS ⟨5, c, x, y⟩ t w).trans (by rw [HT.out, bareS_eqb _ (by show ¬ 5 < 1; omega) (by show ¬ 5 < 5; omega)]; simp only [hs, decide_true, decide_false, Bool.not_true, Bool.not_false])
      go_enter Tryz.func124, Tryz.ntmps124
      go_wp2_with fail
      rw [← ho]
      clear ho
      obtain ⟨r0, r1, r2, r3, r4, r5, r6⟩ := RC.out
      refine wp_region_quiet_below (by kernel_rfl) (by kernel_rfl) ?_
      repeat (go_big_quiet_step (first
        | (go_at_call 136; exact Calls.regrown_of (BA.out _))))
      refine wpQuiet_nil ?_
      intro _ hw'
      obtain ⟨⟨dq, osq⟩, hw''⟩ := hw'
      have B2 : Hid (Below w.heap.size w (Go.Sort.grow (redrawn (w.alloc o) dq) osq)) := HB.out.trans ((below_regrown (w.alloc o) dq osq).mono (by simp))
      subst hw''
      generalize Go.Sort.grow (redrawn (w.alloc o) dq) osq = W at *
      clear RC r0 r1 r2 r3 r4 r5 r6
      go_wp2
      go_ret
      exact ⟨by rw [HF.out]; rfl, B2.out⟩
  have g5 : (op != 5) = true := by simp [hd]
  by_cases hx : 0 ≤ x ∧ x < (N : Int)
  case neg =>
    have HF : Hid (stBad N ⟨op, c, x, y⟩ = 1) := stBad_range (Or.inr (Or.inr (Or.inl ⟨hd, by show x < 0 ∨ (N : Int) ≤ x; omega⟩)))
    have hxd : decide (0 ≤ x ∧ x < (N : Int)) = false := by simp only [hx, decide_false]
    go_enter Tryz.func124, Tryz.ntmps124
    go_wp2_with fail
    refine Calls.mono (HC.out _) ?_
    rintro e w1 ⟨rfl, rfl⟩
    rw [hxd]
    go_wp2
    go_ret
    exact ⟨by rw [HF.out]; rfl, by rw [← ho]; exact HB.out⟩
  have hxd : decide (0 ≤ x ∧ x < (N : Int)) = true := by simp only [hx, and_self, decide_true]
  by_cases hf : op = 2
  · subst hf
    by_cases hy : 0 ≤ y ∧ y < (N : Int)
    case neg =>
      have HF : Hid (stBad N ⟨2, c, x, y⟩ = 1) := stBad_range (Or.inr (Or.inr (Or.inr ⟨rfl, by show y < 0 ∨ (N : Int) ≤ y; omega⟩)))
      have hyd : decide (0 ≤ y ∧ y < (N : Int)) = false := by simp only [hy, decide_false]
      go_enter Tryz.func124, Tryz.ntmps124
      go_wp2_with fail
      refine Calls.mono (HC.out _) ?_
      rintro e w1 ⟨rfl, rfl⟩
      rw [hxd]
      go_wp2_with fail
      refine Calls.mono (HC.out _) ?_
      rintro e w1 ⟨rfl, rfl⟩
      rw [hyd]
      go_wp2
      go_ret
      exact ⟨by rw [HF.out]; rfl, by rw [← ho]; exact HB.out⟩
    have hyd : decide (0 ≤ y ∧ y < (N : Int)) = true := by simp only [hy, and_self, decide_true]
    have hr : ¬ stRange N ⟨2, c, x, y⟩ := by
      show ¬ ((2 : Int) < 1 ∨ (5 : Int) < 2 ∨ ((2 : Int) ≠ 5 ∧ (x < 0 ∨ (N : Int) ≤ x)) ∨ ((2 : Int) = 2 ∧ (y < 0 ∨ (N : Int) ≤ y)))
      omega
    by_cases hs : stShape ⟨2, c, x, y⟩
    · have HF : Hid (stBad N ⟨2, c, x, y⟩ = 2) := stBad_shape hr hs
      have he : ∀ w, (Op.equalIn 10000 158 (.agg #[.int .i64 2, .int .u64 c.a, .int .u64 c.b, .int .u64 c.c, .int .u64 c.d, .int .i64 x, .int .i64 y]) (.agg #[.int .i64 t.op, .int .u64 t.c.a, .int .u64 t.c.b, .int .u64 t.c.c, .int .u64 t.c.d, .int .i64 t.x, .int .i64 t.y])).run Tryz.prog w = .ok false w := fun w => (eqS ⟨2, c, x, y⟩ t w).trans (by rw [HT.out, bareS_eqb _ (by show ¬ 2 < 1; omega) (by show ¬ 5 < 2; omega)]; simp only [hs, decide_true, decide_false, Bool.not_true, Bool.not_false])
      go_enter Tryz.func124, Tryz.ntmps124
      go_wp2_with fail
      refine Calls.mono (HC.out _) ?_
      rintro e w1 ⟨rfl, rfl⟩
      rw [hxd]
      go_wp2_with fail
      refine Calls.mono (HC.out _) ?_
      rintro e w1 ⟨rfl, rfl⟩
      rw [hyd]
      go_wp2_with fail
      rw [← ho]
      clear ho
      obtain ⟨r0, r1, r2, r3, r4, r5, r6⟩ := RC.out
      refine wp_region_quiet_below (by kernel_rfl) (by kernel_rfl) ?_
      repeat (go_big_quiet_step (first
        | (go_at_call 136; exact Calls.regrown_of (BA.out _))))
      refine wpQuiet_nil ?_
      intro _ hw'
      obtain ⟨⟨dq, osq⟩, hw''⟩ := hw'
      have B2 : Hid (Below w.heap.size w (Go.Sort.grow (redrawn (w.alloc o) dq) osq)) := HB.out.trans ((below_regrown (w.alloc o) dq osq).mono (by simp))
      subst hw''
      generalize Go.Sort.grow (redrawn (w.alloc o) dq) osq = W at *
      clear RC r0 r1 r2 r3 r4 r5 r6
      go_wp2
      go_ret
      exact ⟨by rw [HF.out]; rfl, B2.out⟩
    · have HF : Hid (stBad N ⟨2, c, x, y⟩ = 0) := stBad_ok hr hs
      have he : ∀ w, (Op.equalIn 10000 158 (.agg #[.int .i64 2, .int .u64 c.a, .int .u64 c.b, .int .u64 c.c, .int .u64 c.d, .int .i64 x, .int .i64 y]) (.agg #[.int .i64 t.op, .int .u64 t.c.a, .int .u64 t.c.b, .int .u64 t.c.c, .int .u64 t.c.d, .int .i64 t.x, .int .i64 t.y])).run Tryz.prog w = .ok true w := fun w => (eqS ⟨2, c, x, y⟩ t w).trans (by rw [HT.out, bareS_eqb _ (by show ¬ 2 < 1; omega) (by show ¬ 5 < 2; omega)]; simp only [hs, decide_true, decide_false, Bool.not_true, Bool.not_false])
      go_enter Tryz.func124, Tryz.ntmps124
      go_wp2_with fail
      refine Calls.mono (HC.out _) ?_
      rintro e w1 ⟨rfl, rfl⟩
      rw [hxd]
      go_wp2_with fail
      refine Calls.mono (HC.out _) ?_
      rintro e w1 ⟨rfl, rfl⟩
      rw [hyd]
      go_wp2_with fail
      rw [← ho]
      clear ho
      obtain ⟨r0, r1, r2, r3, r4, r5, r6⟩ := RC.out
      refine wp_region_quiet_below (by kernel_rfl) (by kernel_rfl) ?_
      repeat (go_big_quiet_step (first
        | (go_at_call 136; exact Calls.regrown_of (BA.out _))))
      refine wpQuiet_nil ?_
      intro _ hw'
      obtain ⟨⟨dq, osq⟩, hw''⟩ := hw'
      have B2 : Hid (Below w.heap.size w (Go.Sort.grow (redrawn (w.alloc o) dq) osq)) := HB.out.trans ((below_regrown (w.alloc o) dq osq).mono (by simp))
      subst hw''
      generalize Go.Sort.grow (redrawn (w.alloc o) dq) osq = W at *
      clear RC r0 r1 r2 r3 r4 r5 r6
      go_wp2
      go_ret
      exact ⟨by rw [HF.out]; rfl, B2.out⟩
  have g2 : (op == 2) = false := by simp [hf]
  have hr : ¬ stRange N ⟨op, c, x, y⟩ := by
    show ¬ (op < 1 ∨ 5 < op ∨ (op ≠ 5 ∧ (x < 0 ∨ (N : Int) ≤ x)) ∨ (op = 2 ∧ (y < 0 ∨ (N : Int) ≤ y)))
    omega
  by_cases hs : stShape ⟨op, c, x, y⟩
  · have HF : Hid (stBad N ⟨op, c, x, y⟩ = 2) := stBad_shape hr hs
    have he : ∀ w, (Op.equalIn 10000 158 (.agg #[.int .i64 op, .int .u64 c.a, .int .u64 c.b, .int .u64 c.c, .int .u64 c.d, .int .i64 x, .int .i64 y]) (.agg #[.int .i64 t.op, .int .u64 t.c.a, .int .u64 t.c.b, .int .u64 t.c.c, .int .u64 t.c.d, .int .i64 t.x, .int .i64 t.y])).run Tryz.prog w = .ok false w := fun w => (eqS ⟨op, c, x, y⟩ t w).trans (by rw [HT.out, bareS_eqb _ (by show ¬ op < 1; omega) (by show ¬ 5 < op; omega)]; simp only [hs, decide_true, decide_false, Bool.not_true, Bool.not_false])
    go_enter Tryz.func124, Tryz.ntmps124
    go_wp2_with fail
    refine Calls.mono (HC.out _) ?_
    rintro e w1 ⟨rfl, rfl⟩
    rw [hxd]
    go_wp2_with fail
    rw [← ho]
    clear ho
    obtain ⟨r0, r1, r2, r3, r4, r5, r6⟩ := RC.out
    refine wp_region_quiet_below (by kernel_rfl) (by kernel_rfl) ?_
    repeat (go_big_quiet_step (first
      | (go_at_call 136; exact Calls.regrown_of (BA.out _))))
    refine wpQuiet_nil ?_
    intro _ hw'
    obtain ⟨⟨dq, osq⟩, hw''⟩ := hw'
    have B2 : Hid (Below w.heap.size w (Go.Sort.grow (redrawn (w.alloc o) dq) osq)) := HB.out.trans ((below_regrown (w.alloc o) dq osq).mono (by simp))
    subst hw''
    generalize Go.Sort.grow (redrawn (w.alloc o) dq) osq = W at *
    clear RC r0 r1 r2 r3 r4 r5 r6
    go_wp2
    go_ret
    exact ⟨by rw [HF.out]; rfl, B2.out⟩
  · have HF : Hid (stBad N ⟨op, c, x, y⟩ = 0) := stBad_ok hr hs
    have he : ∀ w, (Op.equalIn 10000 158 (.agg #[.int .i64 op, .int .u64 c.a, .int .u64 c.b, .int .u64 c.c, .int .u64 c.d, .int .i64 x, .int .i64 y]) (.agg #[.int .i64 t.op, .int .u64 t.c.a, .int .u64 t.c.b, .int .u64 t.c.c, .int .u64 t.c.d, .int .i64 t.x, .int .i64 t.y])).run Tryz.prog w = .ok true w := fun w => (eqS ⟨op, c, x, y⟩ t w).trans (by rw [HT.out, bareS_eqb _ (by show ¬ op < 1; omega) (by show ¬ 5 < op; omega)]; simp only [hs, decide_true, decide_false, Bool.not_true, Bool.not_false])
    go_enter Tryz.func124, Tryz.ntmps124
    go_wp2_with fail
    refine Calls.mono (HC.out _) ?_
    rintro e w1 ⟨rfl, rfl⟩
    rw [hxd]
    go_wp2_with fail
    rw [← ho]
    clear ho
    obtain ⟨r0, r1, r2, r3, r4, r5, r6⟩ := RC.out
    refine wp_region_quiet_below (by kernel_rfl) (by kernel_rfl) ?_
    repeat (go_big_quiet_step (first
      | (go_at_call 136; exact Calls.regrown_of (BA.out _))))
    refine wpQuiet_nil ?_
    intro _ hw'
    obtain ⟨⟨dq, osq⟩, hw''⟩ := hw'
    have B2 : Hid (Below w.heap.size w (Go.Sort.grow (redrawn (w.alloc o) dq) osq)) := HB.out.trans ((below_regrown (w.alloc o) dq osq).mono (by simp))
    subst hw''
    generalize Go.Sort.grow (redrawn (w.alloc o) dq) osq = W at *
    clear RC r0 r1 r2 r3 r4 r5 r6
    go_wp2
    go_ret
    exact ⟨by rw [HF.out]; rfl, B2.out⟩
end Go.Proofs.YtejbififfceamaaGreatDoor
namespace Go.Proofs.YtejbififfceamaaGreatDoor
set_option linter.unusedSimpArgs false
set_option linter.unusedVariables false
set_option maxRecDepth 100000
open Go.RowKit
theorem pcheck_full (ss : List St) (v : Value) (w : World) (h : SsIn w v ss) (h200 : 200 < ss.length) :
    Calls Tryz.prog 100 #[v] w fun e w' => e = .returned (errV (stepsF ss)) ∧ Below w.heap.size w w' := by
  obtain ⟨a, cap, rfl, hm⟩ := ssIn_form h
  unfold maxLen at hm
  have g200 : (200 : Int) < (ss.length : Int) := by omega
  have HF : Hid (stepsF ss = 3) := by show _ = _; rw [stepsF, if_pos h200]
  clear h
  go_enter Tryz.func100, Tryz.ntmps100
  go_wp2
  go_ret
  exact ⟨by rw [HF.out]; rfl, (Below.refl _ _).alloc (Nat.le_refl _) _⟩
theorem pcheck_none (v : Value) (w : World) (h : SsIn w v []) :
    Calls Tryz.prog 100 #[v] w fun e w' => e = .returned (errV (stepsF [])) ∧ Below w.heap.size w w' := by
  obtain ⟨a, cap, rfl, hm⟩ := ssIn_form h
  simp only [List.length_nil]
  clear h
  go_enter Tryz.func100, Tryz.ntmps100
  go_wp2
  go_ret
  exact ⟨rfl, (Below.refl _ _).alloc (Nat.le_refl _) _⟩
set_option maxHeartbeats 4000000 in
theorem pcheck_at (ss : List St) (b off cap : Nat) (w : World) (hlt : b < w.heap.size) (hN : SsAt w b off ss) (h0 : 0 < ss.length) (h200 : ¬ 200 < ss.length) :
    Calls Tryz.prog 100 #[.slice (some ⟨b, off, none⟩) ss.length cap] w fun e w' => e = .returned (errV (stepsF ss)) ∧ Below w.heap.size w w' := by
  have g200 : (ss.length : Int) ≤ 200 := by omega
  have z0 : ((ss.length : Int) == 0) = false := by rw [beq_eq_false_iff_ne]; omega
  obtain ⟨o, ho⟩ : ∃ o : Obj, o = .cells #[.slice (some ⟨b, off, none⟩) ss.length cap] 119 := ⟨_, rfl⟩
  have hcell : (w.alloc o).cell? ⟨w.heap.size, 0, none⟩ = some (.slice (some ⟨b, off, none⟩) ss.length cap) := by rw [ho]; simp
  have hB0 : Below w.heap.size w (w.alloc o) := (Below.refl _ _).alloc (Nat.le_refl _) _
  have HCK : Hid (∀ (W : World) (n : St), Below (w.alloc o).heap.size (w.alloc o) W → Calls Tryz.prog 124 #[n.v, isV w.heap.size] W fun e w' => e = .returned (errV (stBad ss.length n)) ∧ Below W.heap.size W w') := fun W n hW =>
    checkStep_any ss.length (by omega) n w.heap.size _ cap W ((hW.cell (p := ⟨w.heap.size, 0, none⟩) (by simp)).trans hcell)
  have HN : Hid (SsAt (w.alloc o) b off ss) := hN.below hB0 hlt
  have HFZ : Hid (stScan ss.length ss = stepsF ss) := by show _ = _; rw [stepsF, if_neg h200, if_neg (by omega)]
  clear hcell hN
  go_enter Tryz.func100, Tryz.ntmps100
  go_wp2_with fail
  rw [← ho]
  clear ho
  go_loopw [18] (fun v wr => ∃ i : Nat, i ≤ ss.length ∧ v = .int .i64 i ∧ Hid (stScan ss.length ss = stScan ss.length (ss.drop i)) ∧ Hid (Below (w.alloc o).heap.size (w.alloc o) wr)) (fun v _ => ss.length - (intOf v).toNat)
  case atStart => exact ⟨0, by omega, rfl, Eq.refl _, Below.refl _ _⟩
  case round =>
    obtain ⟨i, hi, rfl, HS, HB⟩ := hrel
    by_cases hil : i < ss.length
    · obtain ⟨n, hn⟩ : ∃ n, ss[i]? = some n := ⟨ss[i], List.getElem?_eq_getElem hil⟩
      obtain ⟨c0, c1, c2, c3, c4, c5, c6⟩ := (HN.out.below HB.out (by simp; omega)) i n hn
      have hlt1 : (i : Int) < (ss.length : Int) := by omega
      have HSD := hid (stScan_drop ss.length ss i n hn)
      go_wp2_with fail
      refine Calls.mono (HCK.out _ n (HB.out.alloc HB.out.size _)) ?_
      rintro e w1 ⟨rfl, hb1⟩
      have B1 : Hid (Below (w.alloc o).heap.size (w.alloc o) w1) := (HB.out.alloc HB.out.size _).trans (hb1.mono (by have := HB.out.size; simp at this ⊢; omega))
      by_cases hz : stBad ss.length n = 0
      · have HS2 : Hid (stScan ss.length ss = stScan ss.length (ss.drop (i + 1))) := by show _ = _; rw [HS.out, HSD.out, if_pos hz]
        have e0 : errV (stBad ss.length n) = .nilIface := by rw [hz]; rfl
        rw [e0]
        clear hb1 c0 c1 c2 c3 c4 c5 c6 e0 hz
        go_wp2
        exact ⟨⟨i + 1, by omega, by go_num, HS2, B1⟩, by simp [intOf]; omega⟩
      · have HS2 : Hid (stepsF ss = stBad ss.length n) := by show _ = _; rw [← HFZ.out, HS.out, HSD.out, if_neg hz]
        have e0 : errV (stBad ss.length n) = .iface 32 (.int .i64 (stBad ss.length n)) := by unfold errV; rw [if_neg hz]
        rw [e0]
        clear hb1 c0 c1 c2 c3 c4 c5 c6
        go_wp2
        go_ret
        refine ⟨by rw [HS2.out, e0]; rfl, hB0.trans (B1.out.mono (by simp))⟩
    · have he : i = ss.length := by omega
      have hg1 : ¬ (i : Int) < (ss.length : Int) := by omega
      have HE : Hid (stepsF ss = 0) := by
        show _ = _
        rw [← HFZ.out, HS.out, he, List.drop_length]
        rfl
      go_wp2
      go_ret
      exact ⟨by rw [HE.out]; rfl, hB0.trans (HB.out.mono (by simp))⟩
theorem pcheck_any (ss : List St) (v : Value) (w : World) (h : SsIn w v ss) :
    Calls Tryz.prog 100 #[v] w fun e w' => e = .returned (errV (stepsF ss)) ∧ Below w.heap.size w w' := by
  by_cases h200 : 200 < ss.length
  · exact pcheck_full ss v w h h200
  rcases Nat.eq_zero_or_pos ss.length with h0 | h0
  · have e : ss = [] := List.eq_nil_of_length_eq_zero h0
    subst e
    exact pcheck_none v w h
  · obtain ⟨a, cap, rfl, hm, h | ⟨b, off, rfl, hlt, hn⟩⟩ := h
    · subst h
      simp at h0
    · exact pcheck_at ss b off cap w hlt hn h0 h200
end Go.Proofs.YtejbififfceamaaGreatDoor
namespace Go.Proofs.YtejbififfceamaaGreatDoor
set_option linter.unusedSimpArgs false
set_option linter.unusedVariables false
set_option maxRecDepth 100000
open Go.RowKit Go.Shelf
attribute [local go_sem] Oper.semAt_some
/-- append of all steps of a slice to an empty one. -/
theorem wpList_append_all {ops : Array Oper} {rest : List Oper} {o : Oper} {a : Act} {Q : Exit → Act → World → Prop} {w : World} (hgd : o.guard = none) (s x : Operand)
    (ho : o.op = .call { callee := .builtin .append, args := #[s, x], argTypes := #[119, 119] })
    (B : Nat) (v : Value) (hs : a.eval s = v) (hown : SsOwn w B v []) (ss : List St) (h0 : 0 < ss.length) (h200 : ss.length ≤ 200) (b off cap : Nat) (hx : a.eval x = .slice (some ⟨b, off, none⟩) ss.length cap)
    (hN : SsAt w b off ss) (hbase : B ≤ w.heap.size)
    (h : ∀ g c w', SsOwn w' B (.slice (some ⟨g, 0, none⟩) ss.length c) ss → w.grownBy w' v.ownBlock → B ≤ g → g < w'.heap.size → wpList Tryz.prog ops Q rest (a.put o.dst (.slice (some ⟨g, 0, none⟩) ss.length c)) w') : wpList Tryz.prog ops Q (o :: rest) a w := by
  obtain ⟨i0, hi, hz0, hz1, hz2⟩ := info_step
  refine wpList_append_lies w hgd s x 119 ho B 158 i0 _ 7 56 Tryz.underlying119 hi hz0 hz1 hz2 rfl (by decide) v 0 [] hs hown ⟨b, off, none⟩ ss.length cap (ssCells ss) hx (ssCells_len ss) ?_ (ssCells_one ss) h0 (by unfold maxLen; omega) (by omega) hbase w.heap.size rfl ?_
  · intro j u hj
    rw [Addr.add_lit]
    have hjl : j < ss.length * 7 := by
      have := (List.getElem?_eq_some_iff.1 hj).1
      rwa [ssCells_len] at this
    have hd : j = j / 7 * 7 + j % 7 := by omega
    obtain ⟨n, hn⟩ : ∃ n, ss[j / 7]? = some n := ⟨ss[j / 7]'(by omega), List.getElem?_eq_getElem (by omega)⟩
    have h1 := ssCells_at ss (j / 7) n hn (j % 7) (by omega)
    rw [← hd, hj] at h1
    obtain ⟨d0, d1, d2, d3, d4, d5, d6⟩ := hN (j / 7) n hn
    have e : off + j = off + j / 7 * 7 + j % 7 := by omega
    rw [e]
    generalize j % 7 = t at h1
    have ht : t = 0 ∨ t = 1 ∨ t = 2 ∨ t = 3 ∨ t = 4 ∨ t = 5 ∨ t = 6 := by
      have := (List.getElem?_eq_some_iff.1 h1.symm).1
      simp [stCells] at this
      omega
    rcases ht with rfl | rfl | rfl | rfl | rfl | rfl | rfl <;> (simp [stCells] at h1; subst h1; assumption)
  · intro g c w' h1 h2 h3 h4
    rw [Nat.zero_add, List.nil_append] at h1
    rw [Nat.zero_add]
    have hg : B ≤ g := by
      rcases h3 with h3 | h3
      · rcases hown.2 with ⟨hv, _⟩ | ⟨g', cap', cur, hv, hb, _⟩
        · rw [hv] at h3; cases h3
        · rw [hv] at h3
          injection h3 with h3
          simp at h3
          omega
      · omega
    exact h g c w' h1 h2 hg h4
set_option maxHeartbeats 1000000 in
theorem sclone_any (ss : List St) (h0 : 0 < ss.length) (h200 : ss.length ≤ 200) (b off cap : Nat) (w : World) (hlt : b < w.heap.size) (hN : SsAt w b off ss) :
    Calls Tryz.prog 101 #[.slice (some ⟨b, off, none⟩) ss.length cap] w fun e w' => ∃ g c, e = .returned (.slice (some ⟨g, 0, none⟩) ss.length c) ∧ Below w.heap.size w w' ∧ SsAt w' g 0 ss ∧ w.heap.size ≤ g ∧ g < w'.heap.size := by
  have hN2 := hid hN
  have hq : ∀ w, (binOp BinOp.eql 119 (.slice (some ⟨b, off, none⟩) ss.length cap) (.slice none 0 0)).run Tryz.prog w = .ok (.bool false) w := fun _ => by kernel_rfl
  clear hN
  go_enter Tryz.func101, Tryz.ntmps101
  go_wp2_with (at_builtin; refine wpList_append_all rfl _ _ rfl w.heap.size _ rfl ?hown ss h0 h200 b off cap rfl ?hat ?hbs ?_)
  case hown => exact World.ownsRow_lit w #[] 0 (Nat.le_refl _) (by unfold maxLen; omega) rfl
  case hat => exact hN2.out.below ((Below.refl _ _).alloc (Nat.le_refl _) _) hlt
  case hbs => simp
  intro g c w' hown hgr hg hgl
  have hN' : SsAt w' g 0 ss := by
    obtain ⟨a, c', hv, _, h | ⟨b', o', hv', _, h⟩⟩ := hown.isIn (by unfold maxLen; omega)
    · rw [h] at h0; simp at h0
    · injection hv with hv
      subst hv
      injection hv' with hv'
      injection hv' with e1 e2 _
      subst e1 e2
      exact h
  have hb : Below w.heap.size w w' := ((Below.refl _ _).alloc (Nat.le_refl _) (.cells #[] 158)).grown hgr (by simp) (fun k e => by simp [Value.ownBlock] at e; omega)
  have HR : Hid (Below w.heap.size w w' ∧ SsAt w' g 0 ss ∧ w.heap.size ≤ g ∧ g < w'.heap.size) := ⟨hb, hN', hg, hgl⟩
  clear hown hgr hN' hb hN2 hq
  go_wp2
  go_ret
  exact ⟨g, c, rfl, HR.out⟩
set_option maxHeartbeats 1000000 in
theorem waysOf_ok (ss : List St) (v : Value) (w : World) (hf : stepsF ss = 0) (hS : SsIn w v ss) :
    Calls Tryz.prog 72 #[v] w fun e w' => ∃ g c, e = .returned (.tuple #[wyV g 0 ss.length c, .nilIface]) ∧ Below w.heap.size w w' ∧ SsAt w' g 0 ss ∧ w.heap.size ≤ g ∧ g < w'.heap.size := by
  have HC := hid (fun w' (h : SsIn w' v ss) => pcheck_any ss v w' h)
  obtain ⟨h200, h0, _⟩ := stepsF_zero hf
  have HS := hid hS
  obtain ⟨a, cap, rfl, hm, h | ⟨b, off, rfl, hlt, hN⟩⟩ := hS
  · rw [h] at h0; simp at h0
  rw [hf, show errV 0 = .nilIface from rfl] at HC
  have HN := hid hN
  have HK := hid (fun w' (h : Below w.heap.size w w') => sclone_any ss h0 h200 b off cap w' (Nat.lt_of_lt_of_le hlt h.size) (HN.out.below h hlt))
  have hb0 : Below w.heap.size w (w.alloc (.cells #[.slice none 0 0] 160)) := (Below.refl _ _).alloc (Nat.le_refl _) _
  have HS0 := hid (HS.out.below hb0)
  have hh0 : (w.alloc (.cells #[.slice none 0 0] 160)).heap[w.heap.size]? = some (.cells #[.slice none 0 0] 160 (0, 0)) := World.alloc_heap_new w _
  obtain ⟨w0, hw0⟩ : ∃ w0, w.alloc (.cells #[.slice none 0 0] 160) = w0 := ⟨_, rfl⟩
  rw [hw0] at hb0 HS0 hh0
  have HH := hid hh0
  have HB0 := hid hb0
  clear hf hN hm HS hh0 hb0
  go_enter Tryz.func72, Tryz.ntmps72
  go_wp2_with fail
  refine Calls.mono (HC.out _ HS0.out) ?_
  rintro e w1 ⟨rfl, hb1⟩
  have HB1 := hid (HB0.out.trans (hb1.mono HB0.out.size))
  have HH1 : Hid (w1.heap[w.heap.size]? = some (.cells #[.slice none 0 0] 160 (0, 0))) := (hb1.block _ (heap_lt HH.out)).trans HH.out
  clear hb1 hw0
  go_wp2_with fail
  refine Calls.mono (HK.out _ HB1.out) ?_
  rintro e w2 ⟨g, c, rfl, hb2, hN2, hg, hgl⟩
  have hh2 := (hb2.block _ (heap_lt HH1.out)).trans HH1.out
  have u0 := Lib.cell_of_heap hh2 0
  have z0 := Lib.frozen_of_heap hh2 0
  simp only [List.getElem?_toArray, List.getElem?_cons_zero] at u0
  have HR : Hid (Below w.heap.size w (w2.setCell ⟨w.heap.size, 0, none⟩ (.slice (some ⟨g, 0, none⟩) ss.length c)) ∧ SsAt (w2.setCell ⟨w.heap.size, 0, none⟩ (.slice (some ⟨g, 0, none⟩) ss.length c)) g 0 ss ∧ w.heap.size ≤ g ∧ g < (w2.setCell ⟨w.heap.size, 0, none⟩ (.slice (some ⟨g, 0, none⟩) ss.length c)).heap.size) := by
    have hlt1 := heap_lt HH1.out
    refine ⟨(HB1.out.trans (hb2.mono HB1.out.size)).setCell (p := ⟨w.heap.size, 0, none⟩) (Nat.le_refl _) _, ?_, by omega, by simpa using hgl⟩
    exact hN2.grown (grown_setS w2 w.heap.size 0 _) hgl (by intro e; injection e with e; omega)
  have c2 : (w2.setCell ⟨w.heap.size, 0, none⟩ (.slice (some ⟨g, 0, none⟩) ss.length c)).cell? ⟨w.heap.size, 0, none⟩ = some (.slice (some ⟨g, 0, none⟩) ss.length c) := by
    have : Boxed w2 w.heap.size 160 (.slice none 0 0) := hh2
    exact (this.set _).cell
  clear hb2 hN2 hg hgl hh2 HH1 HH HB1 HB0
  go_wp2
  refine bodyPost_ret (v := .tuple #[wyV g 0 ss.length c, .nilIface]) (by simp [results, Tryz.results72, go_sem, c2]) rfl ⟨g, c, rfl, HR.out⟩
set_option maxHeartbeats 1000000 in
theorem waysOf_bad (ss : List St) (v : Value) (w : World) (hf : ¬ stepsF ss = 0) (hS : SsIn w v ss) :
    Calls Tryz.prog 72 #[v] w fun e w' => e = .returned (.tuple #[.agg #[.slice none 0 0], errV (stepsF ss)]) ∧ Below w.heap.size w w' := by
  have HC := hid (fun w' (h : SsIn w' v ss) => pcheck_any ss v w' h)
  have HS := hid hS
  obtain ⟨a, cap, rfl, hm⟩ := ssIn_form hS
  have hE : errV (stepsF ss) = .iface 32 (.int .i64 (stepsF ss)) := by unfold errV; rw [if_neg hf]
  rw [hE] at HC ⊢
  have hb0 : Below w.heap.size w (w.alloc (.cells #[.slice none 0 0] 160)) := (Below.refl _ _).alloc (Nat.le_refl _) _
  have HS0 := hid (HS.out.below hb0)
  have hh0 : (w.alloc (.cells #[.slice none 0 0] 160)).heap[w.heap.size]? = some (.cells #[.slice none 0 0] 160 (0, 0)) := World.alloc_heap_new w _
  obtain ⟨w0, hw0⟩ : ∃ w0, w.alloc (.cells #[.slice none 0 0] 160) = w0 := ⟨_, rfl⟩
  rw [hw0] at hb0 HS0 hh0
  have HH := hid hh0
  have HB0 := hid hb0
  clear hf hm HS hh0 hb0 hS
  go_enter Tryz.func72, Tryz.ntmps72
  go_wp2_with fail
  refine Calls.mono (HC.out _ HS0.out) ?_
  rintro e w1 ⟨rfl, hb1⟩
  have hB1 := HB0.out.trans (hb1.mono HB0.out.size)
  have hh1 : Boxed w1 w.heap.size 160 (.slice none 0 0) := (hb1.block _ (heap_lt HH.out)).trans HH.out
  have u0 := hh1.cell
  have z0 := hh1.frozen
  have c2 := (hh1.set (.slice none 0 0)).cell
  have HR := hid (hB1.setCell (p := ⟨w.heap.size, 0, none⟩) (Nat.le_refl _) (.slice none 0 0))
  clear hb1 hw0 HH HB0 HC HS0 hB1 hh1
  go_wp2
  refine bodyPost_ret (v := .tuple #[.agg #[.slice none 0 0], .iface 32 (.int .i64 (stepsF ss))]) (by simp [results, Tryz.results72, go_sem, c2]) rfl ⟨rfl, HR.out⟩
theorem lasts_tab : Lasts Tab := fun w w' h hb => h.below hb (Nat.le_refl _)
end Go.Proofs.YtejbififfceamaaGreatDoor
namespace Go.Proofs.YtejbififfceamaaGreatDoor
set_option linter.unusedSimpArgs false
set_option linter.unusedVariables false
set_option maxRecDepth 100000
open Go.ChangeShapes Go.WideShapes Go.ChangeAt Go.RowKit Go.Deep Go.Joins

theorem cellsStep : Tryz.prog.cellsOf 158 = 7 := by kernel_rfl
def St.wf (n : St) : Prop := (Lit.int .i64 n.op).wf = true ∧ n.c.wf ∧ (Lit.int .i64 n.x).wf = true ∧ (Lit.int .i64 n.y).wf = true
instance : Inhabited St := ⟨⟨0, ⟨0, 0, 0, 0⟩, 0, 0⟩⟩
def St.cells (n : St) : List Value := [.int .i64 n.op, .int .u64 n.c.a, .int .u64 n.c.b, .int .u64 n.c.c, .int .u64 n.c.d, .int .i64 n.x, .int .i64 n.y]
theorem open_step {H : Type} {enc : TypeId × Value → H} {W : World} {base : Nat} {sp : Nat → Bool} {held : Bool} {fuel : Nat} {cs : List Value} {x : DataW H × List MemPlace}
    (h : DataW.trod enc Tryz.prog W base sp held fuel 158 cs = some x) : ∃ n : St, cs = n.cells ∧ n.wf := by
  obtain ⟨y0, y1, y2, y3, k, hxy, hl, u0, u1, u2, u3⟩ := trod_struct4 Tryz.underlying158 h
  rw [cellsStep] at hl
  match cs, hl with
  | [c0, c1, c2, c3, c4, c5, c6], _ =>
    simp only [cellsInt, cellsClass, List.drop, List.take] at u0 u1 u2 u3
    obtain ⟨q, e0, d0, w⟩ := DataW.trod_int Tryz.underlying3 u0
    obtain ⟨z0, z1, z2, z3, m, hx, hy0, hy1, hy2, hy3⟩ := trod_array4 Tryz.underlying104 cellsWord u1
    obtain ⟨x0, e1, _, w0⟩ := DataW.trod_int Tryz.underlying102 hy0
    obtain ⟨x1, e2, _, w1⟩ := DataW.trod_int Tryz.underlying102 hy1
    obtain ⟨x2, e3, _, w2⟩ := DataW.trod_int Tryz.underlying102 hy2
    obtain ⟨x3, e4, _, w3⟩ := DataW.trod_int Tryz.underlying102 hy3
    obtain ⟨px, e5, _, wx⟩ := DataW.trod_int Tryz.underlying3 u2
    obtain ⟨py, e6, _, wy⟩ := DataW.trod_int Tryz.underlying3 u3
    simp only [List.cons.injEq, and_true] at e0 e1 e2 e3 e4 e5 e6
    subst e0 e1 e2 e3 e4 e5 e6
    exact ⟨⟨q, ⟨x0, x1, x2, x3⟩, px, py⟩, rfl, w, ⟨w0, w1, w2, w3⟩, wx, wy⟩
theorem open_steps {H : Type} {enc : TypeId × Value → H} {W : World} {base : Nat} {sp : Nat → Bool} {held : Bool} {v : Value} {d : DataW H} {p : List MemPlace}
    (hval : Value.okWide Tryz.prog W .any base 119 v) (h : DataW.Trod enc Tryz.prog W 0 sp held 119 v d p) : ∃ ss : List St, SsIn W v ss ∧ ∀ n ∈ ss, n.wf := by
  obtain ⟨a0, len0, cap0, rfl⟩ := okWide_slice Tryz.underlying119 hval
  obtain ⟨fuel, hf⟩ := h
  rcases open_slice Tryz.underlying119 hf with ⟨hc, _⟩ | ⟨a, len, cap, m, n, D, Pl, hc, hb, hl, hm, hmm, _, hx⟩
  · simp [Value.cells] at hc
    obtain ⟨rfl, rfl, rfl⟩ := hc
    exact ⟨[], ⟨none, 0, rfl, by simp, Or.inl rfl⟩, by simp⟩
  · simp [Value.cells] at hc
    obtain ⟨rfl, rfl, rfl⟩ := hc
    have hlm : len0 ≤ m := by rw [hmm]; split <;> omega
    have each : ∀ i, i < len0 → ∃ n : St, W.cells? 0 (a.add (i * 7)) 7 = some n.cells ∧ n.wf := by
      intro i hi
      obtain ⟨cs', h1, h2⟩ := hx i (by omega)
      rw [cellsStep] at h1
      obtain ⟨n, rfl, hw⟩ := open_step h2
      exact ⟨n, h1, hw⟩
    obtain ⟨q, hq⟩ := choose_lt each
    refine ⟨(List.range len0).map q, ⟨some a, cap0, by simp, by simp; omega, ?_⟩, ?_⟩
    · rcases Nat.eq_zero_or_pos len0 with h0 | h0
      · subst h0; exact Or.inl rfl
      right
      obtain ⟨b, off, spot⟩ := a
      have cells : ∀ i, i < len0 → ∀ j, j < 7 → W.cell? ((⟨b, off, spot⟩ : Addr).add (i * 7 + j)) = (q i).cells[j]? := by
        intro i hi j hj
        obtain ⟨_, _, hcell⟩ := World.cells?_some (hq i hi).1
        have := hcell j hj
        rwa [add_add] at this
      have hspot : spot = none := by
        have := cells 0 h0 0 (by omega)
        simpa [Addr.add, St.cells] using World.cell?_spot this
      subst hspot
      have plain : ∀ k, (⟨b, off, none⟩ : Addr).add k = ⟨b, off + k, none⟩ := by
        intro k
        rcases k with _ | k <;> simp [Addr.add]
      refine ⟨b, off, rfl, ?_, ?_⟩
      · have := cells 0 h0 0 (by omega)
        rw [plain] at this
        rcases Nat.lt_or_ge b W.heap.size with h' | h'
        · exact h'
        · simp [World.cell?, Array.getElem?_eq_none h', St.cells] at this
      · intro i n hn
        have hi : i < len0 := by
          rcases Nat.lt_or_ge i len0 with h' | h'
          · exact h'
          · simp [h'] at hn
        have en : q i = n := by simpa [hi] using hn
        subst en
        have c := cells i hi
        refine ⟨?_, ?_, ?_, ?_, ?_, ?_, ?_⟩
        · have := c 0 (by omega); rw [plain] at this; simpa [Nat.add_assoc, St.cells] using this
        · have := c 1 (by omega); rw [plain] at this; simpa [Nat.add_assoc, St.cells] using this
        · have := c 2 (by omega); rw [plain] at this; simpa [Nat.add_assoc, St.cells] using this
        · have := c 3 (by omega); rw [plain] at this; simpa [Nat.add_assoc, St.cells] using this
        · have := c 4 (by omega); rw [plain] at this; simpa [Nat.add_assoc, St.cells] using this
        · have := c 5 (by omega); rw [plain] at this; simpa [Nat.add_assoc, St.cells] using this
        · have := c 6 (by omega); rw [plain] at this; simpa [Nat.add_assoc, St.cells] using this
    · intro n hn
      obtain ⟨i, hi, rfl⟩ := List.mem_map.1 hn
      exact (hq i (List.mem_range.1 hi)).2
end Go.Proofs.YtejbififfceamaaGreatDoor
namespace Go.Proofs.YtejbififfceamaaGreatDoor
set_option linter.unusedSimpArgs false
set_option linter.unusedVariables false
set_option maxRecDepth 100000
open Go.RowKit
/-- What is wrong with a program, a text of n bytes, or a place. -/
def simE (ss : List St) (n : Nat) (i : Int) : Int := if stepsF ss = 0 then (if 400 < n then 3 else if 0 ≤ i ∧ i ≤ n then 0 else 1) else stepsF ss
theorem simE_zero (ss : List St) (n : Nat) (i : Int) : simE ss n i = 0 ↔ stepsF ss = 0 ∧ n ≤ 400 ∧ 0 ≤ i ∧ i ≤ n := by
  unfold simE
  by_cases h : stepsF ss = 0
  · rw [if_pos h]
    by_cases h4 : 400 < n
    · rw [if_pos h4]; simp; omega
    · rw [if_neg h4]
      by_cases h3 : 0 ≤ i ∧ i ≤ (n : Int)
      · rw [if_pos h3]; simp [h, h3]; omega
      · rw [if_neg h3]; simp [h]; omega
  · rw [if_neg h]; simp [h]
/-- The greatest end, or -1. -/
def lastI (l : List Nat) : Int := match l.getLast? with
  | none => -1
  | some x => (x : Int)
/-- Of each program all ends are a list. -/
theorem run_total (ss : List St) (s : List UInt8) (i : Nat) : ∃ l, RunR ss s i l := by
  have hm : ∀ j, (∃ q, Rch ss s i q ∧ dn ss s q = true ∧ q % (s.length + 1) = j) → j < s.length + 1 := by
    rintro j ⟨q, _, _, rfl⟩
    exact Nat.mod_lt _ (by omega)
  refine ⟨(List.range (s.length + 1)).filter (fun j => @decide (∃ q, Rch ss s i q ∧ dn ss s q = true ∧ q % (s.length + 1) = j) (Classical.propDecidable _)), ?_, ?_⟩
  · exact List.Pairwise.filter _ List.pairwise_lt_range
  · intro j
    rw [List.mem_filter, List.mem_range]
    constructor
    · rintro ⟨_, h⟩
      exact @of_decide_eq_true _ (Classical.propDecidable _) h
    · intro h
      exact ⟨hm j h, @decide_eq_true _ (Classical.propDecidable _) h⟩
theorem lastI_snoc (l : List Nat) (x : Nat) : lastI (l ++ [x]) = (x : Int) := by
  unfold lastI
  simp
end Go.Proofs.YtejbififfceamaaGreatDoor
namespace Go.Proofs.YtejbififfceamaaGreatDoor
set_option linter.unusedSimpArgs false
set_option linter.unusedVariables false
set_option maxRecDepth 100000
open Go.RowKit Go.Shelf
attribute [local go_sem] Oper.semAt_some
/-- What is wrong with a place of a text of n bytes. -/
def plE (n : Nat) (i : Int) : Int := if 400 < n then 3 else if 0 ≤ i ∧ i ≤ n then 0 else 1
theorem simE_eq (ss : List St) (n : Nat) (i : Int) : simE ss n i = if stepsF ss = 0 then plE n i else stepsF ss := rfl
theorem plE_cases (n : Nat) (i : Int) : plE n i = 0 ∨ plE n i = 1 ∨ plE n i = 3 := by
  unfold plE
  split
  · exact Or.inr (Or.inr rfl)
  · split
    · exact Or.inl rfl
    · exact Or.inr (Or.inl rfl)
set_option maxHeartbeats 1000000 in
theorem checkPlace_any (s : ByteArray) (i : Int) (w : World) (hs : s.size ≤ maxLen) :
    Calls Tryz.prog 102 #[.string s, .int .i64 i] w fun e w' => e = .returned (errV (plE s.size i)) ∧ Below w.heap.size w w' := by
  unfold maxLen at hs
  by_cases h4 : 400 < s.size
  · have HF : Hid (plE s.size i = 3) := by show _ = _; unfold plE; rw [if_pos h4]
    have g4 : (400 : Int) < (s.size : Int) := by omega
    clear h4
    go_enter Tryz.func102, Tryz.ntmps102
    go_wp2
    go_ret
    exact ⟨by rw [HF.out]; rfl, Below.refl _ _⟩
  · have g4 : (s.size : Int) ≤ 400 := by omega
    by_cases h0 : 0 ≤ i
    · by_cases h1 : i ≤ (s.size : Int)
      · have HF : Hid (plE s.size i = 0) := by show _ = _; unfold plE; rw [if_neg h4, if_pos ⟨h0, h1⟩]
        clear h4
        go_enter Tryz.func102, Tryz.ntmps102
        go_wp2
        go_ret
        exact ⟨by rw [HF.out]; rfl, Below.refl _ _⟩
      · have HF : Hid (plE s.size i = 1) := by show _ = _; unfold plE; rw [if_neg h4, if_neg (by omega)]
        clear h4
        go_enter Tryz.func102, Tryz.ntmps102
        go_wp2
        go_ret
        exact ⟨by rw [HF.out]; rfl, Below.refl _ _⟩
    · have HF : Hid (plE s.size i = 1) := by show _ = _; unfold plE; rw [if_neg h4, if_neg (by omega)]
      clear h4
      go_enter Tryz.func102, Tryz.ntmps102
      go_wp2
      go_ret
      exact ⟨by rw [HF.out]; rfl, Below.refl _ _⟩
end Go.Proofs.YtejbififfceamaaGreatDoor
