/- The landed prog: Check. (Made by wip/tools/genpk2.py.) The landed prog: Check. Package sim: WaysOf. What a call turns that has memory of its own. No function of the program. The landed builder: add, hold, fork. -/
import Derived.Test.YteeamifjldoihaaDoorY10
import Derived.Test.YteeamifjldoihaaDoorY02
import Derived.Test.YteeamifjldoihaaDoorY01
import Derived.Test.YteeamifjldoihaaDoorY04
import Derived.Test.YteeamifjldoihaaDoorY07
import Derived.Deep.RegionLaw
namespace Go.Proofs.YteeamifjldoihaaDoor
set_option linter.unusedSimpArgs false
set_option linter.unusedVariables false
set_option maxRecDepth 100000
open Go.RowKit
theorem bareS_eqb (s : St) (h1 : ¬ s.op < 1) (h5 : ¬ 5 < s.op) : s.eqb (bareS s) = ! decide (stShape s) := by
  obtain ⟨op, c, x, y⟩ := s
  have hc : c.eqb c = true := eqb_self c
  have hop : op = 1 ∨ op = 2 ∨ op = 3 ∨ op = 4 ∨ op = 5 := by simp only at h1 h5; omega
  unfold stShape
  rcases hop with rfl | rfl | rfl | rfl | rfl <;> cases h : c.eqb z4 <;> by_cases hy : y = 0 <;> by_cases hx : x = 0 <;> simp [bareS, St.eqb, hc, h, hy, hx]
/-- What a step is held against: any step's number. -/
abbrev isV (b : Nat) : Value := .func (.func 56) #[] #[.pointer (some ⟨b, 0, none⟩)]
set_option maxHeartbeats 8000000 in
theorem checkStep_any (N : Nat) (hN : N ≤ 9223372036854775807) (s : St) (b : Nat) (a : Option Addr) (cap : Nat) (w : World) (hb : w.cell? ⟨b, 0, none⟩ = some (.slice a N cap)) :
    Calls Tryd.prog 57 #[s.v, isV b] w fun e w' => e = .returned (errV (stBad N s)) ∧ Below w.heap.size w w' := by
  obtain ⟨op, c, x, y⟩ := s
  have hbl : b < w.heap.size := by
    rcases Nat.lt_or_ge b w.heap.size with h | h
    · exact h
    · simp [World.cell?, Array.getElem?_eq_none h] at hb
  obtain ⟨o, ho⟩ : ∃ o : Obj, o = .cells #[.int .i64 op, .int .u64 c.a, .int .u64 c.b, .int .u64 c.c, .int .u64 c.d, .int .i64 x, .int .i64 y] 85 := ⟨_, rfl⟩
  have HC' : Hid (∀ (z : Int), Calls Tryd.prog 56 #[.int .i64 z, .pointer (some ⟨b, 0, none⟩)] (w.alloc o) fun e w' => e = .returned (.bool (decide (0 ≤ z ∧ z < (N : Int)))) ∧ w' = w.alloc o) := fun z =>
    isStep_any N hN z b a cap _ ((World.cell?_of_block (a := ⟨b, 0, none⟩) (Below.heap_alloc w o b hbl)).trans hb)
  have HB : Hid (Below w.heap.size w (w.alloc o)) := (Below.refl _ _).alloc (Nat.le_refl _) _
  obtain ⟨t, HT⟩ : ∃ t, Hid (t = bareS ⟨op, c, x, y⟩) := ⟨_, Eq.refl _⟩
  have BA : Hid (∀ W, Calls Tryd.prog 74 #[.agg #[.int .i64 op, .int .u64 c.a, .int .u64 c.b, .int .u64 c.c, .int .u64 c.d, .int .i64 x, .int .i64 y]] W fun e w' => e = .returned (.agg #[.int .i64 t.op, .int .u64 t.c.a, .int .u64 t.c.b, .int .u64 t.c.c, .int .u64 t.c.d, .int .i64 t.x, .int .i64 t.y]) ∧ Below W.heap.size W w') := by
    intro W
    rw [HT.out]
    exact bare_any ⟨op, c, x, y⟩ W
  have RC : Hid ((∀ d os, (Go.Sort.grow (redrawn (w.alloc o) d) os).cell? ⟨w.heap.size, 0, none⟩ = some (.int .i64 op)) ∧ (∀ d os, (Go.Sort.grow (redrawn (w.alloc o) d) os).cell? ⟨w.heap.size, 1, none⟩ = some (.int .u64 c.a)) ∧ (∀ d os, (Go.Sort.grow (redrawn (w.alloc o) d) os).cell? ⟨w.heap.size, 2, none⟩ = some (.int .u64 c.b)) ∧ (∀ d os, (Go.Sort.grow (redrawn (w.alloc o) d) os).cell? ⟨w.heap.size, 3, none⟩ = some (.int .u64 c.c)) ∧ (∀ d os, (Go.Sort.grow (redrawn (w.alloc o) d) os).cell? ⟨w.heap.size, 4, none⟩ = some (.int .u64 c.d)) ∧ (∀ d os, (Go.Sort.grow (redrawn (w.alloc o) d) os).cell? ⟨w.heap.size, 5, none⟩ = some (.int .i64 x)) ∧ (∀ d os, (Go.Sort.grow (redrawn (w.alloc o) d) os).cell? ⟨w.heap.size, 6, none⟩ = some (.int .i64 y))) := by
    refine ⟨?_, ?_, ?_, ?_, ?_, ?_, ?_⟩ <;> exact cell_regrown (by rw [ho]; simp)
  clear hb
  by_cases h1 : op < 1
  · have HF : Hid (stBad N ⟨op, c, x, y⟩ = 1) := stBad_range (Or.inl h1)
    go_enter Tryd.func57, Tryd.ntmps57
    go_wp2
    go_ret
    exact ⟨by rw [HF.out]; rfl, by rw [← ho]; exact HB.out⟩
  by_cases h5 : 5 < op
  · have HF : Hid (stBad N ⟨op, c, x, y⟩ = 1) := stBad_range (Or.inr (Or.inl h5))
    go_enter Tryd.func57, Tryd.ntmps57
    go_wp2
    go_ret
    exact ⟨by rw [HF.out]; rfl, by rw [← ho]; exact HB.out⟩
  have HC : Hid (∀ (z : Int), Calls Tryd.prog 56 #[.int .i64 z, .pointer (some ⟨b, 0, none⟩)] (w.alloc (.cells #[.int .i64 op, .int .u64 c.a, .int .u64 c.b, .int .u64 c.c, .int .u64 c.d, .int .i64 x, .int .i64 y] 85)) fun e w' => e = .returned (.bool (decide (0 ≤ z ∧ z < (N : Int)))) ∧ w' = w.alloc (.cells #[.int .i64 op, .int .u64 c.a, .int .u64 c.b, .int .u64 c.c, .int .u64 c.d, .int .i64 x, .int .i64 y] 85)) := by
    rw [← ho]
    exact HC'
  clear HC'
  by_cases hd : op = 5
  · subst hd
    have hr : ¬ stRange N ⟨5, c, x, y⟩ := by unfold stRange; simp
    by_cases hs : stShape ⟨5, c, x, y⟩
    · have HF : Hid (stBad N ⟨5, c, x, y⟩ = 2) := stBad_shape hr hs
      have he : ∀ w, (Op.equalIn 10000 85 (.agg #[.int .i64 5, .int .u64 c.a, .int .u64 c.b, .int .u64 c.c, .int .u64 c.d, .int .i64 x, .int .i64 y]) (.agg #[.int .i64 t.op, .int .u64 t.c.a, .int .u64 t.c.b, .int .u64 t.c.c, .int .u64 t.c.d, .int .i64 t.x, .int .i64 t.y])).run Tryd.prog w = .ok false w := fun w => (eqS ⟨5, c, x, y⟩ t w).trans (by rw [HT.out, bareS_eqb _ (by show ¬ 5 < 1; omega) (by show ¬ 5 < 5; omega)]; simp only [hs, decide_true, decide_false, Bool.not_true, Bool.not_false])
      go_enter Tryd.func57, Tryd.ntmps57
      go_wp2_with fail
      rw [← ho]
      clear ho
      obtain ⟨r0, r1, r2, r3, r4, r5, r6⟩ := RC.out
      refine wp_region_quiet_below (by kernel_rfl) (by kernel_rfl) ?_
      repeat (go_big_quiet_step (first
        | (go_at_call 74; exact Calls.regrown_of (BA.out _))))
      refine wpQuiet_nil ?_
      intro _ hw'
      obtain ⟨⟨dq, osq⟩, hw''⟩ := hw'
      have B2 : Hid (Below w.heap.size w (Go.Sort.grow (redrawn (w.alloc o) dq) osq)) := HB.out.trans ((below_regrown (w.alloc o) dq osq).mono (by simp))
      subst hw''
      generalize Go.Sort.grow (redrawn (w.alloc o) dq) osq = W at *
      clear RC r0 r1 r2 r3 r4 r5 r6
      go_wp2
      go_ret
      exact ⟨by rw [HF.out]; rfl, B2.out⟩
    · have HF : Hid (stBad N ⟨5, c, x, y⟩ = 0) := stBad_ok hr hs
      have he : ∀ w, (Op.equalIn 10000 85 (.agg #[.int .i64 5, .int .u64 c.a, .int .u64 c.b, .int .u64 c.c, .int .u64 c.d, .int .i64 x, .int .i64 y]) (.agg #[.int .i64 t.op, .int .u64 t.c.a, .int .u64 t.c.b, .int .u64 t.c.c, .int .u64 t.c.d, .int .i64 t.x, .int .i64 t.y])).run Tryd.prog w = .ok true w := fun w => (eqS ⟨5, c, x, y⟩ t w).trans (by rw [HT.out, bareS_eqb _ (by show ¬ 5 < 1; omega) (by show ¬ 5 < 5; omega)]; simp only [hs, decide_true, decide_false, Bool.not_true, Bool.not_false])
      go_enter Tryd.func57, Tryd.ntmps57
      go_wp2_with fail
      rw [← ho]
      clear ho
      obtain ⟨r0, r1, r2, r3, r4, r5, r6⟩ := RC.out
      refine wp_region_quiet_below (by kernel_rfl) (by kernel_rfl) ?_
      repeat (go_big_quiet_step (first
        | (go_at_call 74; exact Calls.regrown_of (BA.out _))))
      refine wpQuiet_nil ?_
      intro _ hw'
      obtain ⟨⟨dq, osq⟩, hw''⟩ := hw'
      have B2 : Hid (Below w.heap.size w (Go.Sort.grow (redrawn (w.alloc o) dq) osq)) := HB.out.trans ((below_regrown (w.alloc o) dq osq).mono (by simp))
      subst hw''
      generalize Go.Sort.grow (redrawn (w.alloc o) dq) osq = W at *
      clear RC r0 r1 r2 r3 r4 r5 r6
      go_wp2
      go_ret
      exact ⟨by rw [HF.out]; rfl, B2.out⟩
  have g5 : (op != 5) = true := by simp [hd]
  by_cases hx : 0 ≤ x ∧ x < (N : Int)
  case neg =>
    have HF : Hid (stBad N ⟨op, c, x, y⟩ = 1) := stBad_range (Or.inr (Or.inr (Or.inl ⟨hd, by show x < 0 ∨ (N : Int) ≤ x; omega⟩)))
    have hxd : decide (0 ≤ x ∧ x < (N : Int)) = false := by simp only [hx, decide_false]
    go_enter Tryd.func57, Tryd.ntmps57
    go_wp2_with fail
    refine Calls.mono (HC.out _) ?_
    rintro e w1 ⟨rfl, rfl⟩
    rw [hxd]
    go_wp2
    go_ret
    exact ⟨by rw [HF.out]; rfl, by rw [← ho]; exact HB.out⟩
  have hxd : decide (0 ≤ x ∧ x < (N : Int)) = true := by simp only [hx, and_self, decide_true]
  by_cases hf : op = 2
  · subst hf
    by_cases hy : 0 ≤ y ∧ y < (N : Int)
    case neg =>
      have HF : Hid (stBad N ⟨2, c, x, y⟩ = 1) := stBad_range (Or.inr (Or.inr (Or.inr ⟨rfl, by show y < 0 ∨ (N : Int) ≤ y; omega⟩)))
      have hyd : decide (0 ≤ y ∧ y < (N : Int)) = false := by simp only [hy, decide_false]
      go_enter Tryd.func57, Tryd.ntmps57
      go_wp2_with fail
      refine Calls.mono (HC.out _) ?_
      rintro e w1 ⟨rfl, rfl⟩
      rw [hxd]
      go_wp2_with fail
      refine Calls.mono (HC.out _) ?_
      rintro e w1 ⟨rfl, rfl⟩
      rw [hyd]
      go_wp2
      go_ret
      exact ⟨by rw [HF.out]; rfl, by rw [← ho]; exact HB.out⟩
    have hyd : decide (0 ≤ y ∧ y < (N : Int)) = true := by simp only [hy, and_self, decide_true]
    have hr : ¬ stRange N ⟨2, c, x, y⟩ := by
      show ¬ ((2 : Int) < 1 ∨ (5 : Int) < 2 ∨ ((2 : Int) ≠ 5 ∧ (x < 0 ∨ (N : Int) ≤ x)) ∨ ((2 : Int) = 2 ∧ (y < 0 ∨ (N : Int) ≤ y)))
      omega
    by_cases hs : stShape ⟨2, c, x, y⟩
    · have HF : Hid (stBad N ⟨2, c, x, y⟩ = 2) := stBad_shape hr hs
      have he : ∀ w, (Op.equalIn 10000 85 (.agg #[.int .i64 2, .int .u64 c.a, .int .u64 c.b, .int .u64 c.c, .int .u64 c.d, .int .i64 x, .int .i64 y]) (.agg #[.int .i64 t.op, .int .u64 t.c.a, .int .u64 t.c.b, .int .u64 t.c.c, .int .u64 t.c.d, .int .i64 t.x, .int .i64 t.y])).run Tryd.prog w = .ok false w := fun w => (eqS ⟨2, c, x, y⟩ t w).trans (by rw [HT.out, bareS_eqb _ (by show ¬ 2 < 1; omega) (by show ¬ 5 < 2; omega)]; simp only [hs, decide_true, decide_false, Bool.not_true, Bool.not_false])
      go_enter Tryd.func57, Tryd.ntmps57
      go_wp2_with fail
      refine Calls.mono (HC.out _) ?_
      rintro e w1 ⟨rfl, rfl⟩
      rw [hxd]
      go_wp2_with fail
      refine Calls.mono (HC.out _) ?_
      rintro e w1 ⟨rfl, rfl⟩
      rw [hyd]
      go_wp2_with fail
      rw [← ho]
      clear ho
      obtain ⟨r0, r1, r2, r3, r4, r5, r6⟩ := RC.out
      refine wp_region_quiet_below (by kernel_rfl) (by kernel_rfl) ?_
      repeat (go_big_quiet_step (first
        | (go_at_call 74; exact Calls.regrown_of (BA.out _))))
      refine wpQuiet_nil ?_
      intro _ hw'
      obtain ⟨⟨dq, osq⟩, hw''⟩ := hw'
      have B2 : Hid (Below w.heap.size w (Go.Sort.grow (redrawn (w.alloc o) dq) osq)) := HB.out.trans ((below_regrown (w.alloc o) dq osq).mono (by simp))
      subst hw''
      generalize Go.Sort.grow (redrawn (w.alloc o) dq) osq = W at *
      clear RC r0 r1 r2 r3 r4 r5 r6
      go_wp2
      go_ret
      exact ⟨by rw [HF.out]; rfl, B2.out⟩
    · have HF : Hid (stBad N ⟨2, c, x, y⟩ = 0) := stBad_ok hr hs
      have he : ∀ w, (Op.equalIn 10000 85 (.agg #[.int .i64 2, .int .u64 c.a, .int .u64 c.b, .int .u64 c.c, .int .u64 c.d, .int .i64 x, .int .i64 y]) (.agg #[.int .i64 t.op, .int .u64 t.c.a, .int .u64 t.c.b, .int .u64 t.c.c, .int .u64 t.c.d, .int .i64 t.x, .int .i64 t.y])).run Tryd.prog w = .ok true w := fun w => (eqS ⟨2, c, x, y⟩ t w).trans (by rw [HT.out, bareS_eqb _ (by show ¬ 2 < 1; omega) (by show ¬ 5 < 2; omega)]; simp only [hs, decide_true, decide_false, Bool.not_true, Bool.not_false])
      go_enter Tryd.func57, Tryd.ntmps57
      go_wp2_with fail
      refine Calls.mono (HC.out _) ?_
      rintro e w1 ⟨rfl, rfl⟩
      rw [hxd]
      go_wp2_with fail
      refine Calls.mono (HC.out _) ?_
      rintro e w1 ⟨rfl, rfl⟩
      rw [hyd]
      go_wp2_with fail
      rw [← ho]
      clear ho
      obtain ⟨r0, r1, r2, r3, r4, r5, r6⟩ := RC.out
      refine wp_region_quiet_below (by kernel_rfl) (by kernel_rfl) ?_
      repeat (go_big_quiet_step (first
        | (go_at_call 74; exact Calls.regrown_of (BA.out _))))
      refine wpQuiet_nil ?_
      intro _ hw'
      obtain ⟨⟨dq, osq⟩, hw''⟩ := hw'
      have B2 : Hid (Below w.heap.size w (Go.Sort.grow (redrawn (w.alloc o) dq) osq)) := HB.out.trans ((below_regrown (w.alloc o) dq osq).mono (by simp))
      subst hw''
      generalize Go.Sort.grow (redrawn (w.alloc o) dq) osq = W at *
      clear RC r0 r1 r2 r3 r4 r5 r6
      go_wp2
      go_ret
      exact ⟨by rw [HF.out]; rfl, B2.out⟩
  have g2 : (op == 2) = false := by simp [hf]
  have hr : ¬ stRange N ⟨op, c, x, y⟩ := by
    show ¬ (op < 1 ∨ 5 < op ∨ (op ≠ 5 ∧ (x < 0 ∨ (N : Int) ≤ x)) ∨ (op = 2 ∧ (y < 0 ∨ (N : Int) ≤ y)))
    omega
  by_cases hs : stShape ⟨op, c, x, y⟩
  · have HF : Hid (stBad N ⟨op, c, x, y⟩ = 2) := stBad_shape hr hs
    have he : ∀ w, (Op.equalIn 10000 85 (.agg #[.int .i64 op, .int .u64 c.a, .int .u64 c.b, .int .u64 c.c, .int .u64 c.d, .int .i64 x, .int .i64 y]) (.agg #[.int .i64 t.op, .int .u64 t.c.a, .int .u64 t.c.b, .int .u64 t.c.c, .int .u64 t.c.d, .int .i64 t.x, .int .i64 t.y])).run Tryd.prog w = .ok false w := fun w => (eqS ⟨op, c, x, y⟩ t w).trans (by rw [HT.out, bareS_eqb _ (by show ¬ op < 1; omega) (by show ¬ 5 < op; omega)]; simp only [hs, decide_true, decide_false, Bool.not_true, Bool.not_false])
    go_enter Tryd.func57, Tryd.ntmps57
    go_wp2_with fail
    refine Calls.mono (HC.out _) ?_
    rintro e w1 ⟨rfl, rfl⟩
    rw [hxd]
    go_wp2_with fail
    rw [← ho]
    clear ho
    obtain ⟨r0, r1, r2, r3, r4, r5, r6⟩ := RC.out
    refine wp_region_quiet_below (by kernel_rfl) (by kernel_rfl) ?_
    repeat (go_big_quiet_step (first
      | (go_at_call 74; exact Calls.regrown_of (BA.out _))))
    refine wpQuiet_nil ?_
    intro _ hw'
    obtain ⟨⟨dq, osq⟩, hw''⟩ := hw'
    have B2 : Hid (Below w.heap.size w (Go.Sort.grow (redrawn (w.alloc o) dq) osq)) := HB.out.trans ((below_regrown (w.alloc o) dq osq).mono (by simp))
    subst hw''
    generalize Go.Sort.grow (redrawn (w.alloc o) dq) osq = W at *
    clear RC r0 r1 r2 r3 r4 r5 r6
    go_wp2
    go_ret
    exact ⟨by rw [HF.out]; rfl, B2.out⟩
  · have HF : Hid (stBad N ⟨op, c, x, y⟩ = 0) := stBad_ok hr hs
    have he : ∀ w, (Op.equalIn 10000 85 (.agg #[.int .i64 op, .int .u64 c.a, .int .u64 c.b, .int .u64 c.c, .int .u64 c.d, .int .i64 x, .int .i64 y]) (.agg #[.int .i64 t.op, .int .u64 t.c.a, .int .u64 t.c.b, .int .u64 t.c.c, .int .u64 t.c.d, .int .i64 t.x, .int .i64 t.y])).run Tryd.prog w = .ok true w := fun w => (eqS ⟨op, c, x, y⟩ t w).trans (by rw [HT.out, bareS_eqb _ (by show ¬ op < 1; omega) (by show ¬ 5 < op; omega)]; simp only [hs, decide_true, decide_false, Bool.not_true, Bool.not_false])
    go_enter Tryd.func57, Tryd.ntmps57
    go_wp2_with fail
    refine Calls.mono (HC.out _) ?_
    rintro e w1 ⟨rfl, rfl⟩
    rw [hxd]
    go_wp2_with fail
    rw [← ho]
    clear ho
    obtain ⟨r0, r1, r2, r3, r4, r5, r6⟩ := RC.out
    refine wp_region_quiet_below (by kernel_rfl) (by kernel_rfl) ?_
    repeat (go_big_quiet_step (first
      | (go_at_call 74; exact Calls.regrown_of (BA.out _))))
    refine wpQuiet_nil ?_
    intro _ hw'
    obtain ⟨⟨dq, osq⟩, hw''⟩ := hw'
    have B2 : Hid (Below w.heap.size w (Go.Sort.grow (redrawn (w.alloc o) dq) osq)) := HB.out.trans ((below_regrown (w.alloc o) dq osq).mono (by simp))
    subst hw''
    generalize Go.Sort.grow (redrawn (w.alloc o) dq) osq = W at *
    clear RC r0 r1 r2 r3 r4 r5 r6
    go_wp2
    go_ret
    exact ⟨by rw [HF.out]; rfl, B2.out⟩
end Go.Proofs.YteeamifjldoihaaDoor
namespace Go.Proofs.YteeamifjldoihaaDoor
set_option linter.unusedSimpArgs false
set_option linter.unusedVariables false
set_option maxRecDepth 100000
open Go.RowKit
theorem pcheck_full (ss : List St) (v : Value) (w : World) (h : SsIn w v ss) (h200 : 200 < ss.length) :
    Calls Tryd.prog 36 #[v] w fun e w' => e = .returned (errV (stepsF ss)) ∧ Below w.heap.size w w' := by
  obtain ⟨a, cap, rfl, hm⟩ := ssIn_form h
  unfold maxLen at hm
  have g200 : (200 : Int) < (ss.length : Int) := by omega
  have HF : Hid (stepsF ss = 3) := by show _ = _; rw [stepsF, if_pos h200]
  clear h
  go_enter Tryd.func36, Tryd.ntmps36
  go_wp2
  go_ret
  exact ⟨by rw [HF.out]; rfl, (Below.refl _ _).alloc (Nat.le_refl _) _⟩
theorem pcheck_none (v : Value) (w : World) (h : SsIn w v []) :
    Calls Tryd.prog 36 #[v] w fun e w' => e = .returned (errV (stepsF [])) ∧ Below w.heap.size w w' := by
  obtain ⟨a, cap, rfl, hm⟩ := ssIn_form h
  simp only [List.length_nil]
  clear h
  go_enter Tryd.func36, Tryd.ntmps36
  go_wp2
  go_ret
  exact ⟨rfl, (Below.refl _ _).alloc (Nat.le_refl _) _⟩
set_option maxHeartbeats 4000000 in
theorem pcheck_at (ss : List St) (b off cap : Nat) (w : World) (hlt : b < w.heap.size) (hN : SsAt w b off ss) (h0 : 0 < ss.length) (h200 : ¬ 200 < ss.length) :
    Calls Tryd.prog 36 #[.slice (some ⟨b, off, none⟩) ss.length cap] w fun e w' => e = .returned (errV (stepsF ss)) ∧ Below w.heap.size w w' := by
  have g200 : (ss.length : Int) ≤ 200 := by omega
  have z0 : ((ss.length : Int) == 0) = false := by rw [beq_eq_false_iff_ne]; omega
  obtain ⟨o, ho⟩ : ∃ o : Obj, o = .cells #[.slice (some ⟨b, off, none⟩) ss.length cap] 49 := ⟨_, rfl⟩
  have hcell : (w.alloc o).cell? ⟨w.heap.size, 0, none⟩ = some (.slice (some ⟨b, off, none⟩) ss.length cap) := by rw [ho]; simp
  have hB0 : Below w.heap.size w (w.alloc o) := (Below.refl _ _).alloc (Nat.le_refl _) _
  have HCK : Hid (∀ (W : World) (n : St), Below (w.alloc o).heap.size (w.alloc o) W → Calls Tryd.prog 57 #[n.v, isV w.heap.size] W fun e w' => e = .returned (errV (stBad ss.length n)) ∧ Below W.heap.size W w') := fun W n hW =>
    checkStep_any ss.length (by omega) n w.heap.size _ cap W ((hW.cell (p := ⟨w.heap.size, 0, none⟩) (by simp)).trans hcell)
  have HN : Hid (SsAt (w.alloc o) b off ss) := hN.below hB0 hlt
  have HFZ : Hid (stScan ss.length ss = stepsF ss) := by show _ = _; rw [stepsF, if_neg h200, if_neg (by omega)]
  clear hcell hN
  go_enter Tryd.func36, Tryd.ntmps36
  go_wp2_with fail
  rw [← ho]
  clear ho
  go_loopw [18] (fun v wr => ∃ i : Nat, i ≤ ss.length ∧ v = .int .i64 i ∧ Hid (stScan ss.length ss = stScan ss.length (ss.drop i)) ∧ Hid (Below (w.alloc o).heap.size (w.alloc o) wr)) (fun v _ => ss.length - (intOf v).toNat)
  case atStart => exact ⟨0, by omega, rfl, Eq.refl _, Below.refl _ _⟩
  case round =>
    obtain ⟨i, hi, rfl, HS, HB⟩ := hrel
    by_cases hil : i < ss.length
    · obtain ⟨n, hn⟩ : ∃ n, ss[i]? = some n := ⟨ss[i], List.getElem?_eq_getElem hil⟩
      obtain ⟨c0, c1, c2, c3, c4, c5, c6⟩ := (HN.out.below HB.out (by simp; omega)) i n hn
      have hlt1 : (i : Int) < (ss.length : Int) := by omega
      have HSD := hid (stScan_drop ss.length ss i n hn)
      go_wp2_with fail
      refine Calls.mono (HCK.out _ n (HB.out.alloc HB.out.size _)) ?_
      rintro e w1 ⟨rfl, hb1⟩
      have B1 : Hid (Below (w.alloc o).heap.size (w.alloc o) w1) := (HB.out.alloc HB.out.size _).trans (hb1.mono (by have := HB.out.size; simp at this ⊢; omega))
      by_cases hz : stBad ss.length n = 0
      · have HS2 : Hid (stScan ss.length ss = stScan ss.length (ss.drop (i + 1))) := by show _ = _; rw [HS.out, HSD.out, if_pos hz]
        have e0 : errV (stBad ss.length n) = .nilIface := by rw [hz]; rfl
        rw [e0]
        clear hb1 c0 c1 c2 c3 c4 c5 c6 e0 hz
        go_wp2
        exact ⟨⟨i + 1, by omega, by go_num, HS2, B1⟩, by simp [intOf]; omega⟩
      · have HS2 : Hid (stepsF ss = stBad ss.length n) := by show _ = _; rw [← HFZ.out, HS.out, HSD.out, if_neg hz]
        have e0 : errV (stBad ss.length n) = .iface 24 (.int .i64 (stBad ss.length n)) := by unfold errV; rw [if_neg hz]
        rw [e0]
        clear hb1 c0 c1 c2 c3 c4 c5 c6
        go_wp2
        go_ret
        refine ⟨by rw [HS2.out, e0]; rfl, hB0.trans (B1.out.mono (by simp))⟩
    · have he : i = ss.length := by omega
      have hg1 : ¬ (i : Int) < (ss.length : Int) := by omega
      have HE : Hid (stepsF ss = 0) := by
        show _ = _
        rw [← HFZ.out, HS.out, he, List.drop_length]
        rfl
      go_wp2
      go_ret
      exact ⟨by rw [HE.out]; rfl, hB0.trans (HB.out.mono (by simp))⟩
theorem pcheck_any (ss : List St) (v : Value) (w : World) (h : SsIn w v ss) :
    Calls Tryd.prog 36 #[v] w fun e w' => e = .returned (errV (stepsF ss)) ∧ Below w.heap.size w w' := by
  by_cases h200 : 200 < ss.length
  · exact pcheck_full ss v w h h200
  rcases Nat.eq_zero_or_pos ss.length with h0 | h0
  · have e : ss = [] := List.eq_nil_of_length_eq_zero h0
    subst e
    exact pcheck_none v w h
  · obtain ⟨a, cap, rfl, hm, h | ⟨b, off, rfl, hlt, hn⟩⟩ := h
    · subst h
      simp at h0
    · exact pcheck_at ss b off cap w hlt hn h0 h200
end Go.Proofs.YteeamifjldoihaaDoor
namespace Go.Proofs.YteeamifjldoihaaDoor
set_option linter.unusedSimpArgs false
set_option linter.unusedVariables false
set_option maxRecDepth 100000
open Go.RowKit Go.Shelf
attribute [local go_sem] Oper.semAt_some
/-- append of all steps of a slice to an empty one. -/
theorem wpList_append_all {ops : Array Oper} {rest : List Oper} {o : Oper} {a : Act} {Q : Exit → Act → World → Prop} {w : World} (hgd : o.guard = none) (s x : Operand)
    (ho : o.op = .call { callee := .builtin .append, args := #[s, x], argTypes := #[49, 49] })
    (B : Nat) (v : Value) (hs : a.eval s = v) (hown : SsOwn w B v []) (ss : List St) (h0 : 0 < ss.length) (h200 : ss.length ≤ 200) (b off cap : Nat) (hx : a.eval x = .slice (some ⟨b, off, none⟩) ss.length cap)
    (hN : SsAt w b off ss) (hbase : B ≤ w.heap.size)
    (h : ∀ g c w', SsOwn w' B (.slice (some ⟨g, 0, none⟩) ss.length c) ss → w.grownBy w' v.ownBlock → B ≤ g → g < w'.heap.size → wpList Tryd.prog ops Q rest (a.put o.dst (.slice (some ⟨g, 0, none⟩) ss.length c)) w') : wpList Tryd.prog ops Q (o :: rest) a w := by
  obtain ⟨i0, hi, hz0, hz1, hz2⟩ := info_step
  refine wpList_append_lies w hgd s x 49 ho B 85 i0 _ 7 56 Tryd.underlying49 hi hz0 hz1 hz2 rfl (by decide) v 0 [] hs hown ⟨b, off, none⟩ ss.length cap (ssCells ss) hx (ssCells_len ss) ?_ (ssCells_one ss) h0 (by unfold maxLen; omega) (by omega) hbase w.heap.size rfl ?_
  · intro j u hj
    rw [Addr.add_lit]
    have hjl : j < ss.length * 7 := by
      have := (List.getElem?_eq_some_iff.1 hj).1
      rwa [ssCells_len] at this
    have hd : j = j / 7 * 7 + j % 7 := by omega
    obtain ⟨n, hn⟩ : ∃ n, ss[j / 7]? = some n := ⟨ss[j / 7]'(by omega), List.getElem?_eq_getElem (by omega)⟩
    have h1 := ssCells_at ss (j / 7) n hn (j % 7) (by omega)
    rw [← hd, hj] at h1
    obtain ⟨d0, d1, d2, d3, d4, d5, d6⟩ := hN (j / 7) n hn
    have e : off + j = off + j / 7 * 7 + j % 7 := by omega
    rw [e]
    generalize j % 7 = t at h1
    have ht : t = 0 ∨ t = 1 ∨ t = 2 ∨ t = 3 ∨ t = 4 ∨ t = 5 ∨ t = 6 := by
      have := (List.getElem?_eq_some_iff.1 h1.symm).1
      simp [stCells] at this
      omega
    rcases ht with rfl | rfl | rfl | rfl | rfl | rfl | rfl <;> (simp [stCells] at h1; subst h1; assumption)
  · intro g c w' h1 h2 h3 h4
    rw [Nat.zero_add, List.nil_append] at h1
    rw [Nat.zero_add]
    have hg : B ≤ g := by
      rcases h3 with h3 | h3
      · rcases hown.2 with ⟨hv, _⟩ | ⟨g', cap', cur, hv, hb, _⟩
        · rw [hv] at h3; cases h3
        · rw [hv] at h3
          injection h3 with h3
          simp at h3
          omega
      · omega
    exact h g c w' h1 h2 hg h4
set_option maxHeartbeats 1000000 in
theorem sclone_any (ss : List St) (h0 : 0 < ss.length) (h200 : ss.length ≤ 200) (b off cap : Nat) (w : World) (hlt : b < w.heap.size) (hN : SsAt w b off ss) :
    Calls Tryd.prog 37 #[.slice (some ⟨b, off, none⟩) ss.length cap] w fun e w' => ∃ g c, e = .returned (.slice (some ⟨g, 0, none⟩) ss.length c) ∧ Below w.heap.size w w' ∧ SsAt w' g 0 ss ∧ w.heap.size ≤ g ∧ g < w'.heap.size := by
  have hN2 := hid hN
  have hq : ∀ w, (binOp BinOp.eql 49 (.slice (some ⟨b, off, none⟩) ss.length cap) (.slice none 0 0)).run Tryd.prog w = .ok (.bool false) w := fun _ => by kernel_rfl
  clear hN
  go_enter Tryd.func37, Tryd.ntmps37
  go_wp2_with (at_builtin; refine wpList_append_all rfl _ _ rfl w.heap.size _ rfl ?hown ss h0 h200 b off cap rfl ?hat ?hbs ?_)
  case hown => exact World.ownsRow_lit w #[] 0 (Nat.le_refl _) (by unfold maxLen; omega) rfl
  case hat => exact hN2.out.below ((Below.refl _ _).alloc (Nat.le_refl _) _) hlt
  case hbs => simp
  intro g c w' hown hgr hg hgl
  have hN' : SsAt w' g 0 ss := by
    obtain ⟨a, c', hv, _, h | ⟨b', o', hv', _, h⟩⟩ := hown.isIn (by unfold maxLen; omega)
    · rw [h] at h0; simp at h0
    · injection hv with hv
      subst hv
      injection hv' with hv'
      injection hv' with e1 e2 _
      subst e1 e2
      exact h
  have hb : Below w.heap.size w w' := ((Below.refl _ _).alloc (Nat.le_refl _) (.cells #[] 85)).grown hgr (by simp) (fun k e => by simp [Value.ownBlock] at e; omega)
  have HR : Hid (Below w.heap.size w w' ∧ SsAt w' g 0 ss ∧ w.heap.size ≤ g ∧ g < w'.heap.size) := ⟨hb, hN', hg, hgl⟩
  clear hown hgr hN' hb hN2 hq
  go_wp2
  go_ret
  exact ⟨g, c, rfl, HR.out⟩
set_option maxHeartbeats 1000000 in
theorem waysOf_ok (ss : List St) (v : Value) (w : World) (hf : stepsF ss = 0) (hS : SsIn w v ss) :
    Calls Tryd.prog 19 #[v] w fun e w' => ∃ g c, e = .returned (.tuple #[wyV g 0 ss.length c, .nilIface]) ∧ Below w.heap.size w w' ∧ SsAt w' g 0 ss ∧ w.heap.size ≤ g ∧ g < w'.heap.size := by
  have HC := hid (fun w' (h : SsIn w' v ss) => pcheck_any ss v w' h)
  obtain ⟨h200, h0, _⟩ := stepsF_zero hf
  have HS := hid hS
  obtain ⟨a, cap, rfl, hm, h | ⟨b, off, rfl, hlt, hN⟩⟩ := hS
  · rw [h] at h0; simp at h0
  rw [hf, show errV 0 = .nilIface from rfl] at HC
  have HN := hid hN
  have HK := hid (fun w' (h : Below w.heap.size w w') => sclone_any ss h0 h200 b off cap w' (Nat.lt_of_lt_of_le hlt h.size) (HN.out.below h hlt))
  have hb0 : Below w.heap.size w (w.alloc (.cells #[.slice none 0 0] 53)) := (Below.refl _ _).alloc (Nat.le_refl _) _
  have HS0 := hid (HS.out.below hb0)
  have hh0 : (w.alloc (.cells #[.slice none 0 0] 53)).heap[w.heap.size]? = some (.cells #[.slice none 0 0] 53 (0, 0)) := World.alloc_heap_new w _
  obtain ⟨w0, hw0⟩ : ∃ w0, w.alloc (.cells #[.slice none 0 0] 53) = w0 := ⟨_, rfl⟩
  rw [hw0] at hb0 HS0 hh0
  have HH := hid hh0
  have HB0 := hid hb0
  clear hf hN hm HS hh0 hb0
  go_enter Tryd.func19, Tryd.ntmps19
  go_wp2_with fail
  refine Calls.mono (HC.out _ HS0.out) ?_
  rintro e w1 ⟨rfl, hb1⟩
  have HB1 := hid (HB0.out.trans (hb1.mono HB0.out.size))
  have HH1 : Hid (w1.heap[w.heap.size]? = some (.cells #[.slice none 0 0] 53 (0, 0))) := (hb1.block _ (heap_lt HH.out)).trans HH.out
  clear hb1 hw0
  go_wp2_with fail
  refine Calls.mono (HK.out _ HB1.out) ?_
  rintro e w2 ⟨g, c, rfl, hb2, hN2, hg, hgl⟩
  have hh2 := (hb2.block _ (heap_lt HH1.out)).trans HH1.out
  have u0 := Lib.cell_of_heap hh2 0
  have z0 := Lib.frozen_of_heap hh2 0
  simp only [List.getElem?_toArray, List.getElem?_cons_zero] at u0
  have HR : Hid (Below w.heap.size w (w2.setCell ⟨w.heap.size, 0, none⟩ (.slice (some ⟨g, 0, none⟩) ss.length c)) ∧ SsAt (w2.setCell ⟨w.heap.size, 0, none⟩ (.slice (some ⟨g, 0, none⟩) ss.length c)) g 0 ss ∧ w.heap.size ≤ g ∧ g < (w2.setCell ⟨w.heap.size, 0, none⟩ (.slice (some ⟨g, 0, none⟩) ss.length c)).heap.size) := by
    have hlt1 := heap_lt HH1.out
    refine ⟨(HB1.out.trans (hb2.mono HB1.out.size)).setCell (p := ⟨w.heap.size, 0, none⟩) (Nat.le_refl _) _, ?_, by omega, by simpa using hgl⟩
    exact hN2.grown (grown_setS w2 w.heap.size 0 _) hgl (by intro e; injection e with e; omega)
  have c2 : (w2.setCell ⟨w.heap.size, 0, none⟩ (.slice (some ⟨g, 0, none⟩) ss.length c)).cell? ⟨w.heap.size, 0, none⟩ = some (.slice (some ⟨g, 0, none⟩) ss.length c) := by
    have : Boxed w2 w.heap.size 53 (.slice none 0 0) := hh2
    exact (this.set _).cell
  clear hb2 hN2 hg hgl hh2 HH1 HH HB1 HB0
  go_wp2
  refine bodyPost_ret (v := .tuple #[wyV g 0 ss.length c, .nilIface]) (by simp [results, Tryd.results19, go_sem, c2]) rfl ⟨g, c, rfl, HR.out⟩
set_option maxHeartbeats 1000000 in
theorem waysOf_bad (ss : List St) (v : Value) (w : World) (hf : ¬ stepsF ss = 0) (hS : SsIn w v ss) :
    Calls Tryd.prog 19 #[v] w fun e w' => e = .returned (.tuple #[.agg #[.slice none 0 0], errV (stepsF ss)]) ∧ Below w.heap.size w w' := by
  have HC := hid (fun w' (h : SsIn w' v ss) => pcheck_any ss v w' h)
  have HS := hid hS
  obtain ⟨a, cap, rfl, hm⟩ := ssIn_form hS
  have hE : errV (stepsF ss) = .iface 24 (.int .i64 (stepsF ss)) := by unfold errV; rw [if_neg hf]
  rw [hE] at HC ⊢
  have hb0 : Below w.heap.size w (w.alloc (.cells #[.slice none 0 0] 53)) := (Below.refl _ _).alloc (Nat.le_refl _) _
  have HS0 := hid (HS.out.below hb0)
  have hh0 : (w.alloc (.cells #[.slice none 0 0] 53)).heap[w.heap.size]? = some (.cells #[.slice none 0 0] 53 (0, 0)) := World.alloc_heap_new w _
  obtain ⟨w0, hw0⟩ : ∃ w0, w.alloc (.cells #[.slice none 0 0] 53) = w0 := ⟨_, rfl⟩
  rw [hw0] at hb0 HS0 hh0
  have HH := hid hh0
  have HB0 := hid hb0
  clear hf hm HS hh0 hb0 hS
  go_enter Tryd.func19, Tryd.ntmps19
  go_wp2_with fail
  refine Calls.mono (HC.out _ HS0.out) ?_
  rintro e w1 ⟨rfl, hb1⟩
  have hB1 := HB0.out.trans (hb1.mono HB0.out.size)
  have hh1 : Boxed w1 w.heap.size 53 (.slice none 0 0) := (hb1.block _ (heap_lt HH.out)).trans HH.out
  have u0 := hh1.cell
  have z0 := hh1.frozen
  have c2 := (hh1.set (.slice none 0 0)).cell
  have HR := hid (hB1.setCell (p := ⟨w.heap.size, 0, none⟩) (Nat.le_refl _) (.slice none 0 0))
  clear hb1 hw0 HH HB0 HC HS0 hB1 hh1
  go_wp2
  refine bodyPost_ret (v := .tuple #[.agg #[.slice none 0 0], .iface 24 (.int .i64 (stepsF ss))]) (by simp [results, Tryd.results19, go_sem, c2]) rfl ⟨rfl, HR.out⟩
theorem lasts_tab : Lasts Tab := fun w w' h hb => h.below hb (Nat.le_refl _)
end Go.Proofs.YteeamifjldoihaaDoor
namespace Go.Proofs.YteeamifjldoihaaDoor
set_option linter.unusedSimpArgs false
set_option linter.unusedVariables false
set_option maxRecDepth 100000
open Go.RowKit
/-- Nothing has turned but what is in F. -/
structure But (F : Nat → Prop) (w w' : World) : Prop where
  os : w'.os = w.os
  tape : w'.tape = w.tape
  output : w'.output = w.output
  size : w.heap.size ≤ w'.heap.size
  block : ∀ k, k < w.heap.size → ¬ F k → w'.heap[k]? = w.heap[k]?
theorem But.refl (F : Nat → Prop) (w : World) : But F w w := ⟨rfl, rfl, rfl, Nat.le_refl _, fun _ _ _ => rfl⟩
theorem But.below {F : Nat → Prop} {w w' : World} (h : Below w.heap.size w w') : But F w w' := ⟨h.os, h.tape, h.output, h.size, fun k hk _ => h.block k hk⟩
theorem But.mono {F G : Nat → Prop} {w w' : World} (h : But F w w') (hs : ∀ k, k < w.heap.size → F k → G k) : But G w w' := ⟨h.os, h.tape, h.output, h.size, fun k hk hn => h.block k hk (fun hf => hn (hs k hk hf))⟩
theorem But.to {F : Nat → Prop} {w w' : World} (h : But F w w') {B : Nat} (hB : B ≤ w.heap.size) (hF : ∀ k, F k → B ≤ k) : Below B w w' := ⟨h.os, h.tape, h.output, h.size, fun k hk => h.block k (by omega) (fun hf => by have := hF k hf; omega)⟩
theorem But.trans {F G : Nat → Prop} {a b c : World} (h : But F a b) (g : But G b c) (hG : ∀ k, G k → F k ∨ a.heap.size ≤ k) : But F a c :=
  ⟨g.os.trans h.os, g.tape.trans h.tape, g.output.trans h.output, Nat.le_trans h.size g.size, fun k hk hn => (g.block k (Nat.lt_of_lt_of_le hk h.size) (fun hg => by
    rcases hG k hg with h' | h'
    · exact hn h'
    · omega)).trans (h.block k hk hn)⟩
/-- What is kept in F lies in F', or is new. -/
def Onto (F F' : Nat → Prop) (w : World) : Prop := ∀ k, F' k → F k ∨ w.heap.size ≤ k
/-- A call on a set that turned nothing but its own. -/
def Turns (F : Nat → Prop) (w w' : World) (P : (Nat → Prop) → Prop) : Prop := ∃ F', P F' ∧ But F w w' ∧ Onto F F' w
end Go.Proofs.YteeamifjldoihaaDoor
namespace Go.Proofs.YteeamifjldoihaaDoor
set_option linter.unusedSimpArgs false
set_option linter.unusedVariables false
set_option maxRecDepth 100000
open Go.RowKit
/-- The builder at g has the nodes nv, and the steps ss so far. -/
structure BB (w : World) (g : Nat) (nv : Value) (ss : List St) : Prop where
  of : ∃ sv, Bld w g nv sv ∧ SsOwn w (g + 1) sv ss
theorem Bld.grownS {w w' : World} {g B : Nat} {nv sv u : Value} {ss : List St} (h : Bld w g nv sv) (hO : SsOwn w B u ss) (hB : g < B) (hg : w.grownBy w' u.ownBlock) : Bld w' g nv sv := by
  refine (hg.block g h.lt ?_).trans h
  intro e
  have := (hO.ne g e.symm).1
  omega
theorem below_grownS {w w' : World} {g B : Nat} {u : Value} {ss : List St} (hO : SsOwn w B u ss) (hB : g ≤ B) (hgs : g ≤ w.heap.size) (hg : w.grownBy w' u.ownBlock) : Below g w w' :=
  ⟨hg.os, hg.tape, hg.output, hg.size, fun k hk => hg.block k (by omega) (by
    intro e
    have := (hO.ne k e.symm).1
    omega)⟩
set_option maxHeartbeats 2000000 in
theorem add_any (g : Nat) (nv : Value) (ss : List St) (n : St) (w : World) (h : BB w g nv ss) (hm : ss.length ≤ 1000) :
    Calls Tryd.prog 35 #[.pointer (some ⟨g, 0, none⟩), n.v] w fun e w' => e = .returned (.tuple #[]) ∧ BB w' g nv (ss ++ [n]) ∧ Below g w w' := by
  obtain ⟨sv, hb, hO⟩ := h.of
  have hg := hb.lt
  obtain ⟨a0, cap0, hsv⟩ := hO.len
  have n0 : ¬ g = w.heap.size := by omega
  have n1 : ¬ w.heap.size = g := by omega
  have n2 : ¬ w.heap.size + 1 = g := by omega
  have n3 : ¬ g = w.heap.size + 1 := by omega
  obtain ⟨c0, c1, f1⟩ := hb.all
  have k1 : ∀ o, (w.alloc o).cell? ⟨g, 1, none⟩ = some sv := fun o => (hb.alloc o).all.2.1
  have k2 : ∀ o o', ((w.alloc o).alloc o').cell? ⟨g, 1, none⟩ = some sv := fun o o' => ((hb.alloc o).alloc o').all.2.1
  have AO : Hid (∀ W : World, W = ((w.alloc (.cells #[.int .i64 n.op, .int .u64 n.c.a, .int .u64 n.c.b, .int .u64 n.c.c, .int .u64 n.c.d, .int .i64 n.x, .int .i64 n.y] 85)).alloc (.cells #[.int .i64 n.op, .int .u64 n.c.a, .int .u64 n.c.b, .int .u64 n.c.c, .int .u64 n.c.d, .int .i64 n.x, .int .i64 n.y] 85)).drew → SsOwn W (g + 1) sv ss ∧ (∀ j u, (ssCells [n])[j]? = some u → W.cell? ⟨w.heap.size + 1, j, none⟩ = some u) ∧ g + 1 ≤ W.heap.size ∧ Bld W g nv sv ∧ Below g w W) := by
    rintro _ rfl
    have hB2 : Below w.heap.size w ((w.alloc (.cells #[.int .i64 n.op, .int .u64 n.c.a, .int .u64 n.c.b, .int .u64 n.c.c, .int .u64 n.c.d, .int .i64 n.x, .int .i64 n.y] 85)).alloc (.cells #[.int .i64 n.op, .int .u64 n.c.a, .int .u64 n.c.b, .int .u64 n.c.c, .int .u64 n.c.d, .int .i64 n.x, .int .i64 n.y] 85)).drew := (((Below.refl _ _).alloc (Nat.le_refl _) _).alloc (by simp) _).drew
    refine ⟨hO.below hB2, ?_, ?_, hb.below hB2, hB2.mono (by omega)⟩
    · intro j u hj
      show ((w.alloc _).alloc _).cell? _ = _
      rw [World.cell?_alloc_at (w := w.alloc (.cells #[.int .i64 n.op, .int .u64 n.c.a, .int .u64 n.c.b, .int .u64 n.c.c, .int .u64 n.c.d, .int .i64 n.x, .int .i64 n.y] 85)) _ _ (w.heap.size + 1) j (by simp)]
      simpa [ssCells, stCells] using hj
    · have := hB2.size
      omega
  clear h hO hsv hb
  go_enter Tryd.func35, Tryd.ntmps35
  go_wp2_with fail
  go_region_law (first | (refine step_append_ss (by rfl) _ _ (by rfl) (g + 1) sv (by rfl) ss (AO.out _ rfl).1 (w.heap.size + 1) 1 n (by rfl) (AO.out _ rfl).2.1 (by omega) (AO.out _ rfl).2.2.1 ?_; intro g3 cap3 w3 ho3 hg3 hb3 hl3; have HO3 := hid ho3; have hp3 := (AO.out _ rfl).2.2.2.1.grownS (AO.out _ rfl).1 (by omega) hg3; have HB3 := hid ((AO.out _ rfl).2.2.2.2.trans (below_grownS (AO.out _ rfl).1 (by omega) (by have := (AO.out _ rfl).2.2.1; omega) hg3)); have HP3 := hid hp3; obtain ⟨d0, d1, e1⟩ := hp3.all; clear ho3 hg3 hb3 hl3 hp3))
  all_goals go_wp2
  all_goals go_end0
  all_goals exact ⟨rfl, ⟨_, HP3.out.setSteps _, HO3.out.keptG (bgrown_cell _ _ _ _) (by omega)⟩, HB3.out.setCell (Nat.le_refl _) _⟩
theorem BB.below {w w' : World} {g : Nat} {nv : Value} {ss : List St} (h : BB w g nv ss) (hb : Below w.heap.size w w') : BB w' g nv ss := by
  obtain ⟨sv, h1, h2⟩ := h.of
  exact ⟨sv, h1.below hb, h2.below hb⟩
theorem BB.lt {w : World} {g : Nat} {nv : Value} {ss : List St} (h : BB w g nv ss) : g < w.heap.size := by
  obtain ⟨sv, h1, _⟩ := h.of
  exact h1.lt
/-- What lies in memory of a builder, and the length of its steps. -/
theorem BB.read {w : World} {g : Nat} {nv : Value} {ss : List St} (h : BB w g nv ss) : ∃ a cap, w.cell? ⟨g, 0, none⟩ = some nv ∧ w.cell? ⟨g, 1, none⟩ = some (.slice a ss.length cap) := by
  obtain ⟨sv, h1, h2⟩ := h.of
  obtain ⟨a, cap, rfl⟩ := h2.len
  exact ⟨a, cap, h1.all.1, h1.all.2.1⟩
set_option maxHeartbeats 1000000 in
theorem hold_any (g : Nat) (nv : Value) (ss : List St) (w : World) (h : BB w g nv ss) (hm : ss.length ≤ 1000) :
    Calls Tryd.prog 72 #[.pointer (some ⟨g, 0, none⟩)] w fun e w' => e = .returned (.int .i64 (ss.length : Int)) ∧ BB w' g nv (ss ++ [stZ]) ∧ Below g w w' := by
  have HA := hid (add_any g nv ss stZ w h hm)
  clear h
  go_enter Tryd.func72, Tryd.ntmps72
  go_wp2_with fail
  refine Calls.mono HA.out ?_
  rintro e w1 ⟨rfl, h1, hb⟩
  obtain ⟨a, cap, d0, d1⟩ := h1.read
  have HB := hid h1
  have HL := hid hb
  rw [List.length_append] at d1
  have hl : (((ss.length + [stZ].length : Nat) : Int)) - 1 = (ss.length : Int) := by simp
  clear h1 hb
  go_wp2
  go_ret
  exact ⟨by first | rfl | (simp; done), HB.out, HL.out⟩
/-- A step is put in the place of another one. -/
def putSt (w : World) (g o : Nat) (s : St) : World := ((((((w.setCell ⟨g, o, none⟩ (.int .i64 s.op)).setCell ⟨g, o + 1, none⟩ (.int .u64 s.c.a)).setCell ⟨g, o + 2, none⟩ (.int .u64 s.c.b)).setCell ⟨g, o + 3, none⟩ (.int .u64 s.c.c)).setCell ⟨g, o + 4, none⟩ (.int .u64 s.c.d)).setCell ⟨g, o + 5, none⟩ (.int .i64 s.x)).setCell ⟨g, o + 6, none⟩ (.int .i64 s.y)
theorem heap_set {w : World} {r : Nat} {cur : Array Value} {t : TypeId} {fz : Nat × Nat} (h : w.heap[r]? = some (.cells cur t fz)) (o : Nat) (v : Value) : (w.setCell ⟨r, o, none⟩ v).heap[r]? = some (.cells (cur.setIfInBounds o v) t fz) := by
  simp [World.setCell, Array.getElem?_modify, h]
theorem stCells_set (m : St) (R : List Value) (k t : Nat) (v : Value) : (stCells m ++ R).set ((k + 1) * 7 + t) v = stCells m ++ R.set (k * 7 + t) v := by
  rw [List.set_append_right _ _ (by simp [stCells]; omega)]
  congr 2
  simp [stCells]
  omega
theorem ssCells_set (s : St) : ∀ (ss : List St) (k : Nat), k < ss.length → ssCells (ss.set k s) = ((((((((ssCells ss).set (k * 7 + 0) (.int .i64 s.op)).set (k * 7 + 1) (.int .u64 s.c.a)).set (k * 7 + 2) (.int .u64 s.c.b)).set (k * 7 + 3) (.int .u64 s.c.c)).set (k * 7 + 4) (.int .u64 s.c.d)).set (k * 7 + 5) (.int .i64 s.x)).set (k * 7 + 6) (.int .i64 s.y))
  | [], k, h => by simp at h
  | m :: r, 0, h => by simp [ssCells, stCells]
  | m :: r, k + 1, h => by
    rw [List.set_cons_succ, ssCells, ssCells, ssCells_set s r k (by simpa using h)]
    rw [stCells_set, stCells_set, stCells_set, stCells_set, stCells_set, stCells_set, stCells_set]
theorem SsOwn.put {w : World} {base r cap : Nat} {ss : List St} (h : SsOwn w base (.slice (some ⟨r, 0, none⟩) ss.length cap) ss) (k : Nat) (hk : k < ss.length) (s : St) :
    SsOwn (putSt w r (k * 7) s) base (.slice (some ⟨r, 0, none⟩) ss.length cap) (ss.set k s) := by
  refine ⟨by rw [ssCells_len], Or.inr ?_⟩
  rcases h.2 with ⟨hv, hn⟩ | ⟨g, cap', cur, hv, hb, hh, hnc, hcm, hcs, htk⟩
  · omega
  · injection hv with e1 e2 e3
    injection e1 with e1
    injection e1 with e1
    subst e1
    subst e3
    have hh' := heap_set (heap_set (heap_set (heap_set (heap_set (heap_set (heap_set hh (k * 7) (.int .i64 s.op)) (k * 7 + 1) (.int .u64 s.c.a)) (k * 7 + 2) (.int .u64 s.c.b)) (k * 7 + 3) (.int .u64 s.c.c)) (k * 7 + 4) (.int .u64 s.c.d)) (k * 7 + 5) (.int .i64 s.x)) (k * 7 + 6) (.int .i64 s.y)
    refine ⟨r, cap, _, by rw [List.length_set], hb, hh', by rw [List.length_set]; exact hnc, hcm, by simp only [Array.size_setIfInBounds]; exact hcs, ?_⟩
    rw [List.length_set, ssCells_set s ss k hk]
    simp only [Array.toList_setIfInBounds, List.take_set, htk, Nat.add_zero]
theorem grown_putSt (w : World) (r o : Nat) (s : St) : w.grownBy (putSt w r o s) (some r) :=
  Lib.grownBy_setB (Lib.grownBy_setB (Lib.grownBy_setB (Lib.grownBy_setB (Lib.grownBy_setB (Lib.grownBy_setB (Lib.grownBy_setB (World.grownBy.refl w _) _ _) _ _) _ _) _ _) _ _) _ _) _ _
set_option maxHeartbeats 1000000 in
theorem fork_any (g : Nat) (nv : Value) (ss : List St) (k x y : Nat) (w : World) (h : BB w g nv ss) (hk : k < ss.length) :
    Calls Tryd.prog 73 #[.pointer (some ⟨g, 0, none⟩), .int .i64 (k : Int), .int .i64 (x : Int), .int .i64 (y : Int)] w fun e w' => e = .returned (.tuple #[]) ∧ BB w' g nv (ss.set k (stF x y)) ∧ Below g w w' := by
  obtain ⟨sv, hb, hO⟩ := h.of
  obtain ⟨c0, c1, f1⟩ := hb.all
  obtain ⟨r, cap, rfl, hr, hrl, hlc, cur, hh, hcs, htk⟩ := hO.form (by omega)
  have k0 : (0 : Int) ≤ (k : Int) := by omega
  have k1 : (k : Int) < (ss.length : Int) := by omega
  have z0 : w.frozen? ⟨r, k * 7, none⟩ = false := Lib.frozen_of_heap hh _
  have z1 : w.frozen? ⟨r, k * 7 + 1, none⟩ = false := Lib.frozen_of_heap hh _
  have z2 : w.frozen? ⟨r, k * 7 + 2, none⟩ = false := Lib.frozen_of_heap hh _
  have z3 : w.frozen? ⟨r, k * 7 + 3, none⟩ = false := Lib.frozen_of_heap hh _
  have z4' : w.frozen? ⟨r, k * 7 + 4, none⟩ = false := Lib.frozen_of_heap hh _
  have z5 : w.frozen? ⟨r, k * 7 + 5, none⟩ = false := Lib.frozen_of_heap hh _
  have z6 : w.frozen? ⟨r, k * 7 + 6, none⟩ = false := Lib.frozen_of_heap hh _
  have HC : Hid (∃ c : Nat → Value, ∀ t, t < 7 → w.cell? ⟨r, k * 7 + t, none⟩ = some (c t)) := by
    refine ⟨fun t => cur.toList.getD (k * 7 + t) .nilIface, fun t ht => ?_⟩
    have : k * 7 + t < cur.size := by rw [hcs]; omega
    rw [Lib.cell_of_heap hh, Array.getElem?_eq_getElem this]
    simp [List.getD, Array.getElem?_toList, Array.getElem?_eq_getElem this]
  obtain ⟨c, hc⟩ := HC.out
  have y0 := hc 0 (by omega)
  have y1 := hc 1 (by omega)
  have y2 := hc 2 (by omega)
  have y3 := hc 3 (by omega)
  have y4 := hc 4 (by omega)
  have y5 := hc 5 (by omega)
  have y6 := hc 6 (by omega)
  rw [Nat.add_zero] at y0
  have HP : Hid (BB (putSt w r (k * 7) (stF x y)) g nv (ss.set k (stF x y)) ∧ Below g w (putSt w r (k * 7) (stF x y))) := by
    refine ⟨⟨.slice (some ⟨r, 0, none⟩) ss.length cap, ?_, hO.put k hk _⟩, ?_⟩
    · exact ((grown_putSt w r (k * 7) (stF x y)).block g hb.lt (by intro e; injection e with e; omega)).trans hb
    · have hgr := grown_putSt w r (k * 7) (stF x y)
      exact ⟨hgr.os, hgr.tape, hgr.output, hgr.size, fun i hi => hgr.block i (by omega) (by intro e; injection e with e; omega)⟩
  clear hc h hb hO hh htk hcs HC
  go_enter Tryd.func73, Tryd.ntmps73
  go_wp2
  go_end0
  exact ⟨rfl, HP.out⟩
end Go.Proofs.YteeamifjldoihaaDoor
