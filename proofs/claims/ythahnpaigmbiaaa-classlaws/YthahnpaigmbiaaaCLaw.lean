/- The law ClassLaws, walked: every call by its contract. -/
import Derived.Test.YthahnpaigmbiaaaWk5
set_option linter.unusedSimpArgs false
set_option linter.unusedVariables false
namespace Go.Proofs.Ythahnpaigmbiaaa
open Go.RowKit

theorem fact_abcx : textL (C4.ofL [97, 98, 99, 120]) = [91, 97, 45, 99, 120, 93] := by decide +kernel
theorem text_abcx (w : World) :
    Calls Try.prog 4 #[(C4.ofL [97, 98, 99, 120]).v] w fun e w' => e = .returned (.string ⟨#[91, 97, 45, 99, 120, 93]⟩) ∧ Below w.heap.size w w' := by
  refine (text_any _ w).mono ?_
  rintro e w' ⟨rfl, hb⟩
  rw [fact_abcx]
  exact ⟨rfl, hb⟩

set_option maxHeartbeats 1000000 in
theorem laws_walk (a b : C4) (w : World)
    (q1 : (a.and b).not.eqb (a.not.or b.not) = true) (q2 : a.not.not.eqb a = true)
    (q3 : (IntKind.i64.wrap ((a.and b).many 4 + (a.or b).many 4) != IntKind.i64.wrap (a.many 4 + b.many 4)) = false) (q4 : (IntKind.i64.wrap (a.many 4 + a.not.many 4) != 256) = false)
    (q5 : (textL a == textL b) = a.eqb b) :
    Calls Try.prog 3 #[a.v, b.v] w fun e w' => e = .returned (.bool true) ∧ Below w.heap.size w w' := by
  have Q5 : Hid _ := q5
  clear q5
  have he := eq4
  have hab : (⟨#[97, 98, 99, 120]⟩ : ByteArray).size ≤ maxLen := by unfold maxLen; decide
  go_enter Try.func3, Try.ntmps3
  go_wp2_with fail
  refine (of_any _ _ hab).mono ?_
  rintro e w1 ⟨rfl, hb1⟩
  have hA1 : Hb w1 w.heap.size a := ((Hb.new w a _ rfl).alloc _).below hb1 (by simp; omega)
  have hB1 : Hb w1 (w.heap.size + 1) b := (Hb.new _ b _ (by simp)).below hb1 (by simp)
  have b1 : Below w.heap.size w w1 := (((Below.refl _ _).alloc (Nat.le_refl _) _).alloc (by simp) _).trans (hb1.mono (by simp; omega))
  go_wp2_with fail
  refine (text_abcx _).mono ?_
  rintro e w2 ⟨rfl, hb2⟩
  have hA2 := hA1.below hb2 hA1.lt
  have hB2 := hB1.below hb2 hB1.lt
  have b2 := b1.trans (hb2.mono b1.size)
  clear hb1 hb2 b1 hA1 hB1
  obtain ⟨a0, a1, a2, a3, af0, af1, af2, af3⟩ := hA2.all
  obtain ⟨c0, c1, c2, c3, cf0, cf1, cf2, cf3⟩ := hB2.all
  go_wp2_with fail
  refine (both_any a b _).mono ?_
  rintro e w3 ⟨rfl, hb3⟩
  have hA3 := hA2.below hb3 hA2.lt
  have hB3 := hB2.below hb3 hB2.lt
  have b3 := b2.trans (hb3.mono b2.size)
  clear hb3 b2 hA2 hB2 a0 a1 a2 a3 af0 af1 af2 af3 c0 c1 c2 c3 cf0 cf1 cf2 cf3
  obtain ⟨a0, a1, a2, a3⟩ := hA3.ca
  obtain ⟨c0, c1, c2, c3⟩ := hB3.ca
  go_wp2_with fail
  refine (either_any a b _).mono ?_
  rintro e w4 ⟨rfl, hb4⟩
  have hX4 : Hb w4 w3.heap.size (a.and b) := (Hb.new w3 (a.and b) _ rfl).below hb4 (by simp)
  have hA4 := (hA3.alloc _).below hb4 (hA3.alloc _).lt
  have hB4 := (hB3.alloc _).below hb4 (hB3.alloc _).lt
  have b4 := (b3.alloc b3.size _).trans (hb4.mono (by have := b3.size; simp; omega))
  have hX5 := hX4.alloc (.cells (a.or b).cells 24)
  have hA5 := hA4.alloc (.cells (a.or b).cells 24)
  have hB5 := hB4.alloc (.cells (a.or b).cells 24)
  have hY5 := Hb.new w4 (a.or b) _ rfl
  have b5 := b4.alloc b4.size (.cells (a.or b).cells 24)
  clear hb4 b3 hA3 hB3 a0 a1 a2 a3 c0 c1 c2 c3
  go_wp2_with fail
  generalize hgw : w4.alloc (.cells (a.or b).cells 24) = w5 at *
  generalize hx : w3.heap.size = bx at *
  generalize hy : w4.heap.size = bY at *
  clear hgw hx hy b4 hX4 hA4 hB4
  obtain ⟨a0, a1, a2, a3⟩ := hA5.cr
  obtain ⟨c0, c1, c2, c3⟩ := hB5.cr
  obtain ⟨x0, x1, x2, x3⟩ := hX5.cr
  refine wp_region_quiet_below (by kernel_rfl) (by kernel_rfl) ?_
  repeat (quiet_step (first
    | (go_at_call 8; exact Calls.regrown_of (not_any _ _))
    | (go_at_call 7; exact Calls.regrown_of (either_any _ _ _))))
  refine wpQuiet_nil ?_
  intro _ hw'
  obtain ⟨⟨dq, osq⟩, hw''⟩ := hw'
  have hb := below_regrown w5 dq osq
  have b6 := b5.trans (hb.mono b5.size)
  have hA6 := hA5.below hb hA5.lt
  have hB6 := hB5.below hb hB5.lt
  have hX6 := hX5.below hb hX5.lt
  have hY6 := hY5.below hb hY5.lt
  subst hw''
  clear a0 a1 a2 a3 c0 c1 c2 c3 x0 x1 x2 x3
  generalize hgw : Go.Sort.grow (redrawn w5 dq) osq = w6 at *
  clear hgw hb hA5 hB5 hX5 hY5 b5
  go_wp2_with fail
  obtain ⟨a0, a1, a2, a3⟩ := hA6.cr
  obtain ⟨c0, c1, c2, c3⟩ := hB6.cr
  obtain ⟨x0, x1, x2, x3⟩ := hX6.cr
  obtain ⟨y0, y1, y2, y3⟩ := hY6.cr
  refine wp_region_quiet_below (by kernel_rfl) (by kernel_rfl) ?_
  repeat (quiet_step (first
    | (go_at_call 8; exact Calls.regrown_of (not_any _ _))
    | (go_at_call 9; exact Calls.regrown_of (many_any _ _))))
  refine wpQuiet_nil ?_
  intro _ hw'
  obtain ⟨⟨dq, osq⟩, hw''⟩ := hw'
  have hb := below_regrown w6 dq osq
  have b7 := b6.trans (hb.mono b6.size)
  have hA7 := hA6.below hb hA6.lt
  have hB7 := hB6.below hb hB6.lt
  have hX7 := hX6.below hb hX6.lt
  have hY7 := hY6.below hb hY6.lt
  subst hw''
  clear y0 y1 y2 y3 a0 a1 a2 a3 c0 c1 c2 c3 x0 x1 x2 x3
  generalize hgw : Go.Sort.grow (redrawn w6 dq) osq = w7 at *
  clear hgw hb hA6 hB6 hX6 hY6 b6
  go_wp2_with fail
  obtain ⟨a0, a1, a2, a3⟩ := hA7.cr
  obtain ⟨c0, c1, c2, c3⟩ := hB7.cr
  refine wp_region_quiet_below (by kernel_rfl) (by kernel_rfl) ?_
  repeat (quiet_step (first
    | (go_at_call 4; exact Calls.regrown_of (text_any _ _))))
  refine wpQuiet_nil ?_
  intro _ hw'
  obtain ⟨⟨dq, osq⟩, hw''⟩ := hw'
  have hb := below_regrown w7 dq osq
  have b8 := b7.trans (hb.mono b7.size)
  subst hw''
  go_wp2
  go_ret
  refine ⟨?_, b8⟩
  show Ending.returned (.bool ((textL a == textL b) == a.eqb b)) = _
  rw [Q5.out]
  simp
end Go.Proofs.Ythahnpaigmbiaaa
