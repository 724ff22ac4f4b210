/- What each call of package class does: fifth part: Text. -/
import Derived.Test.YtmdfdlljeggbbaaWk4
set_option linter.unusedSimpArgs false
set_option linter.unusedVariables false
set_option maxRecDepth 100000
namespace Go.Proofs.Ytmdfdlljeggbbaa
open Go.RowKit

theorem runs256_any (k : C4) (w : World) :
    Calls Try.prog 16 #[k.v] w fun e w' => e = .returned (.string ⟨(runs256 k).toArray⟩) ∧ Below w.heap.size w w' := runs_any k w

set_option maxHeartbeats 1000000 in
theorem text_dot (k : C4) (w : World) (hd : k.eqb (C4.ofL [10]).not = true) :
    Calls Try.prog 6 #[k.v] w fun e w' => e = .returned (.string ⟨(textL k).toArray⟩) ∧ Below w.heap.size w w' := by
  have HT : Hid _ := textL_dot k hd
  have he := eq4
  have hten : (⟨#[10]⟩ : ByteArray).size ≤ maxLen := by unfold maxLen; decide
  have hrl := runs256_len k
  have hrs : (⟨(runs256 k).toArray⟩ : ByteArray).size ≤ 2304 := by rw [size_str]; exact hrl
  go_enter Try.func6, Try.ntmps6
  go_wp2_with fail
  have hn := Hb.new w k _ rfl
  have k0 := cell_regrown hn.c0
  have k1 := cell_regrown hn.c1
  have k2 := cell_regrown hn.c2
  have k3 := cell_regrown hn.c3
  refine wp_region_quiet_below (by kernel_rfl) (by kernel_rfl) ?_
  repeat (quiet_step (first
    | (go_at_call 7; exact Calls.regrown_of (of_any _ _ hten))
    | (go_at_call 10; exact Calls.regrown_of (not_any _ _))))
  refine wpQuiet_nil ?_
  intro _ hw'
  obtain ⟨⟨dq, osq⟩, hw''⟩ := hw'
  have hb1 := below_regrown (w.alloc (.cells k.cells 24)) dq osq
  have hw1 : Below w.heap.size w _ := ((Below.refl w.heap.size w).alloc (Nat.le_refl _) (.cells k.cells 24)).trans (hb1.mono (by simp))
  have hK := hn.below hb1 hn.lt
  subst hw''
  clear k0 k1 k2 k3
  generalize hgw : Go.Sort.grow (redrawn (w.alloc (.cells k.cells 24)) dq) osq = w1 at *
  clear hgw
  obtain ⟨c0, c1, c2, c3, e0, e1, e2, e3⟩ := hK.all
  go_wp2
  go_ret
  exact ⟨ret_str (by rw [HT.out]), hw1⟩
set_option maxHeartbeats 1000000 in
theorem text_one (k : C4) (w : World) (hd : k.eqb (C4.ofL [10]).not = false) (hm : (k.many 4 == 1) = true) :
    Calls Try.prog 6 #[k.v] w fun e w' => e = .returned (.string ⟨(textL k).toArray⟩) ∧ Below w.heap.size w w' := by
  have HT : Hid _ := textL_one k hd hm
  have he := eq4
  have hten : (⟨#[10]⟩ : ByteArray).size ≤ maxLen := by unfold maxLen; decide
  have hrl := runs256_len k
  have hrs : (⟨(runs256 k).toArray⟩ : ByteArray).size ≤ 2304 := by rw [size_str]; exact hrl
  go_enter Try.func6, Try.ntmps6
  go_wp2_with fail
  have hn := Hb.new w k _ rfl
  have k0 := cell_regrown hn.c0
  have k1 := cell_regrown hn.c1
  have k2 := cell_regrown hn.c2
  have k3 := cell_regrown hn.c3
  refine wp_region_quiet_below (by kernel_rfl) (by kernel_rfl) ?_
  repeat (quiet_step (first
    | (go_at_call 7; exact Calls.regrown_of (of_any _ _ hten))
    | (go_at_call 10; exact Calls.regrown_of (not_any _ _))))
  refine wpQuiet_nil ?_
  intro _ hw'
  obtain ⟨⟨dq, osq⟩, hw''⟩ := hw'
  have hb1 := below_regrown (w.alloc (.cells k.cells 24)) dq osq
  have hw1 : Below w.heap.size w _ := ((Below.refl w.heap.size w).alloc (Nat.le_refl _) (.cells k.cells 24)).trans (hb1.mono (by simp))
  have hK := hn.below hb1 hn.lt
  subst hw''
  clear k0 k1 k2 k3
  generalize hgw : Go.Sort.grow (redrawn (w.alloc (.cells k.cells 24)) dq) osq = w1 at *
  clear hgw
  obtain ⟨c0, c1, c2, c3, e0, e1, e2, e3⟩ := hK.all
  go_wp2_with fail
  refine (many_any k _).mono ?_
  rintro e w2 ⟨rfl, hb2⟩
  have hK2 := hK.below hb2 hK.lt
  obtain ⟨d0, d1, d2, d3, f0, f1, f2, f3⟩ := hK2.all
  go_wp2_with fail
  refine (runs256_any k _).mono ?_
  rintro e w3 ⟨rfl, hb3⟩
  go_wp2
  go_ret
  have h2 := hw1.trans (hb2.mono hw1.size)
  refine ⟨ret_str ?_, h2.trans (hb3.mono h2.size)⟩
  rw [HT.out]
set_option maxHeartbeats 1000000 in
theorem text_more (k : C4) (w : World) (hd : k.eqb (C4.ofL [10]).not = false) (hm : (k.many 4 == 1) = false) :
    Calls Try.prog 6 #[k.v] w fun e w' => e = .returned (.string ⟨(textL k).toArray⟩) ∧ Below w.heap.size w w' := by
  have HT : Hid _ := textL_more k hd hm
  have he := eq4
  have hten : (⟨#[10]⟩ : ByteArray).size ≤ maxLen := by unfold maxLen; decide
  have hrl := runs256_len k
  have hrs : (⟨(runs256 k).toArray⟩ : ByteArray).size ≤ 2304 := by rw [size_str]; exact hrl
  go_enter Try.func6, Try.ntmps6
  go_wp2_with fail
  have hn := Hb.new w k _ rfl
  have k0 := cell_regrown hn.c0
  have k1 := cell_regrown hn.c1
  have k2 := cell_regrown hn.c2
  have k3 := cell_regrown hn.c3
  refine wp_region_quiet_below (by kernel_rfl) (by kernel_rfl) ?_
  repeat (quiet_step (first
    | (go_at_call 7; exact Calls.regrown_of (of_any _ _ hten))
    | (go_at_call 10; exact Calls.regrown_of (not_any _ _))))
  refine wpQuiet_nil ?_
  intro _ hw'
  obtain ⟨⟨dq, osq⟩, hw''⟩ := hw'
  have hb1 := below_regrown (w.alloc (.cells k.cells 24)) dq osq
  have hw1 : Below w.heap.size w _ := ((Below.refl w.heap.size w).alloc (Nat.le_refl _) (.cells k.cells 24)).trans (hb1.mono (by simp))
  have hK := hn.below hb1 hn.lt
  subst hw''
  clear k0 k1 k2 k3
  generalize hgw : Go.Sort.grow (redrawn (w.alloc (.cells k.cells 24)) dq) osq = w1 at *
  clear hgw
  obtain ⟨c0, c1, c2, c3, e0, e1, e2, e3⟩ := hK.all
  go_wp2_with fail
  refine (many_any k _).mono ?_
  rintro e w2 ⟨rfl, hb2⟩
  have hK2 := hK.below hb2 hK.lt
  obtain ⟨d0, d1, d2, d3, f0, f1, f2, f3⟩ := hK2.all
  go_wp2_with fail
  refine (runs256_any k _).mono ?_
  rintro e w3 ⟨rfl, hb3⟩
  go_wp2
  go_ret
  have h2 := hw1.trans (hb2.mono hw1.size)
  refine ⟨ret_str ?_, h2.trans (hb3.mono h2.size)⟩
  have q1 : ({ data := #[91] } : ByteArray) = ⟨([91] : List UInt8).toArray⟩ := rfl
  have q2 : ({ data := #[93] } : ByteArray) = ⟨([93] : List UInt8).toArray⟩ := rfl
  rw [HT.out, q1, q2, cat_str, cat_str]
  simp
theorem text_any (k : C4) (w : World) :
    Calls Try.prog 6 #[k.v] w fun e w' => e = .returned (.string ⟨(textL k).toArray⟩) ∧ Below w.heap.size w w' := by
  cases hd : k.eqb dotC
  · cases hm : (k.many 4 == 1)
    · exact text_more k w hd hm
    · exact text_one k w hd hm
  · exact text_dot k w hd
end Go.Proofs.Ytmdfdlljeggbbaa
