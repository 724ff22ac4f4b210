/- The law MeanLaws: from what packages mean and rex answer. -/
import Derived.Test.YtajkkmnojfghoaaDoorY04
import Derived.Test.YtajkkmnojfghoaaDoorY05
import Derived.Lib.QuietBelow
import Derived.BigRegion
namespace Go.Proofs.YtajkkmnojfghoaaDoor
set_option linter.unusedSimpArgs false
set_option linter.unusedVariables false
set_option maxRecDepth 100000
open Go.RowKit
def ownL (ka : C4) : Rx := .one (nd 5) (.leaf ⟨1, ka⟩)
theorem ownL_ok (ka : C4) : (ownL ka).Ok := ⟨rfl, rfl⟩
theorem ownL_fault (ka : C4) : faultL (ownL ka).flat = 0 := by
  refine fault_of _ (ownL_ok ka) (by simp [ownL, Rx.flat]) ?_
  intro n hn
  simp [ownL, Rx.flat] at hn
  rcases hn with rfl | rfl
  · exact ⟨by decide, Or.inr rfl⟩
  · exact ⟨⟨Int.le_refl 1, show (1 : Int) ≤ 9 by decide⟩, Or.inl rfl⟩
theorem ownL_step (ka : C4) (ha : ka.has 97 = true) (hb : ka.has 98 = false) (i j : Nat) : Fit [97, 97, 98] (.leaf ⟨1, ka⟩) i j ↔ i ≤ 1 ∧ j = i + 1 := by
  rw [Fit, if_pos (show (⟨1, ka⟩ : Nd).op = 1 from rfl)]
  constructor
  · rintro ⟨c, h1, h2, h3⟩
    refine ⟨?_, h3⟩
    match i, h1 with
    | 0, _ => omega
    | 1, _ => omega
    | 2, h => simp at h; subst h; rw [show (98 : UInt8).toNat = 98 from rfl, hb] at h2; cases h2
    | i + 3, h => simp at h
  · rintro ⟨h1, h2⟩
    match i, h1 with
    | 0, _ => exact ⟨97, rfl, ha, h2⟩
    | 1, _ => exact ⟨97, rfl, ha, h2⟩
theorem ownL_ends (ka : C4) (ha : ka.has 97 = true) (hb : ka.has 98 = false) : EndsR [97, 97, 98] (ownL ka) 0 [0, 1, 2] := by
  refine ⟨by decide, fun j => ?_⟩
  have hF : Fit [97, 97, 98] (ownL ka) 0 j ↔ Str 3 (Fit [97, 97, 98] (.leaf ⟨1, ka⟩)) 0 j := fit_star _ _ _ _
  rw [hF]
  have st := ownL_step ka ha hb
  have up : ∀ {x y : Nat}, Str 3 (Fit [97, 97, 98] (.leaf ⟨1, ka⟩)) x y → x ≤ 2 → y ≤ 2 := by
    intro x y h
    induction h with
    | nil => intro h; exact h
    | cons x m y hx _ ih =>
      intro _
      have := (st x m).1 hx
      exact ih (by omega)
  constructor
  · intro h
    have h01 : Str 3 (Fit [97, 97, 98] (.leaf ⟨1, ka⟩)) 2 2 := .nil 2 (by omega)
    have h12 : Str 3 (Fit [97, 97, 98] (.leaf ⟨1, ka⟩)) 1 1 := .nil 1 (by omega)
    have s0 := (st 0 1).2 ⟨by omega, rfl⟩
    have s1 := (st 1 2).2 ⟨by omega, rfl⟩
    simp at h
    rcases h with rfl | rfl | rfl
    · exact .nil 0 (by omega)
    · exact .cons 0 1 1 s0 h12
    · exact .cons 0 1 2 s0 (.cons 1 2 2 s1 h01)
  · intro h
    have := up h (by omega)
    simp
    omega
theorem okL_wf {x : Int} (h : okW x) : (Lit.int .u64 x).wf = true := by
  have e1 : IntKind.u64.min = 0 := by decide
  have e2 : IntKind.u64.max = 18446744073709551615 := by decide
  unfold okW at h
  show (decide (IntKind.u64.min ≤ x) && decide (x ≤ IntKind.u64.max)) = true
  rw [e1, e2]
  simp
  omega
theorem ownL_wf (ka : C4) (ha : ka.ok) : ∀ n ∈ (ownL ka).flat, n.wf := by
  intro n hn
  simp [ownL, Rx.flat] at hn
  rcases hn with rfl | rfl
  · exact ⟨rfl, rfl, rfl, rfl, rfl⟩
  · exact ⟨rfl, okL_wf ha.1, okL_wf ha.2.1, okL_wf ha.2.2.1, okL_wf ha.2.2.2⟩
theorem ownL_call (P : MeanN) (ka : C4) (hka : ka.ok ∧ ka.has 97 = true ∧ ka.has 98 = false) (w : World) (hT : Tab w) : Calls Tryd.prog 37 #[.slice (some ⟨w.heap.size, 0, none⟩) 2 2, .string ⟨#[97, 97, 98]⟩, .int .i64 0] (w.alloc (.cells (nsCells (ownL ka).flat).toArray 56 (0, 0))) fun e w' => ∃ u, e = .returned (.tuple #[u, .nilIface]) ∧ Below w.heap.size w w' ∧ IsIn w' u [0, 1, 2] := by
  have h := P.ends (ownL ka) _ ⟨#[97, 97, 98]⟩ 0 [0, 1, 2] _ (hT.below (below_1 w _) (Nat.le_refl _)) (ownL_ok ka) (ns_newM w (ownL ka).flat (by simp [ownL, Rx.flat, maxLen])) (ownL_wf ka hka.1) ((meanE_zero _ _ _).2 ⟨ownL_fault ka, by decide, by decide, by decide⟩) (ownL_ends ka hka.2.1 hka.2.2)
  refine h.mono ?_
  rintro e w' ⟨u, rfl, hb, hu⟩
  exact ⟨u, rfl, (below_1 w _).trans (hb.mono (by simp)), hu⟩
set_option maxHeartbeats 16000000 in
theorem meanLaws_a (P : MeanN) (ka : C4) (OA : ∀ w, Calls Tryd.prog 13 #[.string ⟨#[97]⟩] w fun e w' => e = .returned ka.v ∧ Below w.heap.size w w') (hka : ka.ok ∧ ka.has 97 = true ∧ ka.has 98 = false)
    (na nb nc : List Nd) (i : Int) (va vb vc : Value) (s : ByteArray) (hs : s.size ≤ maxLen) (w : World) (hT : Tab w) (hA : NsIn w va na) (hB : NsIn w vb nb) (hC : NsIn w vc nc) (hfa : ¬ faultL na = 0) :
    Calls Tryd.prog 7 #[va, vb, vc, .string s, .int .i64 i] w fun e w' => e = .returned (.bool true) ∧ Below w.heap.size w w' := by
  have HA := hid OA
  have HL : Hid (∀ w', Below w.heap.size w w' → _) := fun w' hb => ownL_call P ka hka w' (hT.below hb (Nat.le_refl _))
  have B0 := hid (Below.refl w.heap.size w)
  have HNA := hid hA
  have HNB := hid hB
  have HNC := hid hC
  obtain ⟨aa, ca, rfl, ma⟩ := nsIn_form hA
  obtain ⟨ab, cb, rfl, mb⟩ := nsIn_form hB
  obtain ⟨ac, cc, rfl, mc⟩ := nsIn_form hC
  clear hA hB hC OA hka
  have Ca : Hid (∀ w', Below w.heap.size w w' → Calls Tryd.prog 26 #[.slice aa na.length ca] w' fun e w'' => e = .returned (.iface 25 (.int .i64 (faultL na))) ∧ Below w'.heap.size w' w'') := fun w' hb => by
    have := rcheck_any na _ w' (HNA.out.below hb)
    rw [show errV (faultL na) = .iface 25 (.int .i64 (faultL na)) by unfold errV; rw [if_neg hfa]] at this
    exact this
  clear hfa P
  generalize faultL na = fa at *
  go_enter Tryd.func7, Tryd.ntmps7
  go_wp2_with fail
  refine Calls.mono (HA.out _) ?_
  rintro e w1 ⟨rfl, hb⟩
  have B1 := hid (B0.out.trans (hb.mono B0.out.size))
  clear hb
  go_wp2_with fail
  refine Calls.mono (HL.out _ (Hid.out (by assumption))) ?_
  rintro e w2 ⟨u, rfl, hb, hu⟩
  have B2 := hid (B1.out.trans (hb.mono B1.out.size))
  have U2 := hid hu
  obtain ⟨ua, uc, rfl, um⟩ := isIn_form hu
  clear hb hu
  have CI := hid (ints_any [0, 1, 2] [0, 1, 2] _ _ _ (U2.out.below (below_1 w2 _)) (is_new w2 [0, 1, 2] _ rfl (by decide)))
  rw [beq_self_eq_true] at CI
  go_wp2_with fail
  refine Calls.mono CI.out ?_
  rintro e w3 ⟨rfl, hb⟩
  have B3 := hid (B2.out.trans ((below_1 w2 _).trans (hb.mono (by simp)) |>.mono B2.out.size))
  clear hb CI U2
  go_wp2_with fail
  refine Calls.mono (Ca.out _ B3.out) ?_
  rintro e w4 ⟨rfl, hb⟩
  have B4 := hid (B3.out.trans (hb.mono B3.out.size))
  clear hb
  go_wp2_with fail
  go_ret
  exact ⟨rfl, B4.out⟩
set_option maxHeartbeats 16000000 in
theorem meanLaws_b (P : MeanN) (ka : C4) (OA : ∀ w, Calls Tryd.prog 13 #[.string ⟨#[97]⟩] w fun e w' => e = .returned ka.v ∧ Below w.heap.size w w') (hka : ka.ok ∧ ka.has 97 = true ∧ ka.has 98 = false)
    (na nb nc : List Nd) (i : Int) (va vb vc : Value) (s : ByteArray) (hs : s.size ≤ maxLen) (w : World) (hT : Tab w) (hA : NsIn w va na) (hB : NsIn w vb nb) (hC : NsIn w vc nc) (hfa : faultL na = 0) (hfb : ¬ faultL nb = 0) :
    Calls Tryd.prog 7 #[va, vb, vc, .string s, .int .i64 i] w fun e w' => e = .returned (.bool true) ∧ Below w.heap.size w w' := by
  have HA := hid OA
  have HL : Hid (∀ w', Below w.heap.size w w' → _) := fun w' hb => ownL_call P ka hka w' (hT.below hb (Nat.le_refl _))
  have B0 := hid (Below.refl w.heap.size w)
  have HNA := hid hA
  have HNB := hid hB
  have HNC := hid hC
  obtain ⟨aa, ca, rfl, ma⟩ := nsIn_form hA
  obtain ⟨ab, cb, rfl, mb⟩ := nsIn_form hB
  obtain ⟨ac, cc, rfl, mc⟩ := nsIn_form hC
  clear hA hB hC OA hka
  have Ca : Hid (∀ w', Below w.heap.size w w' → Calls Tryd.prog 26 #[.slice aa na.length ca] w' fun e w'' => e = .returned (.nilIface) ∧ Below w'.heap.size w' w'') := fun w' hb => by
    have := rcheck_any na _ w' (HNA.out.below hb)
    rw [show errV (faultL na) = .nilIface by unfold errV; rw [if_pos hfa]] at this
    exact this
  have Cb : Hid (∀ w', Below w.heap.size w w' → Calls Tryd.prog 26 #[.slice ab nb.length cb] w' fun e w'' => e = .returned (.iface 25 (.int .i64 (faultL nb))) ∧ Below w'.heap.size w' w'') := fun w' hb => by
    have := rcheck_any nb _ w' (HNB.out.below hb)
    rw [show errV (faultL nb) = .iface 25 (.int .i64 (faultL nb)) by unfold errV; rw [if_neg hfb]] at this
    exact this
  clear hfa hfb P
  generalize faultL nb = fb at *
  go_enter Tryd.func7, Tryd.ntmps7
  go_wp2_with fail
  refine Calls.mono (HA.out _) ?_
  rintro e w1 ⟨rfl, hb⟩
  have B1 := hid (B0.out.trans (hb.mono B0.out.size))
  clear hb
  go_wp2_with fail
  refine Calls.mono (HL.out _ (Hid.out (by assumption))) ?_
  rintro e w2 ⟨u, rfl, hb, hu⟩
  have B2 := hid (B1.out.trans (hb.mono B1.out.size))
  have U2 := hid hu
  obtain ⟨ua, uc, rfl, um⟩ := isIn_form hu
  clear hb hu
  have CI := hid (ints_any [0, 1, 2] [0, 1, 2] _ _ _ (U2.out.below (below_1 w2 _)) (is_new w2 [0, 1, 2] _ rfl (by decide)))
  rw [beq_self_eq_true] at CI
  go_wp2_with fail
  refine Calls.mono CI.out ?_
  rintro e w3 ⟨rfl, hb⟩
  have B3 := hid (B2.out.trans ((below_1 w2 _).trans (hb.mono (by simp)) |>.mono B2.out.size))
  clear hb CI U2
  go_wp2_with fail
  refine Calls.mono (Ca.out _ B3.out) ?_
  rintro e w4 ⟨rfl, hb⟩
  have B4 := hid (B3.out.trans (hb.mono B3.out.size))
  clear hb
  go_wp2_with fail
  refine Calls.mono (Cb.out _ B4.out) ?_
  rintro e w5 ⟨rfl, hb⟩
  have B5 := hid (B4.out.trans (hb.mono B4.out.size))
  clear hb
  go_wp2_with fail
  go_ret
  exact ⟨rfl, B5.out⟩
set_option maxHeartbeats 16000000 in
theorem meanLaws_c (P : MeanN) (ka : C4) (OA : ∀ w, Calls Tryd.prog 13 #[.string ⟨#[97]⟩] w fun e w' => e = .returned ka.v ∧ Below w.heap.size w w') (hka : ka.ok ∧ ka.has 97 = true ∧ ka.has 98 = false)
    (na nb nc : List Nd) (i : Int) (va vb vc : Value) (s : ByteArray) (hs : s.size ≤ maxLen) (w : World) (hT : Tab w) (hA : NsIn w va na) (hB : NsIn w vb nb) (hC : NsIn w vc nc) (hfa : faultL na = 0) (hfb : faultL nb = 0) (hfc : ¬ faultL nc = 0) :
    Calls Tryd.prog 7 #[va, vb, vc, .string s, .int .i64 i] w fun e w' => e = .returned (.bool true) ∧ Below w.heap.size w w' := by
  have HA := hid OA
  have HL : Hid (∀ w', Below w.heap.size w w' → _) := fun w' hb => ownL_call P ka hka w' (hT.below hb (Nat.le_refl _))
  have B0 := hid (Below.refl w.heap.size w)
  have HNA := hid hA
  have HNB := hid hB
  have HNC := hid hC
  obtain ⟨aa, ca, rfl, ma⟩ := nsIn_form hA
  obtain ⟨ab, cb, rfl, mb⟩ := nsIn_form hB
  obtain ⟨ac, cc, rfl, mc⟩ := nsIn_form hC
  clear hA hB hC OA hka
  have Ca : Hid (∀ w', Below w.heap.size w w' → Calls Tryd.prog 26 #[.slice aa na.length ca] w' fun e w'' => e = .returned (.nilIface) ∧ Below w'.heap.size w' w'') := fun w' hb => by
    have := rcheck_any na _ w' (HNA.out.below hb)
    rw [show errV (faultL na) = .nilIface by unfold errV; rw [if_pos hfa]] at this
    exact this
  have Cb : Hid (∀ w', Below w.heap.size w w' → Calls Tryd.prog 26 #[.slice ab nb.length cb] w' fun e w'' => e = .returned (.nilIface) ∧ Below w'.heap.size w' w'') := fun w' hb => by
    have := rcheck_any nb _ w' (HNB.out.below hb)
    rw [show errV (faultL nb) = .nilIface by unfold errV; rw [if_pos hfb]] at this
    exact this
  have Cc : Hid (∀ w', Below w.heap.size w w' → Calls Tryd.prog 26 #[.slice ac nc.length cc] w' fun e w'' => e = .returned (.iface 25 (.int .i64 (faultL nc))) ∧ Below w'.heap.size w' w'') := fun w' hb => by
    have := rcheck_any nc _ w' (HNC.out.below hb)
    rw [show errV (faultL nc) = .iface 25 (.int .i64 (faultL nc)) by unfold errV; rw [if_neg hfc]] at this
    exact this
  clear hfa hfb hfc P
  generalize faultL nc = fc at *
  go_enter Tryd.func7, Tryd.ntmps7
  go_wp2_with fail
  refine Calls.mono (HA.out _) ?_
  rintro e w1 ⟨rfl, hb⟩
  have B1 := hid (B0.out.trans (hb.mono B0.out.size))
  clear hb
  go_wp2_with fail
  refine Calls.mono (HL.out _ (Hid.out (by assumption))) ?_
  rintro e w2 ⟨u, rfl, hb, hu⟩
  have B2 := hid (B1.out.trans (hb.mono B1.out.size))
  have U2 := hid hu
  obtain ⟨ua, uc, rfl, um⟩ := isIn_form hu
  clear hb hu
  have CI := hid (ints_any [0, 1, 2] [0, 1, 2] _ _ _ (U2.out.below (below_1 w2 _)) (is_new w2 [0, 1, 2] _ rfl (by decide)))
  rw [beq_self_eq_true] at CI
  go_wp2_with fail
  refine Calls.mono CI.out ?_
  rintro e w3 ⟨rfl, hb⟩
  have B3 := hid (B2.out.trans ((below_1 w2 _).trans (hb.mono (by simp)) |>.mono B2.out.size))
  clear hb CI U2
  go_wp2_with fail
  refine Calls.mono (Ca.out _ B3.out) ?_
  rintro e w4 ⟨rfl, hb⟩
  have B4 := hid (B3.out.trans (hb.mono B3.out.size))
  clear hb
  go_wp2_with fail
  refine Calls.mono (Cb.out _ B4.out) ?_
  rintro e w5 ⟨rfl, hb⟩
  have B5 := hid (B4.out.trans (hb.mono B4.out.size))
  clear hb
  go_wp2_with fail
  refine Calls.mono (Cc.out _ B5.out) ?_
  rintro e w6 ⟨rfl, hb⟩
  have B6 := hid (B5.out.trans (hb.mono B5.out.size))
  clear hb
  go_wp2_with fail
  go_ret
  exact ⟨rfl, B6.out⟩
set_option maxHeartbeats 16000000 in
theorem meanLaws_many (P : MeanN) (ka : C4) (OA : ∀ w, Calls Tryd.prog 13 #[.string ⟨#[97]⟩] w fun e w' => e = .returned ka.v ∧ Below w.heap.size w w') (hka : ka.ok ∧ ka.has 97 = true ∧ ka.has 98 = false)
    (na nb nc : List Nd) (i : Int) (va vb vc : Value) (s : ByteArray) (hs : s.size ≤ maxLen) (w : World) (hT : Tab w) (hA : NsIn w va na) (hB : NsIn w vb nb) (hC : NsIn w vc nc) (hfa : faultL na = 0) (hfb : faultL nb = 0) (hfc : faultL nc = 0) (hm : 60 < 2 * na.length + nb.length + nc.length + 4) :
    Calls Tryd.prog 7 #[va, vb, vc, .string s, .int .i64 i] w fun e w' => e = .returned (.bool true) ∧ Below w.heap.size w w' := by
  have la := ((faultL_zero na).1 hfa).1
  have lb := ((faultL_zero nb).1 hfb).1
  have lc := ((faultL_zero nc).1 hfc).1
  have HA := hid OA
  have HL : Hid (∀ w', Below w.heap.size w w' → _) := fun w' hb => ownL_call P ka hka w' (hT.below hb (Nat.le_refl _))
  have B0 := hid (Below.refl w.heap.size w)
  have HNA := hid hA
  have HNB := hid hB
  have HNC := hid hC
  obtain ⟨aa, ca, rfl, ma⟩ := nsIn_form hA
  obtain ⟨ab, cb, rfl, mb⟩ := nsIn_form hB
  obtain ⟨ac, cc, rfl, mc⟩ := nsIn_form hC
  clear hA hB hC OA hka
  have Ca : Hid (∀ w', Below w.heap.size w w' → Calls Tryd.prog 26 #[.slice aa na.length ca] w' fun e w'' => e = .returned (.nilIface) ∧ Below w'.heap.size w' w'') := fun w' hb => by
    have := rcheck_any na _ w' (HNA.out.below hb)
    rw [show errV (faultL na) = .nilIface by unfold errV; rw [if_pos hfa]] at this
    exact this
  have Cb : Hid (∀ w', Below w.heap.size w w' → Calls Tryd.prog 26 #[.slice ab nb.length cb] w' fun e w'' => e = .returned (.nilIface) ∧ Below w'.heap.size w' w'') := fun w' hb => by
    have := rcheck_any nb _ w' (HNB.out.below hb)
    rw [show errV (faultL nb) = .nilIface by unfold errV; rw [if_pos hfb]] at this
    exact this
  have Cc : Hid (∀ w', Below w.heap.size w w' → Calls Tryd.prog 26 #[.slice ac nc.length cc] w' fun e w'' => e = .returned (.nilIface) ∧ Below w'.heap.size w' w'') := fun w' hb => by
    have := rcheck_any nc _ w' (HNC.out.below hb)
    rw [show errV (faultL nc) = .nilIface by unfold errV; rw [if_pos hfc]] at this
    exact this
  have z1 : IntKind.i64.wrap (2 * (na.length : Int)) = 2 * (na.length : Int) := by rw [IntKind.wrap_i64]; omega
  have z2 : IntKind.i64.wrap (2 * (na.length : Int) + (nb.length : Int)) = 2 * (na.length : Int) + (nb.length : Int) := by rw [IntKind.wrap_i64]; omega
  have z3 : IntKind.i64.wrap (2 * (na.length : Int) + (nb.length : Int) + (nc.length : Int)) = 2 * (na.length : Int) + (nb.length : Int) + (nc.length : Int) := by rw [IntKind.wrap_i64]; omega
  have z4' : IntKind.i64.wrap (2 * (na.length : Int) + (nb.length : Int) + (nc.length : Int) + 4) = 2 * (na.length : Int) + (nb.length : Int) + (nc.length : Int) + 4 := by rw [IntKind.wrap_i64]; omega
  have zm : (60 : Int) < 2 * (na.length : Int) + (nb.length : Int) + (nc.length : Int) + 4 := by omega
  clear hfa hfb hfc P hm
  go_enter Tryd.func7, Tryd.ntmps7
  go_wp2_with fail
  refine Calls.mono (HA.out _) ?_
  rintro e w1 ⟨rfl, hb⟩
  have B1 := hid (B0.out.trans (hb.mono B0.out.size))
  clear hb
  go_wp2_with fail
  refine Calls.mono (HL.out _ (Hid.out (by assumption))) ?_
  rintro e w2 ⟨u, rfl, hb, hu⟩
  have B2 := hid (B1.out.trans (hb.mono B1.out.size))
  have U2 := hid hu
  obtain ⟨ua, uc, rfl, um⟩ := isIn_form hu
  clear hb hu
  have CI := hid (ints_any [0, 1, 2] [0, 1, 2] _ _ _ (U2.out.below (below_1 w2 _)) (is_new w2 [0, 1, 2] _ rfl (by decide)))
  rw [beq_self_eq_true] at CI
  go_wp2_with fail
  refine Calls.mono CI.out ?_
  rintro e w3 ⟨rfl, hb⟩
  have B3 := hid (B2.out.trans ((below_1 w2 _).trans (hb.mono (by simp)) |>.mono B2.out.size))
  clear hb CI U2
  go_wp2_with fail
  refine Calls.mono (Ca.out _ B3.out) ?_
  rintro e w4 ⟨rfl, hb⟩
  have B4 := hid (B3.out.trans (hb.mono B3.out.size))
  clear hb
  go_wp2_with fail
  refine Calls.mono (Cb.out _ B4.out) ?_
  rintro e w5 ⟨rfl, hb⟩
  have B5 := hid (B4.out.trans (hb.mono B4.out.size))
  clear hb
  go_wp2_with fail
  refine Calls.mono (Cc.out _ B5.out) ?_
  rintro e w6 ⟨rfl, hb⟩
  have B6 := hid (B5.out.trans (hb.mono B5.out.size))
  clear hb
  go_wp2_with fail
  go_ret
  exact ⟨rfl, B6.out⟩
set_option maxHeartbeats 16000000 in
theorem meanLaws_long (P : MeanN) (ka : C4) (OA : ∀ w, Calls Tryd.prog 13 #[.string ⟨#[97]⟩] w fun e w' => e = .returned ka.v ∧ Below w.heap.size w w') (hka : ka.ok ∧ ka.has 97 = true ∧ ka.has 98 = false)
    (na nb nc : List Nd) (i : Int) (va vb vc : Value) (s : ByteArray) (hs : s.size ≤ maxLen) (w : World) (hT : Tab w) (hA : NsIn w va na) (hB : NsIn w vb nb) (hC : NsIn w vc nc) (hfa : faultL na = 0) (hfb : faultL nb = 0) (hfc : faultL nc = 0) (hm : ¬ 60 < 2 * na.length + nb.length + nc.length + 4) (h4 : 400 < s.size) :
    Calls Tryd.prog 7 #[va, vb, vc, .string s, .int .i64 i] w fun e w' => e = .returned (.bool true) ∧ Below w.heap.size w w' := by
  have la := ((faultL_zero na).1 hfa).1
  have lb := ((faultL_zero nb).1 hfb).1
  have lc := ((faultL_zero nc).1 hfc).1
  have HA := hid OA
  have HL : Hid (∀ w', Below w.heap.size w w' → _) := fun w' hb => ownL_call P ka hka w' (hT.below hb (Nat.le_refl _))
  have B0 := hid (Below.refl w.heap.size w)
  have HNA := hid hA
  have HNB := hid hB
  have HNC := hid hC
  obtain ⟨aa, ca, rfl, ma⟩ := nsIn_form hA
  obtain ⟨ab, cb, rfl, mb⟩ := nsIn_form hB
  obtain ⟨ac, cc, rfl, mc⟩ := nsIn_form hC
  clear hA hB hC OA hka
  have Ca : Hid (∀ w', Below w.heap.size w w' → Calls Tryd.prog 26 #[.slice aa na.length ca] w' fun e w'' => e = .returned (.nilIface) ∧ Below w'.heap.size w' w'') := fun w' hb => by
    have := rcheck_any na _ w' (HNA.out.below hb)
    rw [show errV (faultL na) = .nilIface by unfold errV; rw [if_pos hfa]] at this
    exact this
  have Cb : Hid (∀ w', Below w.heap.size w w' → Calls Tryd.prog 26 #[.slice ab nb.length cb] w' fun e w'' => e = .returned (.nilIface) ∧ Below w'.heap.size w' w'') := fun w' hb => by
    have := rcheck_any nb _ w' (HNB.out.below hb)
    rw [show errV (faultL nb) = .nilIface by unfold errV; rw [if_pos hfb]] at this
    exact this
  have Cc : Hid (∀ w', Below w.heap.size w w' → Calls Tryd.prog 26 #[.slice ac nc.length cc] w' fun e w'' => e = .returned (.nilIface) ∧ Below w'.heap.size w' w'') := fun w' hb => by
    have := rcheck_any nc _ w' (HNC.out.below hb)
    rw [show errV (faultL nc) = .nilIface by unfold errV; rw [if_pos hfc]] at this
    exact this
  have z1 : IntKind.i64.wrap (2 * (na.length : Int)) = 2 * (na.length : Int) := by rw [IntKind.wrap_i64]; omega
  have z2 : IntKind.i64.wrap (2 * (na.length : Int) + (nb.length : Int)) = 2 * (na.length : Int) + (nb.length : Int) := by rw [IntKind.wrap_i64]; omega
  have z3 : IntKind.i64.wrap (2 * (na.length : Int) + (nb.length : Int) + (nc.length : Int)) = 2 * (na.length : Int) + (nb.length : Int) + (nc.length : Int) := by rw [IntKind.wrap_i64]; omega
  have z4' : IntKind.i64.wrap (2 * (na.length : Int) + (nb.length : Int) + (nc.length : Int) + 4) = 2 * (na.length : Int) + (nb.length : Int) + (nc.length : Int) + 4 := by rw [IntKind.wrap_i64]; omega
  have zm : ¬ (60 : Int) < 2 * (na.length : Int) + (nb.length : Int) + (nc.length : Int) + 4 := by omega
  unfold maxLen at hs
  have g4 : (400 : Int) < (s.size : Int) := by omega
  clear hfa hfb hfc P hm
  go_enter Tryd.func7, Tryd.ntmps7
  go_wp2_with fail
  refine Calls.mono (HA.out _) ?_
  rintro e w1 ⟨rfl, hb⟩
  have B1 := hid (B0.out.trans (hb.mono B0.out.size))
  clear hb
  go_wp2_with fail
  refine Calls.mono (HL.out _ (Hid.out (by assumption))) ?_
  rintro e w2 ⟨u, rfl, hb, hu⟩
  have B2 := hid (B1.out.trans (hb.mono B1.out.size))
  have U2 := hid hu
  obtain ⟨ua, uc, rfl, um⟩ := isIn_form hu
  clear hb hu
  have CI := hid (ints_any [0, 1, 2] [0, 1, 2] _ _ _ (U2.out.below (below_1 w2 _)) (is_new w2 [0, 1, 2] _ rfl (by decide)))
  rw [beq_self_eq_true] at CI
  go_wp2_with fail
  refine Calls.mono CI.out ?_
  rintro e w3 ⟨rfl, hb⟩
  have B3 := hid (B2.out.trans ((below_1 w2 _).trans (hb.mono (by simp)) |>.mono B2.out.size))
  clear hb CI U2
  go_wp2_with fail
  refine Calls.mono (Ca.out _ B3.out) ?_
  rintro e w4 ⟨rfl, hb⟩
  have B4 := hid (B3.out.trans (hb.mono B3.out.size))
  clear hb
  go_wp2_with fail
  refine Calls.mono (Cb.out _ B4.out) ?_
  rintro e w5 ⟨rfl, hb⟩
  have B5 := hid (B4.out.trans (hb.mono B4.out.size))
  clear hb
  go_wp2_with fail
  refine Calls.mono (Cc.out _ B5.out) ?_
  rintro e w6 ⟨rfl, hb⟩
  have B6 := hid (B5.out.trans (hb.mono B5.out.size))
  clear hb
  go_wp2_with fail
  go_ret
  exact ⟨rfl, B6.out⟩
set_option maxHeartbeats 16000000 in
theorem meanLaws_neg (P : MeanN) (ka : C4) (OA : ∀ w, Calls Tryd.prog 13 #[.string ⟨#[97]⟩] w fun e w' => e = .returned ka.v ∧ Below w.heap.size w w') (hka : ka.ok ∧ ka.has 97 = true ∧ ka.has 98 = false)
    (na nb nc : List Nd) (i : Int) (va vb vc : Value) (s : ByteArray) (hs : s.size ≤ maxLen) (w : World) (hT : Tab w) (hA : NsIn w va na) (hB : NsIn w vb nb) (hC : NsIn w vc nc) (hfa : faultL na = 0) (hfb : faultL nb = 0) (hfc : faultL nc = 0) (hm : ¬ 60 < 2 * na.length + nb.length + nc.length + 4) (h4 : s.size ≤ 400) (hi : i < 0) :
    Calls Tryd.prog 7 #[va, vb, vc, .string s, .int .i64 i] w fun e w' => e = .returned (.bool true) ∧ Below w.heap.size w w' := by
  have la := ((faultL_zero na).1 hfa).1
  have lb := ((faultL_zero nb).1 hfb).1
  have lc := ((faultL_zero nc).1 hfc).1
  have HA := hid OA
  have HL : Hid (∀ w', Below w.heap.size w w' → _) := fun w' hb => ownL_call P ka hka w' (hT.below hb (Nat.le_refl _))
  have B0 := hid (Below.refl w.heap.size w)
  have HNA := hid hA
  have HNB := hid hB
  have HNC := hid hC
  obtain ⟨aa, ca, rfl, ma⟩ := nsIn_form hA
  obtain ⟨ab, cb, rfl, mb⟩ := nsIn_form hB
  obtain ⟨ac, cc, rfl, mc⟩ := nsIn_form hC
  clear hA hB hC OA hka
  have Ca : Hid (∀ w', Below w.heap.size w w' → Calls Tryd.prog 26 #[.slice aa na.length ca] w' fun e w'' => e = .returned (.nilIface) ∧ Below w'.heap.size w' w'') := fun w' hb => by
    have := rcheck_any na _ w' (HNA.out.below hb)
    rw [show errV (faultL na) = .nilIface by unfold errV; rw [if_pos hfa]] at this
    exact this
  have Cb : Hid (∀ w', Below w.heap.size w w' → Calls Tryd.prog 26 #[.slice ab nb.length cb] w' fun e w'' => e = .returned (.nilIface) ∧ Below w'.heap.size w' w'') := fun w' hb => by
    have := rcheck_any nb _ w' (HNB.out.below hb)
    rw [show errV (faultL nb) = .nilIface by unfold errV; rw [if_pos hfb]] at this
    exact this
  have Cc : Hid (∀ w', Below w.heap.size w w' → Calls Tryd.prog 26 #[.slice ac nc.length cc] w' fun e w'' => e = .returned (.nilIface) ∧ Below w'.heap.size w' w'') := fun w' hb => by
    have := rcheck_any nc _ w' (HNC.out.below hb)
    rw [show errV (faultL nc) = .nilIface by unfold errV; rw [if_pos hfc]] at this
    exact this
  have z1 : IntKind.i64.wrap (2 * (na.length : Int)) = 2 * (na.length : Int) := by rw [IntKind.wrap_i64]; omega
  have z2 : IntKind.i64.wrap (2 * (na.length : Int) + (nb.length : Int)) = 2 * (na.length : Int) + (nb.length : Int) := by rw [IntKind.wrap_i64]; omega
  have z3 : IntKind.i64.wrap (2 * (na.length : Int) + (nb.length : Int) + (nc.length : Int)) = 2 * (na.length : Int) + (nb.length : Int) + (nc.length : Int) := by rw [IntKind.wrap_i64]; omega
  have z4' : IntKind.i64.wrap (2 * (na.length : Int) + (nb.length : Int) + (nc.length : Int) + 4) = 2 * (na.length : Int) + (nb.length : Int) + (nc.length : Int) + 4 := by rw [IntKind.wrap_i64]; omega
  have zm : ¬ (60 : Int) < 2 * (na.length : Int) + (nb.length : Int) + (nc.length : Int) + 4 := by omega
  have g4 : ¬ (400 : Int) < (s.size : Int) := by omega
  clear hfa hfb hfc P hm
  go_enter Tryd.func7, Tryd.ntmps7
  go_wp2_with fail
  refine Calls.mono (HA.out _) ?_
  rintro e w1 ⟨rfl, hb⟩
  have B1 := hid (B0.out.trans (hb.mono B0.out.size))
  clear hb
  go_wp2_with fail
  refine Calls.mono (HL.out _ (Hid.out (by assumption))) ?_
  rintro e w2 ⟨u, rfl, hb, hu⟩
  have B2 := hid (B1.out.trans (hb.mono B1.out.size))
  have U2 := hid hu
  obtain ⟨ua, uc, rfl, um⟩ := isIn_form hu
  clear hb hu
  have CI := hid (ints_any [0, 1, 2] [0, 1, 2] _ _ _ (U2.out.below (below_1 w2 _)) (is_new w2 [0, 1, 2] _ rfl (by decide)))
  rw [beq_self_eq_true] at CI
  go_wp2_with fail
  refine Calls.mono CI.out ?_
  rintro e w3 ⟨rfl, hb⟩
  have B3 := hid (B2.out.trans ((below_1 w2 _).trans (hb.mono (by simp)) |>.mono B2.out.size))
  clear hb CI U2
  go_wp2_with fail
  refine Calls.mono (Ca.out _ B3.out) ?_
  rintro e w4 ⟨rfl, hb⟩
  have B4 := hid (B3.out.trans (hb.mono B3.out.size))
  clear hb
  go_wp2_with fail
  refine Calls.mono (Cb.out _ B4.out) ?_
  rintro e w5 ⟨rfl, hb⟩
  have B5 := hid (B4.out.trans (hb.mono B4.out.size))
  clear hb
  go_wp2_with fail
  refine Calls.mono (Cc.out _ B5.out) ?_
  rintro e w6 ⟨rfl, hb⟩
  have B6 := hid (B5.out.trans (hb.mono B5.out.size))
  clear hb
  go_wp2_with fail
  go_ret
  exact ⟨rfl, B6.out⟩
set_option maxHeartbeats 16000000 in
theorem meanLaws_far (P : MeanN) (ka : C4) (OA : ∀ w, Calls Tryd.prog 13 #[.string ⟨#[97]⟩] w fun e w' => e = .returned ka.v ∧ Below w.heap.size w w') (hka : ka.ok ∧ ka.has 97 = true ∧ ka.has 98 = false)
    (na nb nc : List Nd) (i : Int) (va vb vc : Value) (s : ByteArray) (hs : s.size ≤ maxLen) (w : World) (hT : Tab w) (hA : NsIn w va na) (hB : NsIn w vb nb) (hC : NsIn w vc nc) (hfa : faultL na = 0) (hfb : faultL nb = 0) (hfc : faultL nc = 0) (hm : ¬ 60 < 2 * na.length + nb.length + nc.length + 4) (h4 : s.size ≤ 400) (hi : (s.size : Int) < i) :
    Calls Tryd.prog 7 #[va, vb, vc, .string s, .int .i64 i] w fun e w' => e = .returned (.bool true) ∧ Below w.heap.size w w' := by
  have la := ((faultL_zero na).1 hfa).1
  have lb := ((faultL_zero nb).1 hfb).1
  have lc := ((faultL_zero nc).1 hfc).1
  have HA := hid OA
  have HL : Hid (∀ w', Below w.heap.size w w' → _) := fun w' hb => ownL_call P ka hka w' (hT.below hb (Nat.le_refl _))
  have B0 := hid (Below.refl w.heap.size w)
  have HNA := hid hA
  have HNB := hid hB
  have HNC := hid hC
  obtain ⟨aa, ca, rfl, ma⟩ := nsIn_form hA
  obtain ⟨ab, cb, rfl, mb⟩ := nsIn_form hB
  obtain ⟨ac, cc, rfl, mc⟩ := nsIn_form hC
  clear hA hB hC OA hka
  have Ca : Hid (∀ w', Below w.heap.size w w' → Calls Tryd.prog 26 #[.slice aa na.length ca] w' fun e w'' => e = .returned (.nilIface) ∧ Below w'.heap.size w' w'') := fun w' hb => by
    have := rcheck_any na _ w' (HNA.out.below hb)
    rw [show errV (faultL na) = .nilIface by unfold errV; rw [if_pos hfa]] at this
    exact this
  have Cb : Hid (∀ w', Below w.heap.size w w' → Calls Tryd.prog 26 #[.slice ab nb.length cb] w' fun e w'' => e = .returned (.nilIface) ∧ Below w'.heap.size w' w'') := fun w' hb => by
    have := rcheck_any nb _ w' (HNB.out.below hb)
    rw [show errV (faultL nb) = .nilIface by unfold errV; rw [if_pos hfb]] at this
    exact this
  have Cc : Hid (∀ w', Below w.heap.size w w' → Calls Tryd.prog 26 #[.slice ac nc.length cc] w' fun e w'' => e = .returned (.nilIface) ∧ Below w'.heap.size w' w'') := fun w' hb => by
    have := rcheck_any nc _ w' (HNC.out.below hb)
    rw [show errV (faultL nc) = .nilIface by unfold errV; rw [if_pos hfc]] at this
    exact this
  have z1 : IntKind.i64.wrap (2 * (na.length : Int)) = 2 * (na.length : Int) := by rw [IntKind.wrap_i64]; omega
  have z2 : IntKind.i64.wrap (2 * (na.length : Int) + (nb.length : Int)) = 2 * (na.length : Int) + (nb.length : Int) := by rw [IntKind.wrap_i64]; omega
  have z3 : IntKind.i64.wrap (2 * (na.length : Int) + (nb.length : Int) + (nc.length : Int)) = 2 * (na.length : Int) + (nb.length : Int) + (nc.length : Int) := by rw [IntKind.wrap_i64]; omega
  have z4' : IntKind.i64.wrap (2 * (na.length : Int) + (nb.length : Int) + (nc.length : Int) + 4) = 2 * (na.length : Int) + (nb.length : Int) + (nc.length : Int) + 4 := by rw [IntKind.wrap_i64]; omega
  have zm : ¬ (60 : Int) < 2 * (na.length : Int) + (nb.length : Int) + (nc.length : Int) + 4 := by omega
  have g4 : ¬ (400 : Int) < (s.size : Int) := by omega
  have g5 : ¬ i < 0 := by omega
  clear hfa hfb hfc P hm
  go_enter Tryd.func7, Tryd.ntmps7
  go_wp2_with fail
  refine Calls.mono (HA.out _) ?_
  rintro e w1 ⟨rfl, hb⟩
  have B1 := hid (B0.out.trans (hb.mono B0.out.size))
  clear hb
  go_wp2_with fail
  refine Calls.mono (HL.out _ (Hid.out (by assumption))) ?_
  rintro e w2 ⟨u, rfl, hb, hu⟩
  have B2 := hid (B1.out.trans (hb.mono B1.out.size))
  have U2 := hid hu
  obtain ⟨ua, uc, rfl, um⟩ := isIn_form hu
  clear hb hu
  have CI := hid (ints_any [0, 1, 2] [0, 1, 2] _ _ _ (U2.out.below (below_1 w2 _)) (is_new w2 [0, 1, 2] _ rfl (by decide)))
  rw [beq_self_eq_true] at CI
  go_wp2_with fail
  refine Calls.mono CI.out ?_
  rintro e w3 ⟨rfl, hb⟩
  have B3 := hid (B2.out.trans ((below_1 w2 _).trans (hb.mono (by simp)) |>.mono B2.out.size))
  clear hb CI U2
  go_wp2_with fail
  refine Calls.mono (Ca.out _ B3.out) ?_
  rintro e w4 ⟨rfl, hb⟩
  have B4 := hid (B3.out.trans (hb.mono B3.out.size))
  clear hb
  go_wp2_with fail
  refine Calls.mono (Cb.out _ B4.out) ?_
  rintro e w5 ⟨rfl, hb⟩
  have B5 := hid (B4.out.trans (hb.mono B4.out.size))
  clear hb
  go_wp2_with fail
  refine Calls.mono (Cc.out _ B5.out) ?_
  rintro e w6 ⟨rfl, hb⟩
  have B6 := hid (B5.out.trans (hb.mono B5.out.size))
  clear hb
  go_wp2_with fail
  go_ret
  exact ⟨rfl, B6.out⟩
end Go.Proofs.YtajkkmnojfghoaaDoor
