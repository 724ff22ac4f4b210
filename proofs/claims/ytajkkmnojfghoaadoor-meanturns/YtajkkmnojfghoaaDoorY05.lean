/- The law MeanTurns: from what packages mean and rex answer. The place behind a part, by counting the parts that are missing. No function of the program. Package rex: parts, behind, checkNode, turnedNode. Package rex: Check. -/
import Derived.Test.YtajkkmnojfghoaaDoorY04
import Derived.Test.YtajkkmnojfghoaaDoorY03
import Derived.Test.YtajkkmnojfghoaaDoorY02
import Derived.Handy
namespace Go.Proofs.YtajkkmnojfghoaaDoor
set_option linter.unusedSimpArgs false
set_option linter.unusedVariables false
set_option maxRecDepth 100000
open Go.RowKit
def ownT (ka kb : C4) : Rx := .two ⟨3, z4⟩ (.leaf ⟨1, ka⟩) (.leaf ⟨1, kb⟩)
theorem ownT_ok (ka kb : C4) : (ownT ka kb).Ok := ⟨rfl, rfl, rfl⟩
theorem ownT_fault (ka kb : C4) : faultL (ownT ka kb).flat = 0 := by
  rw [faultL_zero]
  refine ⟨by simp [ownT, Rx.flat], ?_, ?_⟩
  · intro n hn
    simp [ownT, Rx.flat] at hn
    rcases hn with rfl | rfl | rfl
    · exact ⟨by decide, Or.inr rfl⟩
    · exact ⟨⟨Int.le_refl 1, show (1 : Int) ≤ 9 by decide⟩, Or.inl rfl⟩
    · exact ⟨⟨Int.le_refl 1, show (1 : Int) ≤ 9 by decide⟩, Or.inl rfl⟩
  · exact endE_flat _ (ownT_ok ka kb)
theorem ownT_fit (ka kb : C4) (ha : ka.has 97 = true) (hb : kb.has 98 = true) : Fit [97, 98] (ownT ka kb) 0 2 := by
  unfold ownT
  rw [Fit, if_pos rfl]
  refine ⟨1, ?_, ?_⟩
  · rw [Fit, if_pos rfl]; exact ⟨97, rfl, ha, rfl⟩
  · rw [Fit, if_pos rfl]; exact ⟨98, rfl, hb, rfl⟩
theorem okw_wf {x : Int} (h : okW x) : (Lit.int .u64 x).wf = true := by
  have e1 : IntKind.u64.min = 0 := by decide
  have e2 : IntKind.u64.max = 18446744073709551615 := by decide
  unfold okW at h
  show (decide (IntKind.u64.min ≤ x) && decide (x ≤ IntKind.u64.max)) = true
  rw [e1, e2]
  simp
  omega
theorem ownT_wf (ka kb : C4) (ha : ka.ok) (hb : kb.ok) : ∀ n ∈ (ownT ka kb).flat, n.wf := by
  intro n hn
  simp [ownT, Rx.flat] at hn
  rcases hn with rfl | rfl | rfl
  · exact ⟨rfl, rfl, rfl, rfl, rfl⟩
  · exact ⟨rfl, okw_wf ha.1, okw_wf ha.2.1, okw_wf ha.2.2.1, okw_wf ha.2.2.2⟩
  · exact ⟨rfl, okw_wf hb.1, okw_wf hb.2.1, okw_wf hb.2.2.1, okw_wf hb.2.2.2⟩
/-- Ends and Yes of the turned one. -/
theorem turn_yes (s : ByteArray) (t : Rx) (ht : t.Ok) (y : Bool) (h : y = true ↔ Fit s.data.toList t 0 s.size) : y = true ↔ Fit s.data.toList.reverse t.turn 0 s.size := by
  rw [h]
  have e : s.data.toList.length = s.size := Array.length_toList
  have := fit_turn_iff s.data.toList t ht 0 s.size (by omega) (by omega)
  rw [e, Nat.sub_self, Nat.sub_zero] at this
  exact this
theorem turn_flip_wf {n : Nd} (h : n.flip.wf) : n.wf := by
  obtain ⟨h1, h2⟩ := h
  refine ⟨?_, h2⟩
  have e : n.flip.op = flipOp n.op := rfl
  rw [e] at h1
  unfold flipOp at h1
  split at h1
  · rename_i h; rw [h]; rfl
  · split at h1
    · rename_i h; rw [h]; rfl
    · exact h1
theorem turn_wf (t : Rx) (hw : ∀ n ∈ t.flat, n.wf) : ∀ n ∈ t.turn.flat, n.wf := fun n hn => turn_flip_wf (hw _ ((Rx.turn_mem t n).1 hn))
theorem ownT_call (Y : MeanY) (ka kb : C4) (hka : ka.ok ∧ ka.has 97 = true) (hkb : kb.ok ∧ kb.has 98 = true) (w : World) (hT : Tab w) : Calls Tryd.prog 39 #[.slice (some ⟨w.heap.size, 0, none⟩) 3 3, .string ⟨#[97, 98]⟩] (w.alloc (.cells (nsCells (ownT ka kb).flat).toArray 56 (0, 0))) fun e w' => e = .returned (.tuple #[.bool true, .nilIface]) ∧ Below w.heap.size w w' := by
  have h := Y.yes (ownT ka kb) _ ⟨#[97, 98]⟩ true _ (hT.below (below_1 w _) (Nat.le_refl _)) (ownT_ok ka kb) (ns_newM w (ownT ka kb).flat (by simp [ownT, Rx.flat, maxLen])) (ownT_wf ka kb hka.1 hkb.1) ((meanF_zero _ _).2 ⟨ownT_fault ka kb, by decide⟩) ⟨fun _ => ownT_fit ka kb hka.2 hkb.2, fun _ => rfl⟩
  refine h.mono ?_
  rintro e w' ⟨rfl, hb⟩
  exact ⟨rfl, (below_1 w _).trans (hb.mono (by simp))⟩
set_option maxHeartbeats 8000000 in
theorem meanTurns_bad (P : MeanN) (Y : MeanY) (R : RexT) (ka kb : C4) (OA : ∀ w, Calls Tryd.prog 13 #[.string ⟨#[97]⟩] w fun e w' => e = .returned ka.v ∧ Below w.heap.size w w') (OB : ∀ w, Calls Tryd.prog 13 #[.string ⟨#[98]⟩] w fun e w' => e = .returned kb.v ∧ Below w.heap.size w w') (hka : ka.ok ∧ ka.has 97 = true) (hkb : kb.ok ∧ kb.has 98 = true)
    (ns : List Nd) (v : Value) (s : ByteArray) (hs : s.size ≤ maxLen) (i to : Int) (w : World) (hT : Tab w) (hN : NsIn w v ns) (hw : ∀ n ∈ ns, n.wf) (hE : ¬ meanE ns s.size i = 0) :
    Calls Tryd.prog 8 #[v, .string s, .int .i64 i, .int .i64 to] w fun e w' => e = .returned (.bool true) ∧ Below w.heap.size w w' := by
  have HA := hid OA
  have HB := hid OB
  have HY : Hid (∀ w', Below w.heap.size w w' → _) := fun w' hb => ownT_call Y ka kb hka hkb w' (hT.below hb (Nat.le_refl _))
  have B0 := hid (Below.refl w.heap.size w)
  have C1 : Hid (∀ w', Below w.heap.size w w' → _) := fun w' hb => P.bad ns v s i w' (hN.below hb) hw hs hE
  have C2 : Hid (∀ w', Below w.heap.size w w' → _) := fun w' hb => R.turn ns v w' (hN.below hb) hw
  obtain ⟨a, cap, rfl, hm⟩ := nsIn_form hN
  have HEV : Hid (errV (meanE ns s.size i) = .iface 25 (.int .i64 (meanE ns s.size i))) := by show _ = _; unfold errV; rw [if_neg hE]
  rw [HEV.out] at C1
  clear hw P R Y hN hE HEV OA OB hka hkb
  generalize meanE ns s.size i = er at *
  go_enter Tryd.func8, Tryd.ntmps8
  go_wp2_with fail
  refine Calls.mono (HA.out _) ?_
  rintro e w1 ⟨rfl, hb⟩
  have B1 := hid (B0.out.trans (hb.mono B0.out.size))
  clear hb
  go_wp2_with fail
  refine Calls.mono (HB.out _) ?_
  rintro e w2 ⟨rfl, hb⟩
  have B2 := hid (B1.out.trans (hb.mono B1.out.size))
  clear hb
  go_wp2_with fail
  refine Calls.mono (HY.out _ (Hid.out (by assumption))) ?_
  rintro e w3 ⟨rfl, hb⟩
  have B3 := hid (B2.out.trans (hb.mono B2.out.size))
  clear hb
  go_wp2_with fail
  refine Calls.mono (C1.out _ B3.out) ?_
  rintro e w4 ⟨u, rfl, hb, hu⟩
  have B4 := hid (B3.out.trans (hb.mono B3.out.size))
  clear hb hu
  go_wp2_with fail
  refine Calls.mono (C2.out _ B4.out) ?_
  rintro e w5 ⟨q, rfl, hb, hq⟩
  have B5 := hid (B4.out.trans (hb.mono B4.out.size))
  clear hb hq
  go_wp2_with fail
  go_ret
  exact ⟨rfl, B5.out⟩
set_option maxHeartbeats 8000000 in
theorem meanTurns_neg (P : MeanN) (Y : MeanY) (R : RexT) (ka kb : C4) (OA : ∀ w, Calls Tryd.prog 13 #[.string ⟨#[97]⟩] w fun e w' => e = .returned ka.v ∧ Below w.heap.size w w') (OB : ∀ w, Calls Tryd.prog 13 #[.string ⟨#[98]⟩] w fun e w' => e = .returned kb.v ∧ Below w.heap.size w w') (hka : ka.ok ∧ ka.has 97 = true) (hkb : kb.ok ∧ kb.has 98 = true)
    (t : Rx) (ht : t.Ok) (v : Value) (s : ByteArray) (hs : s.size ≤ maxLen) (i : Nat) (to : Int) (w : World) (hT : Tab w) (hN : NsIn w v t.flat) (hw : ∀ n ∈ t.flat, n.wf) (hE : meanE t.flat s.size i = 0) (l : List Nat) (hl : EndsR s.data.toList t i l) (hto : to < 0) :
    Calls Tryd.prog 8 #[v, .string s, .int .i64 (i : Int), .int .i64 to] w fun e w' => e = .returned (.bool true) ∧ Below w.heap.size w w' := by
  have HA := hid OA
  have HB := hid OB
  have HY : Hid (∀ w', Below w.heap.size w w' → _) := fun w' hb => ownT_call Y ka kb hka hkb w' (hT.below hb (Nat.le_refl _))
  have B0 := hid (Below.refl w.heap.size w)
  obtain ⟨hf, h4, hi0, hi1⟩ := (meanE_zero _ _ _).1 hE
  have C1 : Hid (∀ w', Below w.heap.size w w' → _) := fun w' hb => P.ends t v s i l w' (hT.below hb (Nat.le_refl _)) ht (hN.below hb) hw hE hl
  have C2 : Hid (∀ w', Below w.heap.size w w' → Calls Tryd.prog 30 #[v] w' fun e w'' => ∃ u, e = .returned (.tuple #[u, .nilIface]) ∧ Below w'.heap.size w' w'' ∧ NsIn w'' u t.turn.flat) := fun w' hb => by
    have := R.turn t.flat v w' (hN.below hb) hw
    rw [hf, if_pos rfl, turE, turE_flat t ht] at this
    exact this
  obtain ⟨a, cap, rfl, hm⟩ := nsIn_form hN
  clear hw P R Y hN hE hf ht hl OA OB hka hkb
  go_enter Tryd.func8, Tryd.ntmps8
  go_wp2_with fail
  refine Calls.mono (HA.out _) ?_
  rintro e w1 ⟨rfl, hb⟩
  have B1 := hid (B0.out.trans (hb.mono B0.out.size))
  clear hb
  go_wp2_with fail
  refine Calls.mono (HB.out _) ?_
  rintro e w2 ⟨rfl, hb⟩
  have B2 := hid (B1.out.trans (hb.mono B1.out.size))
  clear hb
  go_wp2_with fail
  refine Calls.mono (HY.out _ (Hid.out (by assumption))) ?_
  rintro e w3 ⟨rfl, hb⟩
  have B3 := hid (B2.out.trans (hb.mono B2.out.size))
  clear hb
  go_wp2_with fail
  refine Calls.mono (C1.out _ B3.out) ?_
  rintro e w4 ⟨u, rfl, hb, hu⟩
  have B4 := hid (B3.out.trans (hb.mono B3.out.size))
  obtain ⟨ua, uc, rfl, um⟩ := isIn_form hu
  clear hb hu
  go_wp2_with fail
  refine Calls.mono (C2.out _ B4.out) ?_
  rintro e w5 ⟨q, rfl, hb, hq⟩
  have B5 := hid (B4.out.trans (hb.mono B4.out.size))
  obtain ⟨qa, qc, rfl, qm⟩ := nsIn_form hq
  clear hb hq
  go_wp2_with fail
  go_ret
  exact ⟨rfl, B5.out⟩
set_option maxHeartbeats 8000000 in
theorem meanTurns_far (P : MeanN) (Y : MeanY) (R : RexT) (ka kb : C4) (OA : ∀ w, Calls Tryd.prog 13 #[.string ⟨#[97]⟩] w fun e w' => e = .returned ka.v ∧ Below w.heap.size w w') (OB : ∀ w, Calls Tryd.prog 13 #[.string ⟨#[98]⟩] w fun e w' => e = .returned kb.v ∧ Below w.heap.size w w') (hka : ka.ok ∧ ka.has 97 = true) (hkb : kb.ok ∧ kb.has 98 = true)
    (t : Rx) (ht : t.Ok) (v : Value) (s : ByteArray) (hs : s.size ≤ maxLen) (i : Nat) (to : Int) (w : World) (hT : Tab w) (hN : NsIn w v t.flat) (hw : ∀ n ∈ t.flat, n.wf) (hE : meanE t.flat s.size i = 0) (l : List Nat) (hl : EndsR s.data.toList t i l) (hto : (s.size : Int) < to) :
    Calls Tryd.prog 8 #[v, .string s, .int .i64 (i : Int), .int .i64 to] w fun e w' => e = .returned (.bool true) ∧ Below w.heap.size w w' := by
  have HA := hid OA
  have HB := hid OB
  have HY : Hid (∀ w', Below w.heap.size w w' → _) := fun w' hb => ownT_call Y ka kb hka hkb w' (hT.below hb (Nat.le_refl _))
  have B0 := hid (Below.refl w.heap.size w)
  obtain ⟨hf, h4, hi0, hi1⟩ := (meanE_zero _ _ _).1 hE
  have C1 : Hid (∀ w', Below w.heap.size w w' → _) := fun w' hb => P.ends t v s i l w' (hT.below hb (Nat.le_refl _)) ht (hN.below hb) hw hE hl
  have C2 : Hid (∀ w', Below w.heap.size w w' → Calls Tryd.prog 30 #[v] w' fun e w'' => ∃ u, e = .returned (.tuple #[u, .nilIface]) ∧ Below w'.heap.size w' w'' ∧ NsIn w'' u t.turn.flat) := fun w' hb => by
    have := R.turn t.flat v w' (hN.below hb) hw
    rw [hf, if_pos rfl, turE, turE_flat t ht] at this
    exact this
  obtain ⟨a, cap, rfl, hm⟩ := nsIn_form hN
  clear hw P R Y hN hE hf ht hl OA OB hka hkb
  go_enter Tryd.func8, Tryd.ntmps8
  go_wp2_with fail
  refine Calls.mono (HA.out _) ?_
  rintro e w1 ⟨rfl, hb⟩
  have B1 := hid (B0.out.trans (hb.mono B0.out.size))
  clear hb
  go_wp2_with fail
  refine Calls.mono (HB.out _) ?_
  rintro e w2 ⟨rfl, hb⟩
  have B2 := hid (B1.out.trans (hb.mono B1.out.size))
  clear hb
  go_wp2_with fail
  refine Calls.mono (HY.out _ (Hid.out (by assumption))) ?_
  rintro e w3 ⟨rfl, hb⟩
  have B3 := hid (B2.out.trans (hb.mono B2.out.size))
  clear hb
  go_wp2_with fail
  refine Calls.mono (C1.out _ B3.out) ?_
  rintro e w4 ⟨u, rfl, hb, hu⟩
  have B4 := hid (B3.out.trans (hb.mono B3.out.size))
  obtain ⟨ua, uc, rfl, um⟩ := isIn_form hu
  clear hb hu
  go_wp2_with fail
  refine Calls.mono (C2.out _ B4.out) ?_
  rintro e w5 ⟨q, rfl, hb, hq⟩
  have B5 := hid (B4.out.trans (hb.mono B4.out.size))
  obtain ⟨qa, qc, rfl, qm⟩ := nsIn_form hq
  clear hb hq
  go_wp2_with fail
  go_ret
  exact ⟨rfl, B5.out⟩
set_option maxHeartbeats 8000000 in
theorem meanTurns_ok (P : MeanN) (Y : MeanY) (R : RexT) (ka kb : C4) (OA : ∀ w, Calls Tryd.prog 13 #[.string ⟨#[97]⟩] w fun e w' => e = .returned ka.v ∧ Below w.heap.size w w') (OB : ∀ w, Calls Tryd.prog 13 #[.string ⟨#[98]⟩] w fun e w' => e = .returned kb.v ∧ Below w.heap.size w w') (hka : ka.ok ∧ ka.has 97 = true) (hkb : kb.ok ∧ kb.has 98 = true)
    (t : Rx) (ht : t.Ok) (v : Value) (s : ByteArray) (hs : s.size ≤ maxLen) (i to : Nat) (w : World) (hT : Tab w) (hN : NsIn w v t.flat) (hw : ∀ n ∈ t.flat, n.wf) (hE : meanE t.flat s.size i = 0) (l : List Nat) (hl : EndsR s.data.toList t i l) (hto : to ≤ s.size) (m : List Nat) (hm : EndsR s.data.toList.reverse t.turn (s.size - to) m) (y : Bool) (hy : y = true ↔ Fit s.data.toList t 0 s.size) :
    Calls Tryd.prog 8 #[v, .string s, .int .i64 (i : Int), .int .i64 (to : Int)] w fun e w' => e = .returned (.bool true) ∧ Below w.heap.size w w' := by
  have HA := hid OA
  have HB := hid OB
  have HY : Hid (∀ w', Below w.heap.size w w' → _) := fun w' hb => ownT_call Y ka kb hka hkb w' (hT.below hb (Nat.le_refl _))
  have B0 := hid (Below.refl w.heap.size w)
  obtain ⟨hf, h4, hi0, hi1⟩ := (meanE_zero _ _ _).1 hE
  have C1 : Hid (∀ w', Below w.heap.size w w' → _) := fun w' hb => P.ends t v s i l w' (hT.below hb (Nat.le_refl _)) ht (hN.below hb) hw hE hl
  have C2 : Hid (∀ w', Below w.heap.size w w' → Calls Tryd.prog 30 #[v] w' fun e w'' => ∃ u, e = .returned (.tuple #[u, .nilIface]) ∧ Below w'.heap.size w' w'' ∧ NsIn w'' u t.turn.flat) := fun w' hb => by
    have := R.turn t.flat v w' (hN.below hb) hw
    rw [hf, if_pos rfl, turE, turE_flat t ht] at this
    exact this
  have e : s.data.toList.length = s.size := Array.length_toList
  have er : (⟨s.data.toList.reverse.toArray⟩ : ByteArray).size = s.size := by rw [size_str, List.length_reverse, e]
  have hft : faultL t.turn.flat = 0 := by
    have := turn_good t.flat hf
    rw [turE_flat t ht] at this
    exact this
  have C3 : Hid (∀ w', Calls Tryd.prog 42 #[.string s] w' _) := fun w' => turned_any s h4 w'
  have C4 : Hid (∀ w' q, Below w.heap.size w w' → NsIn w' q t.turn.flat → Calls Tryd.prog 37 #[q, .string ⟨s.data.toList.reverse.toArray⟩, .int .i64 ((s.size : Int) - (to : Int))] w' fun e w'' => ∃ u, e = .returned (.tuple #[u, .nilIface]) ∧ Below w'.heap.size w' w'' ∧ IsIn w'' u m) := fun w' q hb hq => by
    have := P.ends t.turn q ⟨s.data.toList.reverse.toArray⟩ (s.size - to) m w' (hT.below hb (Nat.le_refl _)) (Rx.turn_ok t ht) hq (turn_wf t hw) ((meanE_zero _ _ _).2 ⟨hft, by rw [er]; exact h4, by omega, by rw [er]; omega⟩) (by simpa using hm)
    rw [Int.ofNat_sub hto] at this
    exact this
  have C5 : Hid (∀ w', Below w.heap.size w w' → _) := fun w' hb => Y.yes t v s y w' (hT.below hb (Nat.le_refl _)) ht (hN.below hb) hw ((meanF_zero _ _).2 ⟨hf, h4⟩) hy
  have C6 : Hid (∀ w' q, Below w.heap.size w w' → NsIn w' q t.turn.flat → _) := fun w' q hb hq => Y.yes t.turn q ⟨s.data.toList.reverse.toArray⟩ y w' (hT.below hb (Nat.le_refl _)) (Rx.turn_ok t ht) hq (turn_wf t hw) ((meanF_zero _ _).2 ⟨hft, by rw [er]; exact h4⟩) (by
    rw [er]
    simpa using turn_yes s t ht y hy)
  have HH : Hid (hasI l (to : Int) = hasI m ((s.size : Int) - (i : Int))) := by
    show _ = _
    have hi : i ≤ s.size := by omega
    rw [← Int.ofNat_sub hi, Bool.eq_iff_iff, hasI_nat, hasI_nat, hl.2, hm.2]
    have := fit_turn_iff s.data.toList t ht i to (by omega) (by omega)
    rw [e] at this
    exact this
  obtain ⟨a, cap, rfl, hmm⟩ := nsIn_form hN
  have t0 : (0 : Int) ≤ (to : Int) := by omega
  have t1 : (to : Int) ≤ (s.size : Int) := by omega
  have t2 : IntKind.i64.wrap ((s.size : Int) - (to : Int)) = (s.size : Int) - (to : Int) := by rw [IntKind.wrap_i64]; omega
  have t3 : IntKind.i64.wrap ((s.size : Int) - (i : Int)) = (s.size : Int) - (i : Int) := by rw [IntKind.wrap_i64]; omega
  have t4 : decide ((to : Int) < 0) = false := decide_eq_false (by omega)
  have t5 : decide ((s.size : Int) < (to : Int)) = false := decide_eq_false (by omega)
  clear hw P R Y hN hE hf ht hl OA OB hka hkb hft er hm hy e
  go_enter Tryd.func8, Tryd.ntmps8
  go_wp2_with fail
  refine Calls.mono (HA.out _) ?_
  rintro e w1 ⟨rfl, hb⟩
  have B1 := hid (B0.out.trans (hb.mono B0.out.size))
  clear hb
  go_wp2_with fail
  refine Calls.mono (HB.out _) ?_
  rintro e w2 ⟨rfl, hb⟩
  have B2 := hid (B1.out.trans (hb.mono B1.out.size))
  clear hb
  go_wp2_with fail
  refine Calls.mono (HY.out _ (Hid.out (by assumption))) ?_
  rintro e w3 ⟨rfl, hb⟩
  have B3 := hid (B2.out.trans (hb.mono B2.out.size))
  clear hb
  go_wp2_with fail
  refine Calls.mono (C1.out _ B3.out) ?_
  rintro e w4 ⟨u, rfl, hb, hu⟩
  have B4 := hid (B3.out.trans (hb.mono B3.out.size))
  have U4 := hid hu
  obtain ⟨ua, uc, rfl, um⟩ := isIn_form hu
  clear hb hu
  go_wp2_with fail
  refine Calls.mono (C2.out _ B4.out) ?_
  rintro e w5 ⟨q, rfl, hb, hq⟩
  have B5 := hid (B4.out.trans (hb.mono B4.out.size))
  have U5 := hid (U4.out.below hb)
  have Q5 := hid hq
  obtain ⟨qa, qc, rfl, qm⟩ := nsIn_form hq
  clear hb hq
  go_wp2_with fail
  refine Calls.mono (C3.out _) ?_
  rintro e w6 ⟨rfl, hb⟩
  have B6 := hid (B5.out.trans (hb.mono B5.out.size))
  have U6 := hid (U5.out.below hb)
  have Q6 := hid (Q5.out.below hb)
  clear hb
  go_wp2_with fail
  refine Calls.mono (C4.out _ _ (Hid.out (by assumption)) Q6.out) ?_
  rintro e w7 ⟨u2, rfl, hb, hu⟩
  have B7 := hid (B6.out.trans (hb.mono B6.out.size))
  have U7 := hid (U6.out.below hb)
  have Q7 := hid (Q6.out.below hb)
  have V7 := hid hu
  obtain ⟨va, vc, rfl, vm⟩ := isIn_form hu
  clear hb hu
  go_wp2_with fail
  refine Calls.mono (C5.out _ B7.out) ?_
  rintro e w8 ⟨rfl, hb⟩
  have B8 := hid (B7.out.trans (hb.mono B7.out.size))
  have U8 := hid (U7.out.below hb)
  have Q8 := hid (Q7.out.below hb)
  have V8 := hid (V7.out.below hb)
  clear hb
  go_wp2_with fail
  refine Calls.mono (C6.out _ _ (Hid.out (by assumption)) Q8.out) ?_
  rintro e w9 ⟨rfl, hb⟩
  have B9 := hid (B8.out.trans (hb.mono B8.out.size))
  have U9 := hid (U8.out.below hb)
  have V9 := hid (V8.out.below hb)
  clear hb
  go_wp2_with fail
  refine Calls.mono (lhas_any l (to : Int) _ _ U9.out) ?_
  rintro e w10 ⟨rfl, hb⟩
  have B10 := hid (B9.out.trans (hb.mono B9.out.size))
  have V10 := hid (V9.out.below hb)
  clear hb
  go_wp2_with fail
  have CH := hid (lhas_any m ((s.size : Int) - (i : Int)) _ _ V10.out)
  rw [← HH.out] at CH
  refine Calls.mono (CH.out) ?_
  rintro e w11 ⟨rfl, hb⟩
  have B11 := hid (B10.out.trans (hb.mono B10.out.size))
  clear hb
  go_wp2_with fail
  cases hasI l (to : Int) <;> cases y
  all_goals
    go_wp2
    go_ret
    exact ⟨rfl, B11.out⟩
theorem meanTurns_any (P : MeanN) (Y : MeanY) (R : RexT) (ka kb : C4) (OA : ∀ w, Calls Tryd.prog 13 #[.string ⟨#[97]⟩] w fun e w' => e = .returned ka.v ∧ Below w.heap.size w w') (OB : ∀ w, Calls Tryd.prog 13 #[.string ⟨#[98]⟩] w fun e w' => e = .returned kb.v ∧ Below w.heap.size w w') (hka : ka.ok ∧ ka.has 97 = true) (hkb : kb.ok ∧ kb.has 98 = true)
    (ns : List Nd) (v : Value) (s : ByteArray) (hs : s.size ≤ maxLen) (i to : Int) (w : World) (hT : Tab w) (hN : NsIn w v ns) (hw : ∀ n ∈ ns, n.wf) :
    Calls Tryd.prog 8 #[v, .string s, .int .i64 i, .int .i64 to] w fun e w' => e = .returned (.bool true) ∧ Below w.heap.size w w' := by
  by_cases hE : meanE ns s.size i = 0
  · obtain ⟨hf, h4, h0, h1⟩ := (meanE_zero _ _ _).1 hE
    obtain ⟨_, _, hv⟩ := (faultL_zero ns).1 hf
    obtain ⟨t, ht, rfl⟩ := tree_of ns hv
    obtain ⟨j, rfl⟩ : ∃ j : Nat, i = j := ⟨i.toNat, by omega⟩
    obtain ⟨l, hl⟩ := ends_total s.data.toList t j
    by_cases hneg : to < 0
    · exact meanTurns_neg P Y R ka kb OA OB hka hkb t ht v s hs j to w hT hN hw hE l hl hneg
    · by_cases hfar : (s.size : Int) < to
      · exact meanTurns_far P Y R ka kb OA OB hka hkb t ht v s hs j to w hT hN hw hE l hl hfar
      · obtain ⟨k, rfl⟩ : ∃ k : Nat, to = k := ⟨to.toNat, by omega⟩
        obtain ⟨m, hm⟩ := ends_total s.data.toList.reverse t.turn (s.size - k)
        obtain ⟨y, hy⟩ : ∃ y : Bool, y = true ↔ Fit s.data.toList t 0 s.size := ⟨@decide _ (Classical.propDecidable _), @decide_eq_true_iff _ (Classical.propDecidable _)⟩
        exact meanTurns_ok P Y R ka kb OA OB hka hkb t ht v s hs j k w hT hN hw hE l hl (by omega) m hm y hy
  · exact meanTurns_bad P Y R ka kb OA OB hka hkb ns v s hs i to w hT hN hw hE
end Go.Proofs.YtajkkmnojfghoaaDoor
namespace Go.Proofs.YtajkkmnojfghoaaDoor
set_option linter.unusedSimpArgs false
set_option linter.unusedVariables false
set_option maxRecDepth 100000
open Go.RowKit

/-- So many parts are missing: how many nodes they are, and whether all are there. -/
def beh : List Nd → Nat → Nat × Bool
  | _, 0 => (0, true)
  | [], _ + 1 => (0, false)
  | n :: r, m + 1 => ((beh r (m + prt n.op)).1 + 1, (beh r (m + prt n.op)).2)
theorem beh_zero (l : List Nd) : beh l 0 = (0, true) := by cases l <;> rfl
theorem beh_flat : ∀ (t : Rx), t.Ok → ∀ (q : List Nd) (m : Nat), beh (t.flat ++ q) (m + 1) = ((beh q m).1 + t.flat.length, (beh q m).2)
  | .leaf n, h, q, m => by
    have h0 : prt n.op = 0 := h
    simp [Rx.flat, beh, h0]
  | .one n a, h, q, m => by
    have ih := beh_flat a h.2 q m
    simp [Rx.flat, beh, h.1, ih]; omega
  | .two n a b, h, q, m => by
    have ih := beh_flat a h.2.1 (b.flat ++ q) (m + 1)
    have ih2 := beh_flat b h.2.2 q m
    rw [ih2] at ih
    simp only [Rx.flat, List.cons_append, List.append_assoc, beh, h.1, ih, List.length_cons, List.length_append]
    refine Prod.ext ?_ rfl
    simp only
    omega
theorem beh_le : ∀ (l : List Nd) (m : Nat), (beh l m).1 ≤ l.length
  | l, 0 => by rw [beh_zero]; simp
  | [], m + 1 => by simp [beh]
  | n :: r, m + 1 => by
    have := beh_le r (m + prt n.op)
    simp [beh]; omega
theorem beh_trees : ∀ (l : List Nd) (m : Nat), (beh l m).2 = true → ∃ (ts : List Rx) (q : List Nd), ts.length = m ∧ (∀ t ∈ ts, t.Ok) ∧ l = (ts.map Rx.flat).flatten ++ q ∧ (beh l m).1 = (ts.map Rx.flat).flatten.length
  | l, 0, h => ⟨[], l, rfl, by simp, by simp, by rw [beh_zero]; rfl⟩
  | [], m + 1, h => by simp [beh] at h
  | n :: r, m + 1, h => by
    simp only [beh] at h
    obtain ⟨ts, q, hl, hok, he, hk⟩ := beh_trees r (m + prt n.op) h
    have hp := prt_le n.op
    have h3 : prt n.op = 0 ∨ prt n.op = 1 ∨ prt n.op = 2 := by omega
    rcases h3 with h0 | h0 | h0
    · refine ⟨.leaf n :: ts, q, by simp; omega, ?_, by simp [he, Rx.flat], by simp [beh, hk, Rx.flat]⟩
      intro t ht
      rcases List.mem_cons.1 ht with rfl | ht
      · exact h0
      · exact hok t ht
    · match ts, hl, hok, he, hk with
      | [], hl, _, _, _ => simp at hl; omega
      | a :: ts, hl, hok, he, hk =>
        refine ⟨.one n a :: ts, q, by simp at hl ⊢; omega, ?_, by simp [he, Rx.flat], by simp [beh, hk, Rx.flat]⟩
        intro t ht
        rcases List.mem_cons.1 ht with rfl | ht
        · exact ⟨h0, hok a (by simp)⟩
        · exact hok t (by simp [ht])
    · match ts, hl, hok, he, hk with
      | [], hl, _, _, _ => simp at hl; omega
      | [a], hl, _, _, _ => simp at hl; omega
      | a :: b :: ts, hl, hok, he, hk =>
        refine ⟨.two n a b :: ts, q, by simp at hl ⊢; omega, ?_, by simp [he, Rx.flat], by simp [beh, hk, Rx.flat]⟩
        intro t ht
        rcases List.mem_cons.1 ht with rfl | ht
        · exact ⟨h0, hok a (by simp), hok b (by simp)⟩
        · exact hok t (by simp [ht])
theorem beh_end (ns : List Nd) (h : (beh ns 1).2 = true) : endE ns 0 = some (beh ns 1).1 := by
  obtain ⟨ts, q, hl, hok, he, hk⟩ := beh_trees ns 1 h
  match ts, hl, hok, he, hk with
  | [t], hl, hok, he, hk =>
    have e : ns = t.flat ++ q := by simpa using he
    have e2 : (beh ns 1).1 = t.flat.length := by simpa using hk
    have := endE_mid t (hok t (by simp)) [] q
    rw [e2, e]
    simpa using this
theorem end_beh (ns : List Nd) (f i j : Nat) (h : endF ns f i = some j) : (beh (ns.drop i) 1).2 = true ∧ i + (beh (ns.drop i) 1).1 = j := by
  obtain ⟨t, ht, q, e, ej⟩ := part_tree ns f i j h
  have := beh_flat t ht q 0
  rw [e, this, beh_zero]
  refine ⟨rfl, ?_⟩
  simp only
  omega
/-- The fault of nodes that are fine one by one. -/
theorem fault_beh (ns : List Nd) (h60 : ¬ 60 < ns.length) (h0 : scanL ns = 0) : faultL ns = if (beh ns 1).2 = true ∧ ns.length ≤ (beh ns 1).1 then 0 else 2 := by
  rw [faultL, if_neg h60, h0, if_neg (by simp)]
  by_cases h : (beh ns 1).2 = true ∧ ns.length ≤ (beh ns 1).1
  · have e := beh_end ns h.1
    have hl := beh_le ns 1
    have e2 : (beh ns 1).1 = ns.length := by omega
    rw [e2] at e
    have hne : ns ≠ [] := by rintro rfl; rw [endE_nil] at e; cases e
    rw [if_pos h, if_neg (by simp [e, hne])]
  · rw [if_neg h, if_pos]
    refine Or.inr fun e => h ?_
    have := end_beh ns _ 0 _ e
    rw [List.drop_zero] at this
    exact ⟨this.1, by omega⟩
/-- Each node of a valid pattern begins a part. -/
theorem tree_sub : ∀ (t : Rx), t.Ok → ∀ i, i < t.flat.length → ∃ s : Rx, s.Ok ∧ ∃ q, t.flat.drop i = s.flat ++ q
  | t, ht, 0, _ => ⟨t, ht, [], by simp⟩
  | .leaf n, ht, i + 1, h => by simp [Rx.flat] at h
  | .one n a, ht, i + 1, h => by
    obtain ⟨s, hs, q, e⟩ := tree_sub a ht.2 i (by simp [Rx.flat] at h; omega)
    exact ⟨s, hs, q, by simpa [Rx.flat] using e⟩
  | .two n a b, ht, i + 1, h => by
    by_cases hi : i < a.flat.length
    · obtain ⟨s, hs, q, e⟩ := tree_sub a ht.2.1 i hi
      refine ⟨s, hs, q ++ b.flat, ?_⟩
      simp only [Rx.flat, List.drop_succ_cons]
      rw [List.drop_append_of_le_length (by omega), e, List.append_assoc]
    · obtain ⟨s, hs, q, e⟩ := tree_sub b ht.2.2 (i - a.flat.length) (by simp [Rx.flat] at h; omega)
      refine ⟨s, hs, q, ?_⟩
      simp only [Rx.flat, List.drop_succ_cons]
      rw [List.drop_append, List.drop_eq_nil_of_le (by omega), List.nil_append, e]
theorem part_at (ns : List Nd) (hv : endE ns 0 = some ns.length) (i : Nat) (hi : i < ns.length) : ∃ j, endE ns i = some j := by
  obtain ⟨t, ht, rfl⟩ := tree_of ns hv
  obtain ⟨s, hs, q, e⟩ := tree_sub t ht i hi
  have h := endE_mid s hs (t.flat.take i) q
  have e1 : (t.flat.take i).length = i := by simp; omega
  have e2 : t.flat.take i ++ s.flat ++ q = t.flat := by rw [List.append_assoc, ← e, List.take_append_drop]
  rw [e1, e2] at h
  exact ⟨_, h⟩
theorem beh_step (ns : List Nd) (i m : Nat) (n : Nd) (hn : ns[i]? = some n) : beh (ns.drop i) (m + 1) = ((beh (ns.drop (i + 1)) (m + prt n.op)).1 + 1, (beh (ns.drop (i + 1)) (m + prt n.op)).2) := by
  have hi : i < ns.length := by
    rcases Nat.lt_or_ge i ns.length with h | h
    · exact h
    · rw [List.getElem?_eq_none h] at hn; cases hn
  rw [List.drop_eq_getElem_cons hi]
  rw [List.getElem?_eq_getElem hi] at hn
  rw [Option.some.inj hn, beh]
end Go.Proofs.YtajkkmnojfghoaaDoor
namespace Go.Proofs.YtajkkmnojfghoaaDoor
set_option linter.unusedSimpArgs false
set_option linter.unusedVariables false
set_option maxRecDepth 100000
open Go.RowKit

set_option maxHeartbeats 400000 in
theorem rparts_any (op : Int) (w : World) :
    Calls Tryd.prog 74 #[.int .i64 op] w fun e w' => e = .returned (.int .i64 (prt op)) ∧ w' = w := by
  by_cases h3 : op = 3
  · subst h3
    go_enter Tryd.func74, Tryd.ntmps74
    go_wp2
    go_ret
    exact ⟨rfl, rfl⟩
  by_cases h4 : op = 4
  · subst h4
    go_enter Tryd.func74, Tryd.ntmps74
    go_wp2
    go_ret
    exact ⟨rfl, rfl⟩
  by_cases h5 : op = 5
  · subst h5
    go_enter Tryd.func74, Tryd.ntmps74
    go_wp2
    go_ret
    exact ⟨rfl, rfl⟩
  by_cases h6 : op = 6
  · subst h6
    go_enter Tryd.func74, Tryd.ntmps74
    go_wp2
    go_ret
    exact ⟨rfl, rfl⟩
  by_cases h7 : op = 7
  · subst h7
    go_enter Tryd.func74, Tryd.ntmps74
    go_wp2
    go_ret
    exact ⟨rfl, rfl⟩
  have b3 : (op == 3) = false := by simp [h3]
  have b4 : (op == 4) = false := by simp [h4]
  have b5 : (op == 5) = false := by simp [h5]
  have b6 : (op == 6) = false := by simp [h6]
  have b7 : (op == 7) = false := by simp [h7]
  have e0 : prt op = 0 := by unfold prt; simp [h3, h4, h5, h6, h7]
  rw [e0]
  clear h3 h4 h5 h6 h7 e0
  go_enter Tryd.func74, Tryd.ntmps74
  go_wp2
  go_ret
  exact ⟨rfl, rfl⟩
set_option maxHeartbeats 1000000 in
theorem behind_at (ns : List Nd) (b off cap i : Nat) (hm : ns.length ≤ maxLen) (hm2 : ns.length ≤ 2 ^ 62) (hi : i ≤ ns.length) (w : World) (hN : NsAt w b off ns) :
    Calls Tryd.prog 54 #[.slice (some ⟨b, off, none⟩) ns.length cap, .int .i64 i] w fun e w' => e = .returned (.tuple #[.int .i64 (i + (beh (ns.drop i) 1).1 : Nat), .bool (beh (ns.drop i) 1).2]) ∧ w' = w := by
  unfold maxLen at hm
  obtain ⟨k, x, HK, HX⟩ : ∃ k x, Hid (i + (beh (ns.drop i) 1).1 = k) ∧ Hid ((beh (ns.drop i) 1).2 = x) := ⟨_, _, Eq.refl _, Eq.refl _⟩
  rw [HK.out, HX.out]
  go_enter Tryd.func54, Tryd.ntmps54
  go_wp2_with fail
  go_loop [1, 6] (fun v u => ∃ (j m : Nat), j ≤ ns.length ∧ m ≤ j + 1 ∧ v = .int .i64 j ∧ u = .int .i64 m ∧ Hid (j + (beh (ns.drop j) m).1 = k) ∧ Hid ((beh (ns.drop j) m).2 = x)) (fun v _ => ns.length - (intOf v).toNat)
  case atStart => exact ⟨i, 1, by omega, by omega, rfl, rfl, HK, HX⟩
  case round =>
    obtain ⟨j, m, hj, hmj, rfl, rfl, H1, H2⟩ := hrel
    clear HK HX
    cases m with
    | zero =>
      rw [beh_zero] at H1 H2
      obtain rfl := H1.out
      obtain rfl := H2.out
      clear H1 H2
      go_wp2
      go_ret2
      exact ⟨rfl, rfl⟩
    | succ m =>
      have m0 : (0 : Int) < ((m + 1 : Nat) : Int) := by omega
      by_cases hl : j < ns.length
      · obtain ⟨n, hn⟩ : ∃ n, ns[j]? = some n := ⟨ns[j], List.getElem?_eq_getElem hl⟩
        obtain ⟨c0, _⟩ := hN j n hn
        have hp := prt_le n.op
        have i0 : (0 : Int) ≤ (j : Int) := by omega
        have i1 : (j : Int) < (ns.length : Int) := by omega
        rw [beh_step ns j m n hn] at H1 H2
        have H3 : Hid (j + 1 + (beh (ns.drop (j + 1)) (m + prt n.op)).1 = k) := by show _ = _; rw [← H1.out]; simp only; omega
        have H4 : Hid ((beh (ns.drop (j + 1)) (m + prt n.op)).2 = x) := H2.out
        clear hn H1 H2
        go_wp2_with fail
        refine (rparts_any _ _).mono ?_
        rintro e w1 ⟨rfl, rfl⟩
        generalize prt n.op = pr at *
        go_wp2
        refine ⟨⟨j + 1, m + pr, by omega, by omega, by go_num, ?_, H3, H4⟩, by simp [intOf]; omega⟩
        rw [show (m : Int) + 1 + ((pr : Int) - 1) = ((m + pr : Nat) : Int) from by omega]
      · have hj2 : j = ns.length := by omega
        have i1 : ¬ (j : Int) < (ns.length : Int) := by omega
        have d0 : ns.drop j = [] := List.drop_eq_nil_of_le (by omega)
        rw [d0] at H1 H2
        obtain rfl := H1.out
        obtain rfl := H2.out
        have m1 : (((m + 1 : Nat) : Int) == 0) = false := by rw [beq_eq_false_iff_ne]; omega
        clear H1 H2
        go_wp2
        go_ret2
        exact ⟨rfl, rfl⟩
theorem behind_any (ns : List Nd) (v : Value) (i : Nat) (w : World) (hN : NsIn w v ns) (hm2 : ns.length ≤ 2 ^ 62) (hi : i < ns.length) :
    Calls Tryd.prog 54 #[v, .int .i64 i] w fun e w' => e = .returned (.tuple #[.int .i64 (i + (beh (ns.drop i) 1).1 : Nat), .bool (beh (ns.drop i) 1).2]) ∧ w' = w := by
  obtain ⟨a, cap, rfl, hm, h | ⟨b, off, rfl, hlt, hn⟩⟩ := hN
  · subst h
    simp at hi
  · exact behind_at ns b off cap i hm hm2 (by omega) w hn
set_option maxHeartbeats 1000000 in
theorem behind_nil (a : Option Addr) (cap : Nat) (w : World) :
    Calls Tryd.prog 54 #[.slice a 0 cap, .int .i64 0] w fun e w' => e = .returned (.tuple #[.int .i64 0, .bool false]) ∧ w' = w := by
  go_enter Tryd.func54, Tryd.ntmps54
  go_wp2_with fail
  go_loop [1, 6] (fun v u => v = .int .i64 0 ∧ u = .int .i64 1) (fun _ _ => 0)
  case atStart => exact ⟨rfl, rfl⟩
  case round =>
    obtain ⟨rfl, rfl⟩ := hrel
    go_wp2
    go_ret2
    exact ⟨rfl, rfl⟩
set_option maxHeartbeats 1000000 in
theorem checkNode_any (n : Nd) (w : World) :
    Calls Tryd.prog 53 #[n.v] w fun e w' => e = .returned (errV (scanL [n])) ∧ Below w.heap.size w w' := by
  by_cases h1 : n.op < 1
  · have HF : Hid (scanL [n] = 1) := by show _ = _; rw [scanL, if_pos (Or.inl h1)]
    go_enter Tryd.func53, Tryd.ntmps53
    go_wp2
    go_ret
    exact ⟨by rw [HF.out]; rfl, Below.alloc (Below.refl _ _) (Nat.le_refl _) _⟩
  by_cases h9 : 9 < n.op
  · have HF : Hid (scanL [n] = 1) := by show _ = _; rw [scanL, if_pos (Or.inr h9)]
    go_enter Tryd.func53, Tryd.ntmps53
    go_wp2
    go_ret
    exact ⟨by rw [HF.out]; rfl, Below.alloc (Below.refl _ _) (Nat.le_refl _) _⟩
  by_cases hb : n.op = 1
  · have HF : Hid (scanL [n] = 0) := by show _ = _; rw [scanL, if_neg (by omega), if_neg (by simp [hb])]; rfl
    have hb2 : (n.op != 1) = false := by simp [hb]
    clear hb
    go_enter Tryd.func53, Tryd.ntmps53
    go_wp2
    go_ret
    exact ⟨by rw [HF.out]; rfl, Below.alloc (Below.refl _ _) (Nat.le_refl _) _⟩
  have hb2 : (n.op != 1) = true := by simp [hb]
  by_cases hz : n.c.eqb z4 = true
  · have HF : Hid (scanL [n] = 0) := by show _ = _; rw [scanL, if_neg (by omega), if_neg (by simp [hz])]; rfl
    clear hb
    have he : ∀ w, (Op.equalIn 10000 24 (.agg #[.int .u64 n.c.a, .int .u64 n.c.b, .int .u64 n.c.c, .int .u64 n.c.d]) (.agg #[.int .u64 0, .int .u64 0, .int .u64 0, .int .u64 0])).run Tryd.prog w = .ok true w := fun w => (eq4 n.c z4 w).trans (by rw [hz])
    go_enter Tryd.func53, Tryd.ntmps53
    go_wp2
    go_ret
    exact ⟨by rw [HF.out]; rfl, Below.alloc (Below.refl _ _) (Nat.le_refl _) _⟩
  · have HF : Hid (scanL [n] = 2) := by show _ = _; rw [scanL, if_neg (by omega), if_pos ⟨hb, hz⟩]
    clear hb
    have he : ∀ w, (Op.equalIn 10000 24 (.agg #[.int .u64 n.c.a, .int .u64 n.c.b, .int .u64 n.c.c, .int .u64 n.c.d]) (.agg #[.int .u64 0, .int .u64 0, .int .u64 0, .int .u64 0])).run Tryd.prog w = .ok false w := fun w => (eq4 n.c z4 w).trans (by rw [Bool.eq_false_iff.2 hz])
    go_enter Tryd.func53, Tryd.ntmps53
    go_wp2
    go_ret
    exact ⟨by rw [HF.out]; rfl, Below.alloc (Below.refl _ _) (Nat.le_refl _) _⟩
end Go.Proofs.YtajkkmnojfghoaaDoor
namespace Go.Proofs.YtajkkmnojfghoaaDoor
set_option linter.unusedSimpArgs false
set_option linter.unusedVariables false
set_option maxRecDepth 100000
open Go.RowKit

theorem scan_one (n : Nd) : scanL [n] = if n.op < 1 ∨ 9 < n.op then 1 else if ¬ n.op = 1 ∧ ¬ n.c.eqb z4 = true then 2 else 0 := by
  rw [scanL]; rfl
set_option maxHeartbeats 4000000 in
theorem check_at (ns : List Nd) (b off cap : Nat) (hm : ns.length ≤ maxLen) (w : World) (hlt : b < w.heap.size) (hN : NsAt w b off ns) (h0 : 0 < ns.length) :
    Calls Tryd.prog 26 #[.slice (some ⟨b, off, none⟩) ns.length cap] w fun e w' => e = .returned (errV (faultL ns)) ∧ Below w.heap.size w w' := by
  have HM := (show Hid _ from hm)
  unfold maxLen at hm
  by_cases h60 : 60 < ns.length
  · have g60 : (60 : Int) < (ns.length : Int) := by omega
    have HF : Hid (faultL ns = 3) := by show _ = _; rw [faultL, if_pos h60]
    go_enter Tryd.func26, Tryd.ntmps26
    go_wp2
    go_ret
    exact ⟨by rw [HF.out]; rfl, Below.refl _ _⟩
  · have g60 : ¬ (60 : Int) < (ns.length : Int) := by omega
    go_enter Tryd.func26, Tryd.ntmps26
    go_wp2
    go_loopw [14] (fun v wr => ∃ i : Nat, i ≤ ns.length ∧ v = .int .i64 i ∧ Hid (scanL ns = scanL (ns.drop i)) ∧ Below w.heap.size w wr) (fun v _ => ns.length - (intOf v).toNat)
    case atStart => exact ⟨0, by omega, rfl, Eq.refl _, Below.refl _ _⟩
    case round =>
      obtain ⟨i, hi, rfl, HS, hB⟩ := hrel
      have hNr := hN.below hB hlt
      by_cases hil : i < ns.length
      · obtain ⟨n, hn⟩ : ∃ n, ns[i]? = some n := ⟨ns[i], List.getElem?_eq_getElem hil⟩
        obtain ⟨c0, c1, c2, c3, c4⟩ := hNr i n hn
        have HD : Hid _ := scan_drop ns i n hn
        have H1 : Hid _ := scan_one n
        have i0 : (0 : Int) ≤ (i : Int) := by omega
        have i1 : (i : Int) < (ns.length : Int) := by omega
        clear hn
        have hcn := checkNode_any n
        go_wp2_with fail
        refine (hcn _).mono ?_
        rintro e w1 ⟨rfl, hb1⟩
        have hB1 : Below w.heap.size w w1 := hB.trans ((Below.alloc (Below.refl _ _) (Nat.le_refl _) _).trans (hb1.mono (by simp)) |>.mono hB.size)
        clear hb1 hcn
        by_cases hs : scanL [n] = 0
        · have HS2 : Hid (scanL ns = scanL (ns.drop (i + 1))) := by
            show _ = _
            rw [HS.out, HD.out]
            rw [H1.out] at hs
            split
            · rename_i h; rw [if_pos h] at hs; cases hs
            · rename_i h
              rw [if_neg h] at hs
              split
              · rename_i h2; rw [if_pos h2] at hs; cases hs
              · rfl
          rw [hs, show errV 0 = .nilIface from rfl]
          clear hs HD H1 HS
          go_wp2
          exact ⟨⟨i + 1, by omega, by go_num, HS2, hB1⟩, by simp [intOf]; omega⟩
        · have HF : Hid (faultL ns = scanL [n]) := by
            show _ = _
            have e1 : scanL ns = scanL [n] := by
              rw [HS.out, HD.out]
              rw [H1.out] at hs ⊢
              split
              · rfl
              · rename_i h
                rw [if_neg h] at hs
                split
                · rfl
                · rename_i h2; rw [if_neg h2] at hs; exact absurd rfl hs
            rw [faultL, if_neg h60, e1, if_pos hs]
          rw [show errV (scanL [n]) = .iface 25 (.int .i64 (scanL [n])) from if_neg hs]
          have HE : Hid (errV (faultL ns) = .iface 25 (.int .i64 (scanL [n]))) := by show _ = _; rw [HF.out]; exact if_neg hs
          clear hs HD H1 HS HF
          generalize scanL [n] = er at *
          go_wp2
          go_ret
          exact ⟨by rw [HE.out]; rfl, hB1⟩
      · have hi2 : i = ns.length := by omega
        have e0 : scanL ns = 0 := by rw [HS.out, List.drop_eq_nil_of_le (by omega)]; rfl
        have HF : Hid _ := fault_beh ns h60 e0
        have HC : Hid (Calls Tryd.prog 54 #[.slice (some ⟨b, off, none⟩) ns.length cap, .int .i64 0] wr fun e w' => e = .returned (.tuple #[.int .i64 ((beh ns 1).1 : Nat), .bool (beh ns 1).2]) ∧ w' = wr) := by
          have := behind_at ns b off cap 0 HM.out (by omega) (by omega) wr hNr
          rw [List.drop_zero, Nat.zero_add] at this
          exact this
        subst hi2
        have hkl := beh_le ns 1
        clear e0 HS
        generalize beh ns 1 = x at *
        obtain ⟨k, y⟩ := x
        simp only at HC HF hkl
        go_wp2_with fail
        refine HC.out.mono ?_
        rintro e w1 ⟨rfl, rfl⟩
        cases y with
        | false =>
          have HF2 : Hid (faultL ns = 2) := by show _ = _; rw [HF.out]; rfl
          clear HF HC
          go_wp2
          go_ret
          exact ⟨by rw [HF2.out]; rfl, hB⟩
        | true =>
          by_cases hk : k < ns.length
          · have HF2 : Hid (faultL ns = 2) := by show _ = _; rw [HF.out, if_neg (by simp; omega)]
            have hk2 : (k : Int) < (ns.length : Int) := by omega
            clear HF HC
            go_wp2
            go_ret
            exact ⟨by rw [HF2.out]; rfl, hB⟩
          · have HF2 : Hid (faultL ns = 0) := by show _ = _; rw [HF.out, if_pos (by simp; omega)]
            have hk2 : ¬ (k : Int) < (ns.length : Int) := by omega
            clear HF HC
            go_wp2
            go_ret
            exact ⟨by rw [HF2.out]; rfl, hB⟩
set_option maxHeartbeats 1000000 in
theorem check_nil (a : Option Addr) (cap : Nat) (w : World) :
    Calls Tryd.prog 26 #[.slice a 0 cap] w fun e w' => e = .returned (errV 2) ∧ Below w.heap.size w w' := by
  go_enter Tryd.func26, Tryd.ntmps26
  go_wp2_with fail
  go_loop [14] (fun v => v = .int .i64 0) (fun _ => 0)
  case atStart => rfl
  case round =>
    subst hrel
    go_wp2_with fail
    refine (behind_nil a cap w).mono ?_
    rintro e w1 ⟨rfl, rfl⟩
    go_wp2
    go_ret
    exact ⟨rfl, Below.refl _ _⟩
theorem rcheck_any (ns : List Nd) (v : Value) (w : World) (hN : NsIn w v ns) :
    Calls Tryd.prog 26 #[v] w fun e w' => e = .returned (errV (faultL ns)) ∧ Below w.heap.size w w' := by
  obtain ⟨a, cap, rfl, hm, h | ⟨b, off, rfl, hlt, hn⟩⟩ := hN
  · subst h
    exact check_nil a cap w
  · by_cases h0 : 0 < ns.length
    · exact check_at ns b off cap hm w hlt hn h0
    · have : ns = [] := List.eq_nil_of_length_eq_zero (by omega)
      subst this
      exact check_nil _ cap w
end Go.Proofs.YtajkkmnojfghoaaDoor
