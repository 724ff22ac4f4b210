/- The law RexIs: from what package rex answers. Package rex: End; what is asked of package rex. Package mean: second, reading, check. Package mean: look, at the leaves but Byte. (Made by wip/tools/genlk.py.) Package mean: behind. -/
import Derived.Test.YtajkkmnojfghoaaDoorY04
import Derived.Test.YtajkkmnojfghoaaDoorY11
import Derived.Test.YtajkkmnojfghoaaDoorY03
import Derived.Test.YtajkkmnojfghoaaDoorY10
import Derived.Test.YtajkkmnojfghoaaDoorY09
namespace Go.Proofs.YtajkkmnojfghoaaDoor
set_option linter.unusedSimpArgs false
set_option linter.unusedVariables false
set_option maxRecDepth 100000
open Go.RowKit

/-- What End answers: the place, and the fault. -/
def endN (ns : List Nd) (i : Int) : Int := if faultL ns = 0 ∧ 0 ≤ i ∧ i < ns.length then endI (endE ns i.toNat) else 0
def endErr (ns : List Nd) (i : Int) : Int := if faultL ns = 0 then (if 0 ≤ i ∧ i < ns.length then 0 else 1) else faultL ns
/-- What the document asks of package rex. -/
structure RexC : Prop extends RexT where
  check : ∀ ns v w, NsIn w v ns → (∀ n ∈ ns, n.wf) → Calls Tryd.prog 26 #[v] w fun e w' => e = .returned (errV (faultL ns)) ∧ Below w.heap.size w w'
  ends : ∀ ns v (i : Int) w, NsIn w v ns → (∀ n ∈ ns, n.wf) → Calls Tryd.prog 33 #[v, .int .i64 i] w fun e w' => e = .returned (.tuple #[.int .i64 (endN ns i), errV (endErr ns i)]) ∧ Below w.heap.size w w'
theorem rexEnd_in (ns : List Nd) (i : Int) (h : faultL ns = 0) (h1 : 0 ≤ i) (h2 : i < ns.length) : endN ns i = endI (endE ns i.toNat) ∧ endErr ns i = 0 := by
  simp [endN, endErr, h, h1, h2]
theorem rexEnd_out (ns : List Nd) (i : Int) (h : faultL ns = 0) (h1 : ¬ (0 ≤ i ∧ i < ns.length)) : endN ns i = 0 ∧ endErr ns i = 1 := by
  rw [endN, endErr, if_neg (fun h2 => h1 h2.2), if_pos h, if_neg h1]
  exact ⟨rfl, rfl⟩
theorem rexEnd_bad (ns : List Nd) (i : Int) (h : ¬ faultL ns = 0) : endN ns i = 0 ∧ endErr ns i = faultL ns := by
  rw [endN, endErr, if_neg (fun h2 => h h2.1), if_neg h]
  exact ⟨rfl, rfl⟩
set_option maxHeartbeats 4000000 in
theorem rexIs_bad (R : RexC) (ns : List Nd) (v : Value) (i : Int) (w : World) (hN : NsIn w v ns) (hw : ∀ n ∈ ns, n.wf) (hE : w.cell? ⟨0, 0, none⟩ = some (rty 28)) (h0 : 0 < w.heap.size) (hf : ¬ faultL ns = 0) :
    Calls Tryd.prog 4 #[v, .int .i64 i] w fun e w' => e = .returned (.bool true) ∧ Below w.heap.size w w' := by
  have HO : Hid (NdOk ns) := fun n hn => C4.wf_ok (hw n hn).2
  have H0 : Hid _ := h0
  have S0 : Hid (Stay w w) := ⟨Below.refl _ _, hE⟩
  obtain ⟨c1, c2⟩ := rexEnd_bad ns i hf
  have C1 : Hid (∀ w', Below w.heap.size w w' → Calls Tryd.prog 26 #[v] w' fun e w'' => e = .returned (errV (faultL ns)) ∧ Below w'.heap.size w' w'') := fun w' hb => R.check ns v w' (hN.below hb) hw
  have C2 : Hid (∀ w', Below w.heap.size w w' → Calls Tryd.prog 29 #[v] w' fun e w'' => e = .returned (.tuple #[.bool false, errV (faultL ns)]) ∧ Below w'.heap.size w' w'') := fun w' hb => by
    have := R.empty ns v w' (hN.below hb) hw
    rw [decide_eq_false hf, Bool.false_and] at this
    exact this
  have C3 : Hid (∀ w', Below w.heap.size w w' → Calls Tryd.prog 30 #[v] w' fun e w'' => ∃ u, e = .returned (.tuple #[u, errV (faultL ns)]) ∧ Below w'.heap.size w' w'' ∧ NsIn w'' u []) := fun w' hb => by
    have := R.turn ns v w' (hN.below hb) hw
    rw [if_neg hf] at this
    exact this
  have C4 : Hid (∀ w', Below w.heap.size w w' → Calls Tryd.prog 33 #[v, .int .i64 i] w' fun e w'' => e = .returned (.tuple #[.int .i64 0, errV (faultL ns)]) ∧ Below w'.heap.size w' w'') := fun w' hb => by
    have := R.ends ns v i w' (hN.below hb) hw
    rw [c1, c2] at this
    exact this
  have CF : Hid _ := fault_any ns HO.out v w hN
  obtain ⟨a, cap, rfl, hm⟩ := nsIn_form hN
  have pf : (faultL ns == 0) = false := by simp [hf]
  clear hw R hN hE h0 c1 c2 hf
  generalize faultL ns = ft at *
  go_enter Tryd.func4, Tryd.ntmps4
  go_wp2_with fail
  refine Calls.mono (CF.out) ?_
  rintro e w1 ⟨rfl, hb⟩
  have S1 : Hid (Stay w w1) := S0.out.more H0.out hb
  clear hb
  go_wp2_with fail
  refine Calls.mono (C1.out _ S1.out.b) ?_
  rintro e w2 ⟨rfl, hb⟩
  have S2 : Hid (Stay w w2) := S1.out.more H0.out hb
  clear hb
  go_wp2_with fail
  refine Calls.mono (error_self _ _ S2.out.e) ?_
  rintro e w3 ⟨rfl, hb⟩
  have S3 : Hid (Stay w w3) := S2.out.more H0.out hb
  clear hb
  go_wp2_with fail
  refine Calls.mono (C2.out _ S3.out.b) ?_
  rintro e w4 ⟨rfl, hb⟩
  have S4 : Hid (Stay w w4) := S3.out.more H0.out hb
  clear hb
  go_wp2_with fail
  refine Calls.mono (error_self _ _ S4.out.e) ?_
  rintro e w5 ⟨rfl, hb⟩
  have S5 : Hid (Stay w w5) := S4.out.more H0.out hb
  clear hb
  go_wp2_with fail
  refine Calls.mono (C3.out _ S5.out.b) ?_
  rintro e w6 ⟨u, rfl, hb, hu⟩
  have S6 : Hid (Stay w w6) := S5.out.more H0.out hb
  have U6u : Hid (NsIn w6 u []) := hu
  clear hb hu
  go_wp2_with fail
  refine Calls.mono (error_self _ _ S6.out.e) ?_
  rintro e w7 ⟨rfl, hb⟩
  have S7 : Hid (Stay w w7) := S6.out.more H0.out hb
  have U7u : Hid (NsIn w7 u []) := NsIn.below U6u.out hb
  clear hb
  have CN : Hid _ := nodes_any [] [] u (.slice none 0 0) w7 U7u.out (nsIn_nil _)
  rw [nsEq_refl] at CN
  go_wp2_with fail
  refine Calls.mono (CN.out) ?_
  rintro e w8 ⟨rfl, hb⟩
  have S8 : Hid (Stay w w8) := S7.out.more H0.out hb
  clear hb
  go_wp2_with fail
  refine Calls.mono (C4.out _ S8.out.b) ?_
  rintro e w9 ⟨rfl, hb⟩
  have S9 : Hid (Stay w w9) := S8.out.more H0.out hb
  clear hb
  go_wp2_with fail
  refine Calls.mono (error_self _ _ S9.out.e) ?_
  rintro e w10 ⟨rfl, hb⟩
  have S10 : Hid (Stay w w10) := S9.out.more H0.out hb
  clear hb
  go_wp2
  go_ret
  exact ⟨rfl, S10.out.b⟩
set_option maxHeartbeats 4000000 in
theorem rexIs_in (R : RexC) (ns : List Nd) (v : Value) (i : Int) (w : World) (hN : NsIn w v ns) (hw : ∀ n ∈ ns, n.wf) (hE : w.cell? ⟨0, 0, none⟩ = some (rty 28)) (h0 : 0 < w.heap.size) (hf : faultL ns = 0) (h1 : 0 ≤ i) (h2 : i < ns.length) :
    Calls Tryd.prog 4 #[v, .int .i64 i] w fun e w' => e = .returned (.bool true) ∧ Below w.heap.size w w' := by
  have HO : Hid (NdOk ns) := fun n hn => C4.wf_ok (hw n hn).2
  have H0 : Hid _ := h0
  have S0 : Hid (Stay w w) := ⟨Below.refl _ _, hE⟩
  obtain ⟨c1, c2⟩ := rexEnd_in ns i hf h1 h2
  obtain ⟨hl, _, hv⟩ := (faultL_zero ns).1 hf
  have C1 : Hid (∀ w', Below w.heap.size w w' → Calls Tryd.prog 26 #[v] w' fun e w'' => e = .returned (errV 0) ∧ Below w'.heap.size w' w'') := fun w' hb => by
    have := R.check ns v w' (hN.below hb) hw
    rw [hf] at this
    exact this
  have C2 : Hid (∀ w', Below w.heap.size w w' → Calls Tryd.prog 29 #[v] w' fun e w'' => e = .returned (.tuple #[.bool (empE ns), errV 0]) ∧ Below w'.heap.size w' w'') := fun w' hb => by
    have := R.empty ns v w' (hN.below hb) hw
    rw [decide_eq_true hf, Bool.true_and, hf] at this
    exact this
  have C3 : Hid (∀ w', Below w.heap.size w w' → Calls Tryd.prog 30 #[v] w' fun e w'' => ∃ u, e = .returned (.tuple #[u, errV 0]) ∧ Below w'.heap.size w' w'' ∧ NsIn w'' u (turE ns)) := fun w' hb => by
    have := R.turn ns v w' (hN.below hb) hw
    rw [if_pos hf, hf] at this
    exact this
  have C4 : Hid (∀ w', Below w.heap.size w w' → Calls Tryd.prog 33 #[v, .int .i64 i] w' fun e w'' => e = .returned (.tuple #[.int .i64 (endI (endE ns i.toNat)), errV 0]) ∧ Below w'.heap.size w' w'') := fun w' hb => by
    have := R.ends ns v i w' (hN.below hb) hw
    rw [c1, c2] at this
    exact this
  have CF : Hid (Calls Tryd.prog 25 #[v] w fun e w' => e = .returned (.int .i64 0) ∧ Below w.heap.size w w') := by
    have := fault_any ns HO.out v w hN
    rw [hf] at this
    exact this
  have R1 : Hid (∀ w', Below w.heap.size w w' → Calls Tryd.prog 27 #[v, .int .i64 0] w' fun e w'' => e = .returned (.bool (empE ns)) ∧ w'' = w') := fun w' hb => emptyOf_any ns v w' (hN.below hb) hv
  have R2 : Hid (∀ w', Below w.heap.size w w' → Calls Tryd.prog 28 #[v, .int .i64 0] w' fun e w'' => ∃ u, e = .returned u ∧ Below w'.heap.size w' w'' ∧ NsIn w'' u (turE ns)) := fun w' hb =>
    (turnOf_any ns v w' (hN.below hb) (by omega) hv).mono fun e w'' ⟨u, h1, h2, h3⟩ => ⟨u, h1, h2, h3.isIn (by rw [turE_len ns hv]; unfold maxLen; omega)⟩
  obtain ⟨j, rfl⟩ : ∃ j : Nat, i = (j : Int) := ⟨i.toNat, by omega⟩
  rw [Int.toNat_natCast] at C4
  have R3 : Hid (∀ w', Below w.heap.size w w' → Calls Tryd.prog 32 #[v, .int .i64 (j : Int)] w' fun e w'' => e = .returned (.int .i64 (endI (endE ns j))) ∧ w'' = w') := fun w' hb => endOf_any ns v j w' (hN.below hb)
  obtain ⟨a, cap, rfl, hm⟩ := nsIn_form hN
  clear hw R hN hE h0 c1 c2 hf hv
  generalize empE ns = em at *
  generalize endI (endE ns j) = en at *
  go_enter Tryd.func4, Tryd.ntmps4
  go_wp2_with fail
  refine Calls.mono (CF.out) ?_
  rintro e w1 ⟨rfl, hb⟩
  have S1 : Hid (Stay w w1) := S0.out.more H0.out hb
  clear hb
  go_wp2_with fail
  refine Calls.mono (C1.out _ S1.out.b) ?_
  rintro e w2 ⟨rfl, hb⟩
  have S2 : Hid (Stay w w2) := S1.out.more H0.out hb
  clear hb
  go_wp2_with fail
  refine Calls.mono (error_self _ _ S2.out.e) ?_
  rintro e w3 ⟨rfl, hb⟩
  have S3 : Hid (Stay w w3) := S2.out.more H0.out hb
  clear hb
  go_wp2_with fail
  refine Calls.mono (R1.out _ S3.out.b) ?_
  rintro e w3 ⟨rfl, rfl⟩
  go_wp2_with fail
  refine Calls.mono (R2.out _ S3.out.b) ?_
  rintro e w4 ⟨t, rfl, hb, hu⟩
  have S4 : Hid (Stay w w4) := S3.out.more H0.out hb
  have U4t : Hid (NsIn w4 t (turE ns)) := hu
  clear hb hu
  go_wp2_with fail
  refine Calls.mono (C2.out _ S4.out.b) ?_
  rintro e w5 ⟨rfl, hb⟩
  have S5 : Hid (Stay w w5) := S4.out.more H0.out hb
  have U5t : Hid (NsIn w5 t (turE ns)) := NsIn.below U4t.out hb
  clear hb
  go_wp2_with fail
  refine Calls.mono (error_self _ _ S5.out.e) ?_
  rintro e w6 ⟨rfl, hb⟩
  have S6 : Hid (Stay w w6) := S5.out.more H0.out hb
  have U6t : Hid (NsIn w6 t (turE ns)) := NsIn.below U5t.out hb
  clear hb
  go_wp2_with fail
  refine Calls.mono (C3.out _ S6.out.b) ?_
  rintro e w7 ⟨u, rfl, hb, hu⟩
  have S7 : Hid (Stay w w7) := S6.out.more H0.out hb
  have U7t : Hid (NsIn w7 t (turE ns)) := NsIn.below U6t.out hb
  have U7u : Hid (NsIn w7 u (turE ns)) := hu
  clear hb hu
  go_wp2_with fail
  refine Calls.mono (error_self _ _ S7.out.e) ?_
  rintro e w8 ⟨rfl, hb⟩
  have S8 : Hid (Stay w w8) := S7.out.more H0.out hb
  have U8t : Hid (NsIn w8 t (turE ns)) := NsIn.below U7t.out hb
  have U8u : Hid (NsIn w8 u (turE ns)) := NsIn.below U7u.out hb
  clear hb
  have CN : Hid _ := nodes_any (turE ns) (turE ns) u t w8 U8u.out U8t.out
  rw [nsEq_refl] at CN
  go_wp2_with fail
  refine Calls.mono (CN.out) ?_
  rintro e w9 ⟨rfl, hb⟩
  have S9 : Hid (Stay w w9) := S8.out.more H0.out hb
  clear hb
  go_wp2_with fail
  refine Calls.mono (R3.out _ S9.out.b) ?_
  rintro e w9 ⟨rfl, rfl⟩
  go_wp2_with fail
  refine Calls.mono (C4.out _ S9.out.b) ?_
  rintro e w10 ⟨rfl, hb⟩
  have S10 : Hid (Stay w w10) := S9.out.more H0.out hb
  clear hb
  go_wp2_with fail
  refine Calls.mono (error_self _ _ S10.out.e) ?_
  rintro e w11 ⟨rfl, hb⟩
  have S11 : Hid (Stay w w11) := S10.out.more H0.out hb
  clear hb
  go_wp2
  go_ret
  exact ⟨rfl, S11.out.b⟩
set_option maxHeartbeats 4000000 in
theorem rexIs_out (R : RexC) (ns : List Nd) (v : Value) (i : Int) (w : World) (hN : NsIn w v ns) (hw : ∀ n ∈ ns, n.wf) (hE : w.cell? ⟨0, 0, none⟩ = some (rty 28)) (h0 : 0 < w.heap.size) (hf : faultL ns = 0) (h1 : ¬ (0 ≤ i ∧ i < ns.length)) :
    Calls Tryd.prog 4 #[v, .int .i64 i] w fun e w' => e = .returned (.bool true) ∧ Below w.heap.size w w' := by
  have HO : Hid (NdOk ns) := fun n hn => C4.wf_ok (hw n hn).2
  have H0 : Hid _ := h0
  have S0 : Hid (Stay w w) := ⟨Below.refl _ _, hE⟩
  obtain ⟨c1, c2⟩ := rexEnd_out ns i hf h1
  obtain ⟨hl, _, hv⟩ := (faultL_zero ns).1 hf
  have C1 : Hid (∀ w', Below w.heap.size w w' → Calls Tryd.prog 26 #[v] w' fun e w'' => e = .returned (errV 0) ∧ Below w'.heap.size w' w'') := fun w' hb => by
    have := R.check ns v w' (hN.below hb) hw
    rw [hf] at this
    exact this
  have C2 : Hid (∀ w', Below w.heap.size w w' → Calls Tryd.prog 29 #[v] w' fun e w'' => e = .returned (.tuple #[.bool (empE ns), errV 0]) ∧ Below w'.heap.size w' w'') := fun w' hb => by
    have := R.empty ns v w' (hN.below hb) hw
    rw [decide_eq_true hf, Bool.true_and, hf] at this
    exact this
  have C3 : Hid (∀ w', Below w.heap.size w w' → Calls Tryd.prog 30 #[v] w' fun e w'' => ∃ u, e = .returned (.tuple #[u, errV 0]) ∧ Below w'.heap.size w' w'' ∧ NsIn w'' u (turE ns)) := fun w' hb => by
    have := R.turn ns v w' (hN.below hb) hw
    rw [if_pos hf, hf] at this
    exact this
  have C4 : Hid (∀ w', Below w.heap.size w w' → Calls Tryd.prog 33 #[v, .int .i64 i] w' fun e w'' => e = .returned (.tuple #[.int .i64 (0), errV 1]) ∧ Below w'.heap.size w' w'') := fun w' hb => by
    have := R.ends ns v i w' (hN.below hb) hw
    rw [c1, c2] at this
    exact this
  have CF : Hid (Calls Tryd.prog 25 #[v] w fun e w' => e = .returned (.int .i64 0) ∧ Below w.heap.size w w') := by
    have := fault_any ns HO.out v w hN
    rw [hf] at this
    exact this
  have R1 : Hid (∀ w', Below w.heap.size w w' → Calls Tryd.prog 27 #[v, .int .i64 0] w' fun e w'' => e = .returned (.bool (empE ns)) ∧ w'' = w') := fun w' hb => emptyOf_any ns v w' (hN.below hb) hv
  have R2 : Hid (∀ w', Below w.heap.size w w' → Calls Tryd.prog 28 #[v, .int .i64 0] w' fun e w'' => ∃ u, e = .returned u ∧ Below w'.heap.size w' w'' ∧ NsIn w'' u (turE ns)) := fun w' hb =>
    (turnOf_any ns v w' (hN.below hb) (by omega) hv).mono fun e w'' ⟨u, h1, h2, h3⟩ => ⟨u, h1, h2, h3.isIn (by rw [turE_len ns hv]; unfold maxLen; omega)⟩
  obtain ⟨a, cap, rfl, hm⟩ := nsIn_form hN
  by_cases g1 : i < 0
  · clear h1
    clear hw R hN hE h0 c1 c2 hf hv
    generalize empE ns = em at *
    go_enter Tryd.func4, Tryd.ntmps4
    go_wp2_with fail
    refine Calls.mono (CF.out) ?_
    rintro e w1 ⟨rfl, hb⟩
    have S1 : Hid (Stay w w1) := S0.out.more H0.out hb
    clear hb
    go_wp2_with fail
    refine Calls.mono (C1.out _ S1.out.b) ?_
    rintro e w2 ⟨rfl, hb⟩
    have S2 : Hid (Stay w w2) := S1.out.more H0.out hb
    clear hb
    go_wp2_with fail
    refine Calls.mono (error_self _ _ S2.out.e) ?_
    rintro e w3 ⟨rfl, hb⟩
    have S3 : Hid (Stay w w3) := S2.out.more H0.out hb
    clear hb
    go_wp2_with fail
    refine Calls.mono (R1.out _ S3.out.b) ?_
    rintro e w3 ⟨rfl, rfl⟩
    go_wp2_with fail
    refine Calls.mono (R2.out _ S3.out.b) ?_
    rintro e w4 ⟨t, rfl, hb, hu⟩
    have S4 : Hid (Stay w w4) := S3.out.more H0.out hb
    have U4t : Hid (NsIn w4 t (turE ns)) := hu
    clear hb hu
    go_wp2_with fail
    refine Calls.mono (C2.out _ S4.out.b) ?_
    rintro e w5 ⟨rfl, hb⟩
    have S5 : Hid (Stay w w5) := S4.out.more H0.out hb
    have U5t : Hid (NsIn w5 t (turE ns)) := NsIn.below U4t.out hb
    clear hb
    go_wp2_with fail
    refine Calls.mono (error_self _ _ S5.out.e) ?_
    rintro e w6 ⟨rfl, hb⟩
    have S6 : Hid (Stay w w6) := S5.out.more H0.out hb
    have U6t : Hid (NsIn w6 t (turE ns)) := NsIn.below U5t.out hb
    clear hb
    go_wp2_with fail
    refine Calls.mono (C3.out _ S6.out.b) ?_
    rintro e w7 ⟨u, rfl, hb, hu⟩
    have S7 : Hid (Stay w w7) := S6.out.more H0.out hb
    have U7t : Hid (NsIn w7 t (turE ns)) := NsIn.below U6t.out hb
    have U7u : Hid (NsIn w7 u (turE ns)) := hu
    clear hb hu
    go_wp2_with fail
    refine Calls.mono (error_self _ _ S7.out.e) ?_
    rintro e w8 ⟨rfl, hb⟩
    have S8 : Hid (Stay w w8) := S7.out.more H0.out hb
    have U8t : Hid (NsIn w8 t (turE ns)) := NsIn.below U7t.out hb
    have U8u : Hid (NsIn w8 u (turE ns)) := NsIn.below U7u.out hb
    clear hb
    have CN : Hid _ := nodes_any (turE ns) (turE ns) u t w8 U8u.out U8t.out
    rw [nsEq_refl] at CN
    go_wp2_with fail
    refine Calls.mono (CN.out) ?_
    rintro e w9 ⟨rfl, hb⟩
    have S9 : Hid (Stay w w9) := S8.out.more H0.out hb
    clear hb
    go_wp2_with fail
    refine Calls.mono (C4.out _ S9.out.b) ?_
    rintro e w10 ⟨rfl, hb⟩
    have S10 : Hid (Stay w w10) := S9.out.more H0.out hb
    clear hb
    go_wp2_with fail
    refine Calls.mono (error_self _ _ S10.out.e) ?_
    rintro e w11 ⟨rfl, hb⟩
    have S11 : Hid (Stay w w11) := S10.out.more H0.out hb
    clear hb
    go_wp2
    go_ret
    exact ⟨rfl, S11.out.b⟩
  · have g2 : ¬ i < (ns.length : Int) := by omega
    clear h1
    clear hw R hN hE h0 c1 c2 hf hv
    generalize empE ns = em at *
    go_enter Tryd.func4, Tryd.ntmps4
    go_wp2_with fail
    refine Calls.mono (CF.out) ?_
    rintro e w1 ⟨rfl, hb⟩
    have S1 : Hid (Stay w w1) := S0.out.more H0.out hb
    clear hb
    go_wp2_with fail
    refine Calls.mono (C1.out _ S1.out.b) ?_
    rintro e w2 ⟨rfl, hb⟩
    have S2 : Hid (Stay w w2) := S1.out.more H0.out hb
    clear hb
    go_wp2_with fail
    refine Calls.mono (error_self _ _ S2.out.e) ?_
    rintro e w3 ⟨rfl, hb⟩
    have S3 : Hid (Stay w w3) := S2.out.more H0.out hb
    clear hb
    go_wp2_with fail
    refine Calls.mono (R1.out _ S3.out.b) ?_
    rintro e w3 ⟨rfl, rfl⟩
    go_wp2_with fail
    refine Calls.mono (R2.out _ S3.out.b) ?_
    rintro e w4 ⟨t, rfl, hb, hu⟩
    have S4 : Hid (Stay w w4) := S3.out.more H0.out hb
    have U4t : Hid (NsIn w4 t (turE ns)) := hu
    clear hb hu
    go_wp2_with fail
    refine Calls.mono (C2.out _ S4.out.b) ?_
    rintro e w5 ⟨rfl, hb⟩
    have S5 : Hid (Stay w w5) := S4.out.more H0.out hb
    have U5t : Hid (NsIn w5 t (turE ns)) := NsIn.below U4t.out hb
    clear hb
    go_wp2_with fail
    refine Calls.mono (error_self _ _ S5.out.e) ?_
    rintro e w6 ⟨rfl, hb⟩
    have S6 : Hid (Stay w w6) := S5.out.more H0.out hb
    have U6t : Hid (NsIn w6 t (turE ns)) := NsIn.below U5t.out hb
    clear hb
    go_wp2_with fail
    refine Calls.mono (C3.out _ S6.out.b) ?_
    rintro e w7 ⟨u, rfl, hb, hu⟩
    have S7 : Hid (Stay w w7) := S6.out.more H0.out hb
    have U7t : Hid (NsIn w7 t (turE ns)) := NsIn.below U6t.out hb
    have U7u : Hid (NsIn w7 u (turE ns)) := hu
    clear hb hu
    go_wp2_with fail
    refine Calls.mono (error_self _ _ S7.out.e) ?_
    rintro e w8 ⟨rfl, hb⟩
    have S8 : Hid (Stay w w8) := S7.out.more H0.out hb
    have U8t : Hid (NsIn w8 t (turE ns)) := NsIn.below U7t.out hb
    have U8u : Hid (NsIn w8 u (turE ns)) := NsIn.below U7u.out hb
    clear hb
    have CN : Hid _ := nodes_any (turE ns) (turE ns) u t w8 U8u.out U8t.out
    rw [nsEq_refl] at CN
    go_wp2_with fail
    refine Calls.mono (CN.out) ?_
    rintro e w9 ⟨rfl, hb⟩
    have S9 : Hid (Stay w w9) := S8.out.more H0.out hb
    clear hb
    go_wp2_with fail
    refine Calls.mono (C4.out _ S9.out.b) ?_
    rintro e w10 ⟨rfl, hb⟩
    have S10 : Hid (Stay w w10) := S9.out.more H0.out hb
    clear hb
    go_wp2_with fail
    refine Calls.mono (error_self _ _ S10.out.e) ?_
    rintro e w11 ⟨rfl, hb⟩
    have S11 : Hid (Stay w w11) := S10.out.more H0.out hb
    clear hb
    go_wp2
    go_ret
    exact ⟨rfl, S11.out.b⟩
theorem rexIs_any (R : RexC) (ns : List Nd) (v : Value) (i : Int) (w : World) (hN : NsIn w v ns) (hw : ∀ n ∈ ns, n.wf) (hE : w.cell? ⟨0, 0, none⟩ = some (rty 28)) (h0 : 0 < w.heap.size) :
    Calls Tryd.prog 4 #[v, .int .i64 i] w fun e w' => e = .returned (.bool true) ∧ Below w.heap.size w w' := by
  by_cases hf : faultL ns = 0
  · by_cases h1 : 0 ≤ i ∧ i < ns.length
    · exact rexIs_in R ns v i w hN hw hE h0 hf h1.1 h1.2
    · exact rexIs_out R ns v i w hN hw hE h0 hf h1
  · exact rexIs_bad R ns v i w hN hw hE h0 hf
end Go.Proofs.YtajkkmnojfghoaaDoor
namespace Go.Proofs.YtajkkmnojfghoaaDoor
set_option linter.unusedSimpArgs false
set_option linter.unusedVariables false
set_option maxRecDepth 100000
open Go.RowKit

set_option maxHeartbeats 4000000 in
theorem rend_any (ns : List Nd) (v : Value) (i : Int) (w : World) (hN : NsIn w v ns) :
    Calls Tryd.prog 33 #[v, .int .i64 i] w fun e w' => e = .returned (.tuple #[.int .i64 (endN ns i), errV (endErr ns i)]) ∧ Below w.heap.size w w' := by
  have CC : Hid _ := rcheck_any ns v w hN
  by_cases hf : faultL ns = 0
  · obtain ⟨hl, hr, hv⟩ := (faultL_zero ns).1 hf
    by_cases hi : 0 ≤ i ∧ i < ns.length
    · obtain ⟨c1, c2⟩ := rexEnd_in ns i hf hi.1 hi.2
      rw [c1, c2]
      obtain ⟨j, rfl⟩ : ∃ j : Nat, i = (j : Int) := ⟨i.toNat, by omega⟩
      rw [Int.toNat_natCast]
      obtain ⟨k, hk⟩ := part_at ns hv j (by omega)
      obtain ⟨a, cap, rfl, hm, h | ⟨b, off, rfl, hlt, hn⟩⟩ := hN
      · subst h; rw [endE_nil] at hv; cases hv
      have C2 : Hid (∀ w', Below w.heap.size w w' → Calls Tryd.prog 54 #[.slice (some ⟨b, off, none⟩) ns.length cap, .int .i64 j] w' fun e w'' => e = .returned (.tuple #[.int .i64 k, .bool true]) ∧ w'' = w') := fun w' hb => behind_k ns b off cap hl w' (hn.below hb hlt) j _ k hk
      rw [hk, show endI (some k) = (k : Int) from rfl]
      rw [hf] at CC
      rw [show errV 0 = .nilIface from rfl] at CC ⊢
      have i0 : (0 : Int) ≤ (j : Int) := hi.1
      have i1 : (j : Int) < (ns.length : Int) := hi.2
      clear hr hv hn hf hk c1 c2 hi
      go_enter Tryd.func33, Tryd.ntmps33
      go_wp2_with fail
      refine Calls.mono CC.out ?_
      rintro e w1 ⟨rfl, hb⟩
      have B1 : Hid _ := hb
      clear hb
      go_wp2_with fail
      refine Calls.mono (C2.out _ B1.out) ?_
      rintro e w1 ⟨rfl, rfl⟩
      go_wp2
      go_ret2
      exact ⟨rfl, B1.out⟩
    · obtain ⟨c1, c2⟩ := rexEnd_out ns i hf hi
      rw [c1, c2]
      obtain ⟨a, cap, rfl, hm, _⟩ := hN
      rw [hf] at CC
      rw [show errV 0 = .nilIface from rfl] at CC
      rw [show errV 1 = .iface 25 (.int .i64 1) from rfl]
      clear hr hv hf c1 c2
      by_cases i0 : i < 0
      · clear hi
        go_enter Tryd.func33, Tryd.ntmps33
        go_wp2_with fail
        refine Calls.mono CC.out ?_
        rintro e w1 ⟨rfl, hb⟩
        have B1 : Hid _ := hb
        clear hb
        go_wp2
        go_ret2
        exact ⟨rfl, B1.out⟩
      · have i1 : (ns.length : Int) ≤ i := by omega
        clear hi
        go_enter Tryd.func33, Tryd.ntmps33
        go_wp2_with fail
        refine Calls.mono CC.out ?_
        rintro e w1 ⟨rfl, hb⟩
        have B1 : Hid _ := hb
        clear hb
        go_wp2
        go_ret2
        exact ⟨rfl, B1.out⟩
  · obtain ⟨c1, c2⟩ := rexEnd_bad ns i hf
    rw [c1, c2]
    obtain ⟨a, cap, rfl, hm, _⟩ := hN
    rw [show errV (faultL ns) = .iface 25 (.int .i64 (faultL ns)) from if_neg hf] at CC ⊢
    clear hf c1 c2
    generalize faultL ns = ft at *
    go_enter Tryd.func33, Tryd.ntmps33
    go_wp2_with fail
    refine Calls.mono CC.out ?_
    rintro e w1 ⟨rfl, hb⟩
    have B1 : Hid _ := hb
    clear hb
    go_wp2
    go_ret2
    exact ⟨rfl, B1.out⟩
theorem rexC : RexC where
  empty := fun ns v w hN _ => rempty_any ns v w hN
  turn := fun ns v w hN _ => rturn_any ns v w hN
  check := fun ns v w hN _ => rcheck_any ns v w hN
  ends := fun ns v i w hN _ => rend_any ns v i w hN
end Go.Proofs.YtajkkmnojfghoaaDoor
namespace Go.Proofs.YtajkkmnojfghoaaDoor
set_option linter.unusedSimpArgs false
set_option linter.unusedVariables false
set_option maxRecDepth 100000
open Go.RowKit
set_option maxHeartbeats 1000000 in
theorem second_any {c : Cx} (hc : c.Good) {n : Nd} {a b : Rx} (ha : a.Ok) {p q : List Nd} (hns : c.ns = p ++ (Rx.two n a b).flat ++ q) (w : World) (hA : c.At w) :
    Calls Tryd.prog 100 #[.pointer (some ⟨c.rb, 0, none⟩), .int .i64 (p.length : Int)] w fun e w' => e = .returned (.int .i64 ((p.length + 1 + a.flat.length : Nat) : Int)) ∧ Below w.heap.size w w' := by
  have hl := hc.len
  have h1 := flat_lt hns
  have hN : NsIn w c.v c.ns := ⟨_, _, rfl, by unfold maxLen; omega, Or.inr ⟨c.b, c.off, rfl, Nat.lt_of_lt_of_le hc.blt hA.bel.size, hc.nsAt.below hA.bel hc.blt⟩⟩
  have hns2 : c.ns = (p ++ [n]) ++ a.flat ++ (b.flat ++ q) := by rw [hns]; simp [Rx.flat]
  have hend : endN c.ns ((p.length : Int) + 1) = ((p.length + 1 + a.flat.length : Nat) : Int) ∧ endErr c.ns ((p.length : Int) + 1) = 0 := by
    have hlen : p.length + 1 < c.ns.length := by
      rw [hns2]
      have := a.flat_pos
      simp
      omega
    have := rexEnd_in c.ns ((p.length : Int) + 1) hc.fault (by omega) (by omega)
    refine ⟨?_, this.2⟩
    rw [this.1, show (((p.length : Int) + 1).toNat) = (p ++ [n]).length by simp]
    rw [hns2, endE_mid a ha (p ++ [n]) (b.flat ++ q)]
    simp [endI]
  have C := hid (rend_any c.ns c.v ((p.length : Int) + 1) w hN)
  rw [hend.1, hend.2] at C
  rw [show errV 0 = .nilIface from rfl] at C
  have c0 := hA.c0
  unfold Cx.v at c0 C
  clear hns hns2 hend hN
  go_enter Tryd.func100, Tryd.ntmps100
  go_wp2_with fail
  refine C.out.mono ?_
  rintro e w1 ⟨rfl, hb⟩
  go_wp2
  go_ret
  exact ⟨rfl, hb⟩
set_option maxHeartbeats 1000000 in
theorem mcheck_any (ns : List Nd) (v : Value) (s : ByteArray) (w : World) (hN : NsIn w v ns) (hs : s.size ≤ maxLen) :
    Calls Tryd.prog 63 #[v, .string s] w fun e w' => e = .returned (errV (meanF ns s.size)) ∧ Below w.heap.size w w' := by
  have C := hid (rcheck_any ns v w hN)
  obtain ⟨a, cap, rfl, hm, _⟩ := hN
  unfold meanF
  by_cases hf : faultL ns = 0
  · rw [if_pos hf]
    rw [hf] at C
    rw [show errV 0 = .nilIface from rfl] at C
    by_cases h4 : 400 < s.size
    · rw [if_pos h4]
      rw [show errV 3 = .iface 25 (.int .i64 3) from rfl]
      have h4' : (400 : Int) < (s.size : Int) := by omega
      go_enter Tryd.func63, Tryd.ntmps63
      go_wp2_with fail
      refine C.out.mono ?_
      rintro e w1 ⟨rfl, hb⟩
      go_wp2
      go_ret
      exact ⟨rfl, hb⟩
    · rw [if_neg h4]
      rw [show errV 0 = .nilIface from rfl]
      have h4' : (s.size : Int) ≤ 400 := by omega
      go_enter Tryd.func63, Tryd.ntmps63
      go_wp2_with fail
      refine C.out.mono ?_
      rintro e w1 ⟨rfl, hb⟩
      go_wp2
      go_ret
      exact ⟨rfl, hb⟩
  · rw [if_neg hf]
    rw [show errV (faultL ns) = .iface 25 (.int .i64 (faultL ns)) by unfold errV; rw [if_neg hf]] at C ⊢
    go_enter Tryd.func63, Tryd.ntmps63
    go_wp2_with fail
    refine C.out.mono ?_
    rintro e w1 ⟨rfl, hb⟩
    go_wp2
    go_ret
    exact ⟨rfl, hb⟩
set_option maxHeartbeats 1000000 in
theorem reading_any (a : Option Addr) (l cap : Nat) (s : ByteArray) (w : World) :
    Calls Tryd.prog 65 #[.slice a l cap, .string s] w fun e w' => e = .returned (.pointer (some ⟨w.heap.size + 1, 0, none⟩)) ∧ w' = (w.alloc (.map #[] 0)).alloc (.cells #[.slice a l cap, .string s, .map (some w.heap.size)] 132) := by
  have hmm := @run_makeMap Tryd.prog
  go_enter Tryd.func65, Tryd.ntmps65
  go_wp2
  go_ret
  exact ⟨rfl, rfl⟩
end Go.Proofs.YtajkkmnojfghoaaDoor
namespace Go.Proofs.YtajkkmnojfghoaaDoor
set_option linter.unusedSimpArgs false
set_option linter.unusedVariables false
set_option maxRecDepth 100000
open Go.RowKit
set_option maxHeartbeats 4000000 in
theorem look_begin {c : Cx} (hc : c.Good) (n : Nd)  {p q : List Nd} (hns : c.ns = p ++ (Rx.leaf n).flat ++ q) (hop : n.op = 8) (a : Nat) (ha : a ≤ c.s.size) : LookOk c (Rx.leaf n) p.length a := by
  intro w hA
  have hlen := hc.len
  have hsz := hc.size
  have hpl := flat_lt hns
  have hW := hA.bel.size
  have hA0 := hA.lt
  have hM0 := hA.kn.lt
  have hn : c.ns[p.length]? = some n := by rw [hns, List.append_assoc, List.getElem?_append_right (Nat.le_refl _)]; simp [Rx.flat]
  have hZ : Hp (w.alloc (.cells #[.int .u64 0, .int .u64 0, .int .u64 0, .int .u64 0, .int .u64 0, .int .u64 0, .int .u64 0] 102)) w.heap.size noP := Hp.zero _ _ rfl
  have hA1 : c.At (w.alloc (.cells #[.int .u64 0, .int .u64 0, .int .u64 0, .int .u64 0, .int .u64 0, .int .u64 0, .int .u64 0] 102)) := hA.alloc _
  have hG1 : w.grownBy (w.alloc (.cells #[.int .u64 0, .int .u64 0, .int .u64 0, .int .u64 0, .int .u64 0, .int .u64 0, .int .u64 0] 102)) (some c.M) := World.grownBy_alloc _ _ _
  have hz1 : (w.alloc (.cells #[.int .u64 0, .int .u64 0, .int .u64 0, .int .u64 0, .int .u64 0, .int .u64 0, .int .u64 0] 102)).heap.size = w.heap.size + 1 := by simp
  obtain ⟨n0, n1, n2, n3, n4⟩ := (hc.nsAt.below hA1.bel hc.blt) _ _ hn
  rw [hop] at n0
  have c0 := hA1.c0
  have c1 := hA1.c1
  unfold Cx.v at c0
  have i0 : (0 : Int) ≤ (p.length : Int) := by omega
  have i1 : (p.length : Int) < (c.ns.length : Int) := by omega
  have s0 : (c.s.size : Int) ≤ 400 := by omega
  have hres : fs c.S (.leaf n) a = whenP ((a : Int) == 0) a := by
    rw [fs_begin n a hop]
    congr 1
    rw [Bool.eq_iff_iff]; simp
  clear hn hns hop n1 n2 n3 n4
  go_enter Tryd.func86, Tryd.ntmps86
  go_wp2_with fail
  refine (pwhen_any ((a : Int) == 0) a (by omega) _).mono ?_
  rintro e w1 ⟨rfl, hb⟩
  have hZ1 := hZ.below hb hZ.lt
  have hA2 := hA1.below hb
  have hG2 : w.grownBy w1 (some c.M) := hG1.trans (below_grown hb _)
  clear hZ n0 c0 c1
  obtain ⟨d0, d1, d2, d3, d4, d5, d6⟩ := hZ1.all
  obtain ⟨f0, f1, f2, f3, f4, f5, f6⟩ := hZ1.frz
  unfold plV
  go_wp2
  have hq := hZ1.put7 (whenP ((a : Int) == 0) a)
  obtain ⟨e0, e1, e2, e3, e4, e5, e6⟩ := hq.all
  refine bodyPost_ret (v := plV (whenP ((a : Int) == 0) a)) (by simp [results, Tryd.results86, go_sem, plV, e0, e1, e2, e3, e4, e5, e6]) rfl ⟨by rw [hres], hA2.turn (grown_put7 _ _ _) (fun r e => by cases e; exact ⟨hW, by omega, by omega⟩), grown_new hG2 (grown_put7 _ _ _) (Nat.le_refl _)⟩
set_option maxHeartbeats 4000000 in
theorem look_end {c : Cx} (hc : c.Good) (n : Nd)  {p q : List Nd} (hns : c.ns = p ++ (Rx.leaf n).flat ++ q) (hop : n.op = 9) (a : Nat) (ha : a ≤ c.s.size) : LookOk c (Rx.leaf n) p.length a := by
  intro w hA
  have hlen := hc.len
  have hsz := hc.size
  have hpl := flat_lt hns
  have hW := hA.bel.size
  have hA0 := hA.lt
  have hM0 := hA.kn.lt
  have hn : c.ns[p.length]? = some n := by rw [hns, List.append_assoc, List.getElem?_append_right (Nat.le_refl _)]; simp [Rx.flat]
  have hZ : Hp (w.alloc (.cells #[.int .u64 0, .int .u64 0, .int .u64 0, .int .u64 0, .int .u64 0, .int .u64 0, .int .u64 0] 102)) w.heap.size noP := Hp.zero _ _ rfl
  have hA1 : c.At (w.alloc (.cells #[.int .u64 0, .int .u64 0, .int .u64 0, .int .u64 0, .int .u64 0, .int .u64 0, .int .u64 0] 102)) := hA.alloc _
  have hG1 : w.grownBy (w.alloc (.cells #[.int .u64 0, .int .u64 0, .int .u64 0, .int .u64 0, .int .u64 0, .int .u64 0, .int .u64 0] 102)) (some c.M) := World.grownBy_alloc _ _ _
  have hz1 : (w.alloc (.cells #[.int .u64 0, .int .u64 0, .int .u64 0, .int .u64 0, .int .u64 0, .int .u64 0, .int .u64 0] 102)).heap.size = w.heap.size + 1 := by simp
  obtain ⟨n0, n1, n2, n3, n4⟩ := (hc.nsAt.below hA1.bel hc.blt) _ _ hn
  rw [hop] at n0
  have c0 := hA1.c0
  have c1 := hA1.c1
  unfold Cx.v at c0
  have i0 : (0 : Int) ≤ (p.length : Int) := by omega
  have i1 : (p.length : Int) < (c.ns.length : Int) := by omega
  have s0 : (c.s.size : Int) ≤ 400 := by omega
  have hres : fs c.S (.leaf n) a = whenP ((a : Int) == (c.s.size : Int)) a := by
    rw [fs_end n a hop, Cx.S_len]
    congr 1
    rw [Bool.eq_iff_iff]; simp; omega
  clear hn hns hop n1 n2 n3 n4
  go_enter Tryd.func86, Tryd.ntmps86
  go_wp2_with fail
  refine (pwhen_any ((a : Int) == (c.s.size : Int)) a (by omega) _).mono ?_
  rintro e w1 ⟨rfl, hb⟩
  have hZ1 := hZ.below hb hZ.lt
  have hA2 := hA1.below hb
  have hG2 : w.grownBy w1 (some c.M) := hG1.trans (below_grown hb _)
  clear hZ n0 c0 c1
  obtain ⟨d0, d1, d2, d3, d4, d5, d6⟩ := hZ1.all
  obtain ⟨f0, f1, f2, f3, f4, f5, f6⟩ := hZ1.frz
  unfold plV
  go_wp2
  have hq := hZ1.put7 (whenP ((a : Int) == (c.s.size : Int)) a)
  obtain ⟨e0, e1, e2, e3, e4, e5, e6⟩ := hq.all
  refine bodyPost_ret (v := plV (whenP ((a : Int) == (c.s.size : Int)) a)) (by simp [results, Tryd.results86, go_sem, plV, e0, e1, e2, e3, e4, e5, e6]) rfl ⟨by rw [hres], hA2.turn (grown_put7 _ _ _) (fun r e => by cases e; exact ⟨hW, by omega, by omega⟩), grown_new hG2 (grown_put7 _ _ _) (Nat.le_refl _)⟩
set_option maxHeartbeats 4000000 in
theorem look_empty {c : Cx} (hc : c.Good) (n : Nd)  {p q : List Nd} (hns : c.ns = p ++ (Rx.leaf n).flat ++ q) (hop : n.op = 2) (a : Nat) (ha : a ≤ c.s.size) : LookOk c (Rx.leaf n) p.length a := by
  intro w hA
  have hlen := hc.len
  have hsz := hc.size
  have hpl := flat_lt hns
  have hW := hA.bel.size
  have hA0 := hA.lt
  have hM0 := hA.kn.lt
  have hn : c.ns[p.length]? = some n := by rw [hns, List.append_assoc, List.getElem?_append_right (Nat.le_refl _)]; simp [Rx.flat]
  have hZ : Hp (w.alloc (.cells #[.int .u64 0, .int .u64 0, .int .u64 0, .int .u64 0, .int .u64 0, .int .u64 0, .int .u64 0] 102)) w.heap.size noP := Hp.zero _ _ rfl
  have hA1 : c.At (w.alloc (.cells #[.int .u64 0, .int .u64 0, .int .u64 0, .int .u64 0, .int .u64 0, .int .u64 0, .int .u64 0] 102)) := hA.alloc _
  have hG1 : w.grownBy (w.alloc (.cells #[.int .u64 0, .int .u64 0, .int .u64 0, .int .u64 0, .int .u64 0, .int .u64 0, .int .u64 0] 102)) (some c.M) := World.grownBy_alloc _ _ _
  have hz1 : (w.alloc (.cells #[.int .u64 0, .int .u64 0, .int .u64 0, .int .u64 0, .int .u64 0, .int .u64 0, .int .u64 0] 102)).heap.size = w.heap.size + 1 := by simp
  obtain ⟨n0, n1, n2, n3, n4⟩ := (hc.nsAt.below hA1.bel hc.blt) _ _ hn
  rw [hop] at n0
  have c0 := hA1.c0
  have c1 := hA1.c1
  unfold Cx.v at c0
  have i0 : (0 : Int) ≤ (p.length : Int) := by omega
  have i1 : (p.length : Int) < (c.ns.length : Int) := by omega
  have s0 : (c.s.size : Int) ≤ 400 := by omega
  have hres : fs c.S (.leaf n) a = whenP true a := fs_empty n a (by rw [Cx.S_len]; exact ha) (by omega) (by omega) (by omega)
  clear hn hns hop n1 n2 n3 n4
  go_enter Tryd.func86, Tryd.ntmps86
  go_wp2_with fail
  refine (pwhen_any true a (by omega) _).mono ?_
  rintro e w1 ⟨rfl, hb⟩
  have hZ1 := hZ.below hb hZ.lt
  have hA2 := hA1.below hb
  have hG2 : w.grownBy w1 (some c.M) := hG1.trans (below_grown hb _)
  clear hZ n0 c0 c1
  obtain ⟨d0, d1, d2, d3, d4, d5, d6⟩ := hZ1.all
  obtain ⟨f0, f1, f2, f3, f4, f5, f6⟩ := hZ1.frz
  unfold plV
  go_wp2
  have hq := hZ1.put7 (whenP true a)
  obtain ⟨e0, e1, e2, e3, e4, e5, e6⟩ := hq.all
  refine bodyPost_ret (v := plV (whenP true a)) (by simp [results, Tryd.results86, go_sem, plV, e0, e1, e2, e3, e4, e5, e6]) rfl ⟨by rw [hres], hA2.turn (grown_put7 _ _ _) (fun r e => by cases e; exact ⟨hW, by omega, by omega⟩), grown_new hG2 (grown_put7 _ _ _) (Nat.le_refl _)⟩
end Go.Proofs.YtajkkmnojfghoaaDoor
namespace Go.Proofs.YtajkkmnojfghoaaDoor
set_option linter.unusedSimpArgs false
set_option linter.unusedVariables false
set_option maxRecDepth 100000
open Go.RowKit Go.Shelf
attribute [local go_sem] Oper.semAt_some

theorem grown_below {w X Y : World} {row : Option Nat} {B : Nat} (h : w.grownBy X row) (hb : Below B X Y) (hB : w.heap.size ≤ B) : w.grownBy Y row :=
  ⟨hb.os.trans h.os, hb.tape.trans h.tape, hb.output.trans h.output, Nat.le_trans h.size hb.size, fun k hk hne => (hb.block k (by omega)).trans (h.block k hk hne)⟩
theorem Cx.At.below' {c : Cx} {X Y : World} {B : Nat} (h : c.At X) (hb : Below B X Y) (h1 : c.rb < B) (h2 : c.M < B) (h3 : c.W0.heap.size ≤ B) : c.At Y where
  bel := h.bel.trans (hb.mono h3)
  rd := (hb.block c.rb h1).trans h.rd
  kn := by
    obtain ⟨D, ⟨es, clock, hbk, r⟩, hk⟩ := h.kn
    exact ⟨D, ⟨es, clock, (hb.block c.M h2).trans hbk, r⟩, hk⟩
theorem boxed_under {W W' : World} {B b : Nat} {t : TypeId} {v : Value} (h : Boxed W b t v) (hb : Below B W W') (hlt : b < B) : Boxed W' b t v := (hb.block b hlt).trans h
/-- What holds between two rounds. -/
structure BhI (c : Cx) (w : World) (i : Nat) (f : List Nat → Nat → Bool) (pre : List Nat) (W : World) : Prop where
  found : Hp W (w.heap.size + 1 + 1 + 1 + 1) (f pre)
  res : Hp W (w.heap.size + 1 + 1 + 1) noP
  bx : Boxed W w.heap.size 103 (.pointer (some ⟨c.rb, 0, none⟩))
  bi : Boxed W (w.heap.size + 1) 3 (.int .i64 (i : Int))
  at' : c.At W
  gr : w.grownBy W (some c.M)
theorem BhI.own (c : Cx) (w : World) (hA : c.At w) (i : Nat) (f : List Nat → Nat → Bool) (B : Nat) (hB : B = w.heap.size + 5) : OwnFrom B (BhI c w i f) := fun s X Y row hs hg hr => by
  have hlt := hs.found.lt
  have hb : Below B X Y := (Below.refl B X).grown hg (by omega) (fun k e => (hr k e).1)
  have h1 := hA.lt
  have h2 := hA.kn.lt
  have h3 := hA.bel.size
  exact ⟨hs.found.below hb (by omega), hs.res.below hb (by omega), boxed_under hs.bx hb (by omega), boxed_under hs.bi hb (by omega), hs.at'.below' hb (by omega) (by omega) (by omega), grown_below hs.gr hb (by omega)⟩
theorem BhI.next {c : Cx} {w : World} {i : Nat} {f : List Nat → Nat → Bool} {pre : List Nat} {W : World} (h : BhI c w i f pre W) (hA : c.At w) (w' w'' : World) (hA1 : c.At w') (hG1 : W.drew.grownBy w' (some c.M)) (hB2 : Below w'.heap.size w' w'') (q : Nat → Bool) (x : Nat) (hq : q = f (pre ++ [x])) (B : Nat) (hB : B = w.heap.size + 5) :
    KeepsFrom B W (put7 w'' (w.heap.size + 1 + 1 + 1 + 1) q) ∧ BhI c w i f (pre ++ [x]) (put7 w'' (w.heap.size + 1 + 1 + 1 + 1) q) := by
  have hlt := h.found.lt
  have h1 := hA.lt
  have h2 := hA.kn.lt
  have h3 := hA.bel.size
  have hs1 : W.heap.size ≤ w'.heap.size := hG1.size
  have hg1 : W.grownBy w' (some c.M) := ⟨hG1.os, hG1.tape, hG1.output, hG1.size, hG1.block⟩
  have hg2 : w'.grownBy w'' none := below_grown hB2 none
  have hg3 := grown_put7 w'' (w.heap.size + 1 + 1 + 1 + 1) q
  have hF2 : Hp w'' (w.heap.size + 1 + 1 + 1 + 1) (f pre) := (h.found.grown hg1 (by intro e; injection e; omega)).below hB2 (by omega)
  refine ⟨((KeepsFrom.of_grownBy hg1 (fun j e => by cases e; omega)).trans (KeepsFrom.of_grownBy hg2 (fun j e => by cases e))).trans (KeepsFrom.of_grownBy hg3 (fun j e => by cases e; omega)), ?_⟩
  subst hq
  refine ⟨hF2.put7 _, ((h.res.grown hg1 (by intro e; injection e; omega)).below hB2 (by omega)).other7 _ (by omega), ?_, ?_, ?_, ?_⟩
  · exact ((boxed_under (h.bx.kept hg1 (by intro e; injection e; omega)) hB2 (by omega))).kept hg3 (by intro e; injection e; omega)
  · exact ((boxed_under (h.bi.kept hg1 (by intro e; injection e; omega)) hB2 (by omega))).kept hg3 (by intro e; injection e; omega)
  · exact (hA1.below hB2).turn hg3 (fun r e => by cases e; exact ⟨by omega, by omega, by omega⟩)
  · exact grown_new (grown_below (h.gr.trans hg1) hB2 (by omega)) hg3 (by omega)
set_option maxHeartbeats 4000000 in
theorem behind_in (c : Cx) (hc : c.Good) (t : Rx) (i : Nat) (p : Nat → Bool) (hE : ∀ k, k < 448 → p k = true → EndsOk c t i k) (w : World) (hA : c.At w) :
    CallsIn Fence.wide 3 Tryd.prog 99 #[.pointer (some ⟨c.rb, 0, none⟩), .int .i64 (i : Int), plV p] w fun e w' => e = .returned (plV (ov (Fit c.S t) (el p 448))) ∧ c.At w' ∧ w.grownBy w' (some c.M) := by
  have hA1 := hA.lt
  have hA2 := hA.kn.lt
  have hA3 := hA.bel.size
  replace hE := hid hE
  obtain ⟨w5, hw5⟩ : ∃ w5, w5 = ((((w.alloc (.cells #[.pointer (some ⟨c.rb, 0, none⟩)] 103)).alloc (.cells #[.int .i64 (i : Int)] 3)).alloc (.cells #[.int .u64 (wd p 0), .int .u64 (wd p 1), .int .u64 (wd p 2), .int .u64 (wd p 3), .int .u64 (wd p 4), .int .u64 (wd p 5), .int .u64 (wd p 6)] 102)).alloc (.cells #[.int .u64 0, .int .u64 0, .int .u64 0, .int .u64 0, .int .u64 0, .int .u64 0, .int .u64 0] 102)).alloc (.cells #[.int .u64 0, .int .u64 0, .int .u64 0, .int .u64 0, .int .u64 0, .int .u64 0, .int .u64 0] 102) := ⟨_, rfl⟩
  have hsz : w5.heap.size = w.heap.size + 5 := by rw [hw5]; simp
  have hI0 : BhI c w i (fun l => ov (Fit c.S t) l) [] w5 := by
    rw [hw5]
    exact ⟨by simp only [ov_nil]; exact Hp.zero _ _ (by simp), (Hp.zero _ _ (by simp)).alloc _, ((((Boxed.new w _ _).alloc _).alloc _).alloc _).alloc _, by
      have := Boxed.new (w.alloc (.cells #[.pointer (some ⟨c.rb, 0, none⟩)] 103)) 3 (.int .i64 (i : Int))
      rw [World.size_alloc] at this
      exact ((this.alloc _).alloc _).alloc _, ((((hA.alloc _).alloc _).alloc _).alloc _).alloc _, ((((World.grownBy_alloc _ _ _).trans (World.grownBy_alloc _ _ _)).trans (World.grownBy_alloc _ _ _)).trans (World.grownBy_alloc _ _ _)).trans (World.grownBy_alloc _ _ _)⟩
  refine callsIn_of_wp_marks Tryd.func99 rfl trivial ?_ rfl
  unfold plV
  simp only [Tryd.ntmps99, List.size_toArray, List.length_cons, List.length_nil, Nat.reduceAdd, Nat.reduceSub, Array.replicate_succ, Array.replicate_zero, List.push_toArray, List.append_toArray, List.nil_append, List.cons_append]
  gi_wp2
  rw [← hw5]
  refine wpIn_runs rfl (by omega) 67 #[plV p] rfl trivial enters_rising (fun x : Nat => Value.int .i64 (x : Int)) Tab (el p 448) (rises 2 (by omega) p) rfl
    (BhI c w i (fun l => ov (Fit c.S t) l)) (BhI.own c w hA i _ _ hsz) (fun pre W h => hc.tab.below h.at'.bel (Nat.le_refl _)) hI0
    (fun x => { tmps := #[.pointer (some ⟨c.rb, 0, none⟩), .int .i64 (i : Int), .agg #[.int .u64 (wd p 0), .int .u64 (wd p 1), .int .u64 (wd p 2), .int .u64 (wd p 3), .int .u64 (wd p 4), .int .u64 (wd p 5), .int .u64 (wd p 6)], .pointer (some ⟨w.heap.size, 0, none⟩), .pointer (some ⟨w.heap.size + 1, 0, none⟩), .pointer (some ⟨w.heap.size + 1 + 1, 0, none⟩), .pointer (some ⟨w.heap.size + 1 + 1 + 1, 0, none⟩), .pointer (some ⟨w.heap.size + 1 + 1 + 1 + 1, 0, none⟩), .int .i64 (x : Int), .agg #[.int .u64 (wd p 0), .int .u64 (wd p 1), .int .u64 (wd p 2), .int .u64 (wd p 3), .int .u64 (wd p 4), .int .u64 (wd p 5), .int .u64 (wd p 6)], .func (.func 67) #[.agg #[.int .u64 (wd p 0), .int .u64 (wd p 1), .int .u64 (wd p 2), .int .u64 (wd p 3), .int .u64 (wd p 4), .int .u64 (wd p 5), .int .u64 (wd p 6)]] #[], .int .i64 (x : Int), undef, undef, undef, undef, undef, undef, undef], defers := [] }) ?assign ?body ?done
  case assign =>
    intro l x W K hK
    gi_wp2
    exact hK
  case body =>
    rintro l pre x rest W hx ⟨hF, hR, hX, hN, hAt, hG⟩
    have hpx : x < 448 ∧ p x = true := (el_mem p 448 x).1 (by rw [hx]; simp)
    obtain ⟨c0, c1, c2, c3, c4, c5, c6⟩ := hF.all
    have x0 := hX.cell
    have n0 := hN.cell
    have hmx : Tryd.prog.follows .mixedOrders = true := by kernel_rfl
    gi_wp2
    gi_region_with_o (first
      | (refine ⟨trivial, ?_⟩; gi_at_call 66; refine (CallsIn.inRound l (callsIn_wide.2 (hE.out x hpx.1 hpx.2 _ hAt.drew))).mono ?_; rintro e w' ⟨rfl, hAt1, hG1⟩; have hF1 := hF.drew.grown hG1 (by simp; omega); obtain ⟨e0, e1, e2, e3, e4, e5, e6⟩ := hF1.all; unfold plV)
      | (refine ⟨trivial, ?_⟩; gi_at_call 101; refine (CallsIn.inRound l (callsIn_wide.2 (pjoined_any _ _ _))).mono ?_; rintro e w'' ⟨rfl, hB2⟩; have hF2 := hF1.below hB2 hF1.lt; obtain ⟨g0, g1, g2, g3, g4, g5, g6⟩ := hF2.all; obtain ⟨z0, z1, z2, z3, z4, z5, z6⟩ := hF2.frz; unfold plV))
    all_goals gi_wp2
    all_goals exact BhI.next ⟨hF, hR, hX, hN, hAt, hG⟩ hA w' w'' hAt1 hG1 hB2 _ x (ov_snoc _ _ _) _ hsz
  case done =>
    rintro D W hD ⟨hF, hR, hX, hN, hAt, hG⟩ hK
    rw [hsz] at hD
    obtain ⟨c0, c1, c2, c3, c4, c5, c6⟩ := hF.all
    obtain ⟨d0, d1, d2, d3, d4, d5, d6⟩ := hR.all
    obtain ⟨f0, f1, f2, f3, f4, f5, f6⟩ := hR.frz
    gi_wp2
    have hDlt : D < W.heap.size := (Array.getElem?_eq_some_iff.1 hK).1
    have hK2 : (put7 W (w.heap.size + 1 + 1 + 1) (ov (Fit c.S t) (el p 448))).heap[D]? = some (.deferred (some [])) := ((grown_put7 W (w.heap.size + 1 + 1 + 1) (ov (Fit c.S t) (el p 448))).block D hDlt (fun e => by cases e; omega)).trans hK
    refine ⟨by simp, .inl ⟨_, _, rfl, run_takeDeferred hK2, ?_⟩⟩
    have hq : Hp ((put7 W (w.heap.size + 1 + 1 + 1) (ov (Fit c.S t) (el p 448))).putObj D (.deferred none)) (w.heap.size + 1 + 1 + 1) (ov (Fit c.S t) (el p 448)) := (World.putObj_heap_other (by omega)).trans (hR.put7 _)
    have hg1 := (grown_put7 W (w.heap.size + 1 + 1 + 1) (ov (Fit c.S t) (el p 448)))
    have hg2 := grownBy_putObj' (put7 W (w.heap.size + 1 + 1 + 1) (ov (Fit c.S t) (el p 448))) D (.deferred none)
    have hAe := (hAt.turn hg1 (fun r e => by cases e; exact ⟨by omega, by omega, by omega⟩)).turn hg2 (fun r e => by cases e; exact ⟨by omega, by omega, by omega⟩)
    have hGe := grown_new (grown_new hG hg1 (by omega)) hg2 (by omega)
    generalize (put7 W (w.heap.size + 1 + 1 + 1) (ov (Fit c.S t) (el p 448))).putObj D (.deferred none) = We at *
    obtain ⟨e0, e1, e2, e3, e4, e5, e6⟩ := hq.all
    exact ⟨plV (ov (Fit c.S t) (el p 448)), by simp [results, Tryd.results99, go_sem, plV, e0, e1, e2, e3, e4, e5, e6], rfl, hAe, hGe⟩
end Go.Proofs.YtajkkmnojfghoaaDoor
