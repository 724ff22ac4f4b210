/- The law RexIs: from what package rex answers. -/
import Derived.Test.YtldiaokjgfoomaaDoorRxC
import Derived.Test.YtldiaokjgfoomaaDoorNdU
import Derived.Test.YtldiaokjgfoomaaDoorNdF
import Derived.Test.YtldiaokjgfoomaaDoorNdS
import Derived.Test.YtldiaokjgfoomaaDoorTld
set_option linter.unusedSimpArgs false
set_option linter.unusedVariables false
set_option maxRecDepth 100000
namespace Go.Proofs.YtldiaokjgfoomaaDoor
open Go.RowKit

/-- What End answers: the place, and the fault. -/
def endN (ns : List Nd) (i : Int) : Int := if faultL ns = 0 ∧ 0 ≤ i ∧ i < ns.length then endI (endE ns i.toNat) else 0
def endErr (ns : List Nd) (i : Int) : Int := if faultL ns = 0 then (if 0 ≤ i ∧ i < ns.length then 0 else 1) else faultL ns
/-- What the document asks of package rex. -/
structure RexC : Prop extends RexT where
  check : ∀ ns v w, NsIn w v ns → (∀ n ∈ ns, n.wf) → Calls Tryd.prog 21 #[v] w fun e w' => e = .returned (errV (faultL ns)) ∧ Below w.heap.size w w'
  ends : ∀ ns v (i : Int) w, NsIn w v ns → (∀ n ∈ ns, n.wf) → Calls Tryd.prog 28 #[v, .int .i64 i] w fun e w' => e = .returned (.tuple #[.int .i64 (endN ns i), errV (endErr ns i)]) ∧ Below w.heap.size w w'
theorem rexEnd_in (ns : List Nd) (i : Int) (h : faultL ns = 0) (h1 : 0 ≤ i) (h2 : i < ns.length) : endN ns i = endI (endE ns i.toNat) ∧ endErr ns i = 0 := by
  simp [endN, endErr, h, h1, h2]
theorem rexEnd_out (ns : List Nd) (i : Int) (h : faultL ns = 0) (h1 : ¬ (0 ≤ i ∧ i < ns.length)) : endN ns i = 0 ∧ endErr ns i = 1 := by
  rw [endN, endErr, if_neg (fun h2 => h1 h2.2), if_pos h, if_neg h1]
  exact ⟨rfl, rfl⟩
theorem rexEnd_bad (ns : List Nd) (i : Int) (h : ¬ faultL ns = 0) : endN ns i = 0 ∧ endErr ns i = faultL ns := by
  rw [endN, endErr, if_neg (fun h2 => h h2.1), if_neg h]
  exact ⟨rfl, rfl⟩
theorem error_self (n : Int) (w : World) (hE : w.cell? ⟨0, 0, none⟩ = some (rty 28)) : Calls Tryd.prog 7 #[errV n, .int .i64 n] w fun e w' => e = .returned (.bool true) ∧ Below w.heap.size w w' := by
  have h := error_any n n w hE
  rw [beq_self_eq_true] at h
  exact h
/-- Nothing that was there has turned; the handle of errors.As lies there. -/
structure Stay (w w' : World) : Prop where
  b : Below w.heap.size w w'
  e : w'.cell? ⟨0, 0, none⟩ = some (rty 28)
theorem Stay.more {w w1 w2 : World} (h : Stay w w1) (h0 : 0 < w.heap.size) (hb : Below w1.heap.size w1 w2) : Stay w w2 :=
  ⟨h.b.trans (hb.mono h.b.size), (hb.cell (p := ⟨0, 0, none⟩) (Nat.lt_of_lt_of_le h0 h.b.size)).trans h.e⟩
set_option maxHeartbeats 4000000 in
theorem rexIs_bad (R : RexC) (ns : List Nd) (v : Value) (i : Int) (w : World) (hN : NsIn w v ns) (hw : ∀ n ∈ ns, n.wf) (hE : w.cell? ⟨0, 0, none⟩ = some (rty 28)) (h0 : 0 < w.heap.size) (hf : ¬ faultL ns = 0) :
    Calls Tryd.prog 4 #[v, .int .i64 i] w fun e w' => e = .returned (.bool true) ∧ Below w.heap.size w w' := by
  have HO : Hid (NdOk ns) := fun n hn => C4.wf_ok (hw n hn).2
  have H0 : Hid _ := h0
  have S0 : Hid (Stay w w) := ⟨Below.refl _ _, hE⟩
  obtain ⟨c1, c2⟩ := rexEnd_bad ns i hf
  have C1 : Hid (∀ w', Below w.heap.size w w' → Calls Tryd.prog 21 #[v] w' fun e w'' => e = .returned (errV (faultL ns)) ∧ Below w'.heap.size w' w'') := fun w' hb => R.check ns v w' (hN.below hb) hw
  have C2 : Hid (∀ w', Below w.heap.size w w' → Calls Tryd.prog 24 #[v] w' fun e w'' => e = .returned (.tuple #[.bool false, errV (faultL ns)]) ∧ Below w'.heap.size w' w'') := fun w' hb => by
    have := R.empty ns v w' (hN.below hb) hw
    rw [decide_eq_false hf, Bool.false_and] at this
    exact this
  have C3 : Hid (∀ w', Below w.heap.size w w' → Calls Tryd.prog 25 #[v] w' fun e w'' => ∃ u, e = .returned (.tuple #[u, errV (faultL ns)]) ∧ Below w'.heap.size w' w'' ∧ NsIn w'' u []) := fun w' hb => by
    have := R.turn ns v w' (hN.below hb) hw
    rw [if_neg hf] at this
    exact this
  have C4 : Hid (∀ w', Below w.heap.size w w' → Calls Tryd.prog 28 #[v, .int .i64 i] w' fun e w'' => e = .returned (.tuple #[.int .i64 0, errV (faultL ns)]) ∧ Below w'.heap.size w' w'') := fun w' hb => by
    have := R.ends ns v i w' (hN.below hb) hw
    rw [c1, c2] at this
    exact this
  have CF : Hid _ := fault_any ns HO.out v w hN
  obtain ⟨a, cap, rfl, hm⟩ := nsIn_form hN
  have pf : (faultL ns == 0) = false := by simp [hf]
  clear hw R hN hE h0 c1 c2 hf
  generalize faultL ns = ft at *
  go_enter Tryd.func4, Tryd.ntmps4
  go_wp2_with fail
  refine Calls.mono (CF.out) ?_
  rintro e w1 ⟨rfl, hb⟩
  have S1 : Hid (Stay w w1) := S0.out.more H0.out hb
  clear hb
  go_wp2_with fail
  refine Calls.mono (C1.out _ S1.out.b) ?_
  rintro e w2 ⟨rfl, hb⟩
  have S2 : Hid (Stay w w2) := S1.out.more H0.out hb
  clear hb
  go_wp2_with fail
  refine Calls.mono (error_self _ _ S2.out.e) ?_
  rintro e w3 ⟨rfl, hb⟩
  have S3 : Hid (Stay w w3) := S2.out.more H0.out hb
  clear hb
  go_wp2_with fail
  refine Calls.mono (C2.out _ S3.out.b) ?_
  rintro e w4 ⟨rfl, hb⟩
  have S4 : Hid (Stay w w4) := S3.out.more H0.out hb
  clear hb
  go_wp2_with fail
  refine Calls.mono (error_self _ _ S4.out.e) ?_
  rintro e w5 ⟨rfl, hb⟩
  have S5 : Hid (Stay w w5) := S4.out.more H0.out hb
  clear hb
  go_wp2_with fail
  refine Calls.mono (C3.out _ S5.out.b) ?_
  rintro e w6 ⟨u, rfl, hb, hu⟩
  have S6 : Hid (Stay w w6) := S5.out.more H0.out hb
  have U6u : Hid (NsIn w6 u []) := hu
  clear hb hu
  go_wp2_with fail
  refine Calls.mono (error_self _ _ S6.out.e) ?_
  rintro e w7 ⟨rfl, hb⟩
  have S7 : Hid (Stay w w7) := S6.out.more H0.out hb
  have U7u : Hid (NsIn w7 u []) := NsIn.below U6u.out hb
  clear hb
  have CN : Hid _ := nodes_any [] [] u (.slice none 0 0) w7 U7u.out (nsIn_nil _)
  rw [nsEq_refl] at CN
  go_wp2_with fail
  refine Calls.mono (CN.out) ?_
  rintro e w8 ⟨rfl, hb⟩
  have S8 : Hid (Stay w w8) := S7.out.more H0.out hb
  clear hb
  go_wp2_with fail
  refine Calls.mono (C4.out _ S8.out.b) ?_
  rintro e w9 ⟨rfl, hb⟩
  have S9 : Hid (Stay w w9) := S8.out.more H0.out hb
  clear hb
  go_wp2_with fail
  refine Calls.mono (error_self _ _ S9.out.e) ?_
  rintro e w10 ⟨rfl, hb⟩
  have S10 : Hid (Stay w w10) := S9.out.more H0.out hb
  clear hb
  go_wp2
  go_ret
  exact ⟨rfl, S10.out.b⟩
set_option maxHeartbeats 4000000 in
theorem rexIs_in (R : RexC) (ns : List Nd) (v : Value) (i : Int) (w : World) (hN : NsIn w v ns) (hw : ∀ n ∈ ns, n.wf) (hE : w.cell? ⟨0, 0, none⟩ = some (rty 28)) (h0 : 0 < w.heap.size) (hf : faultL ns = 0) (h1 : 0 ≤ i) (h2 : i < ns.length) :
    Calls Tryd.prog 4 #[v, .int .i64 i] w fun e w' => e = .returned (.bool true) ∧ Below w.heap.size w w' := by
  have HO : Hid (NdOk ns) := fun n hn => C4.wf_ok (hw n hn).2
  have H0 : Hid _ := h0
  have S0 : Hid (Stay w w) := ⟨Below.refl _ _, hE⟩
  obtain ⟨c1, c2⟩ := rexEnd_in ns i hf h1 h2
  obtain ⟨hl, _, hv⟩ := (faultL_zero ns).1 hf
  have C1 : Hid (∀ w', Below w.heap.size w w' → Calls Tryd.prog 21 #[v] w' fun e w'' => e = .returned (errV 0) ∧ Below w'.heap.size w' w'') := fun w' hb => by
    have := R.check ns v w' (hN.below hb) hw
    rw [hf] at this
    exact this
  have C2 : Hid (∀ w', Below w.heap.size w w' → Calls Tryd.prog 24 #[v] w' fun e w'' => e = .returned (.tuple #[.bool (empE ns), errV 0]) ∧ Below w'.heap.size w' w'') := fun w' hb => by
    have := R.empty ns v w' (hN.below hb) hw
    rw [decide_eq_true hf, Bool.true_and, hf] at this
    exact this
  have C3 : Hid (∀ w', Below w.heap.size w w' → Calls Tryd.prog 25 #[v] w' fun e w'' => ∃ u, e = .returned (.tuple #[u, errV 0]) ∧ Below w'.heap.size w' w'' ∧ NsIn w'' u (turE ns)) := fun w' hb => by
    have := R.turn ns v w' (hN.below hb) hw
    rw [if_pos hf, hf] at this
    exact this
  have C4 : Hid (∀ w', Below w.heap.size w w' → Calls Tryd.prog 28 #[v, .int .i64 i] w' fun e w'' => e = .returned (.tuple #[.int .i64 (endI (endE ns i.toNat)), errV 0]) ∧ Below w'.heap.size w' w'') := fun w' hb => by
    have := R.ends ns v i w' (hN.below hb) hw
    rw [c1, c2] at this
    exact this
  have CF : Hid (Calls Tryd.prog 20 #[v] w fun e w' => e = .returned (.int .i64 0) ∧ Below w.heap.size w w') := by
    have := fault_any ns HO.out v w hN
    rw [hf] at this
    exact this
  have R1 : Hid (∀ w', Below w.heap.size w w' → Calls Tryd.prog 22 #[v, .int .i64 0] w' fun e w'' => e = .returned (.bool (empE ns)) ∧ w'' = w') := fun w' hb => emptyOf_any ns v w' (hN.below hb) hv
  have R2 : Hid (∀ w', Below w.heap.size w w' → Calls Tryd.prog 23 #[v, .int .i64 0] w' fun e w'' => ∃ u, e = .returned u ∧ Below w'.heap.size w' w'' ∧ NsIn w'' u (turE ns)) := fun w' hb =>
    (turnOf_any ns v w' (hN.below hb) (by omega) hv).mono fun e w'' ⟨u, h1, h2, h3⟩ => ⟨u, h1, h2, h3.isIn (by rw [turE_len ns hv]; unfold maxLen; omega)⟩
  obtain ⟨j, rfl⟩ : ∃ j : Nat, i = (j : Int) := ⟨i.toNat, by omega⟩
  rw [Int.toNat_natCast] at C4
  have R3 : Hid (∀ w', Below w.heap.size w w' → Calls Tryd.prog 27 #[v, .int .i64 (j : Int)] w' fun e w'' => e = .returned (.int .i64 (endI (endE ns j))) ∧ w'' = w') := fun w' hb => endOf_any ns v j w' (hN.below hb)
  obtain ⟨a, cap, rfl, hm⟩ := nsIn_form hN
  clear hw R hN hE h0 c1 c2 hf hv
  generalize empE ns = em at *
  generalize endI (endE ns j) = en at *
  go_enter Tryd.func4, Tryd.ntmps4
  go_wp2_with fail
  refine Calls.mono (CF.out) ?_
  rintro e w1 ⟨rfl, hb⟩
  have S1 : Hid (Stay w w1) := S0.out.more H0.out hb
  clear hb
  go_wp2_with fail
  refine Calls.mono (C1.out _ S1.out.b) ?_
  rintro e w2 ⟨rfl, hb⟩
  have S2 : Hid (Stay w w2) := S1.out.more H0.out hb
  clear hb
  go_wp2_with fail
  refine Calls.mono (error_self _ _ S2.out.e) ?_
  rintro e w3 ⟨rfl, hb⟩
  have S3 : Hid (Stay w w3) := S2.out.more H0.out hb
  clear hb
  go_wp2_with fail
  refine Calls.mono (R1.out _ S3.out.b) ?_
  rintro e w3 ⟨rfl, rfl⟩
  go_wp2_with fail
  refine Calls.mono (R2.out _ S3.out.b) ?_
  rintro e w4 ⟨t, rfl, hb, hu⟩
  have S4 : Hid (Stay w w4) := S3.out.more H0.out hb
  have U4t : Hid (NsIn w4 t (turE ns)) := hu
  clear hb hu
  go_wp2_with fail
  refine Calls.mono (C2.out _ S4.out.b) ?_
  rintro e w5 ⟨rfl, hb⟩
  have S5 : Hid (Stay w w5) := S4.out.more H0.out hb
  have U5t : Hid (NsIn w5 t (turE ns)) := NsIn.below U4t.out hb
  clear hb
  go_wp2_with fail
  refine Calls.mono (error_self _ _ S5.out.e) ?_
  rintro e w6 ⟨rfl, hb⟩
  have S6 : Hid (Stay w w6) := S5.out.more H0.out hb
  have U6t : Hid (NsIn w6 t (turE ns)) := NsIn.below U5t.out hb
  clear hb
  go_wp2_with fail
  refine Calls.mono (C3.out _ S6.out.b) ?_
  rintro e w7 ⟨u, rfl, hb, hu⟩
  have S7 : Hid (Stay w w7) := S6.out.more H0.out hb
  have U7t : Hid (NsIn w7 t (turE ns)) := NsIn.below U6t.out hb
  have U7u : Hid (NsIn w7 u (turE ns)) := hu
  clear hb hu
  go_wp2_with fail
  refine Calls.mono (error_self _ _ S7.out.e) ?_
  rintro e w8 ⟨rfl, hb⟩
  have S8 : Hid (Stay w w8) := S7.out.more H0.out hb
  have U8t : Hid (NsIn w8 t (turE ns)) := NsIn.below U7t.out hb
  have U8u : Hid (NsIn w8 u (turE ns)) := NsIn.below U7u.out hb
  clear hb
  have CN : Hid _ := nodes_any (turE ns) (turE ns) u t w8 U8u.out U8t.out
  rw [nsEq_refl] at CN
  go_wp2_with fail
  refine Calls.mono (CN.out) ?_
  rintro e w9 ⟨rfl, hb⟩
  have S9 : Hid (Stay w w9) := S8.out.more H0.out hb
  clear hb
  go_wp2_with fail
  refine Calls.mono (R3.out _ S9.out.b) ?_
  rintro e w9 ⟨rfl, rfl⟩
  go_wp2_with fail
  refine Calls.mono (C4.out _ S9.out.b) ?_
  rintro e w10 ⟨rfl, hb⟩
  have S10 : Hid (Stay w w10) := S9.out.more H0.out hb
  clear hb
  go_wp2_with fail
  refine Calls.mono (error_self _ _ S10.out.e) ?_
  rintro e w11 ⟨rfl, hb⟩
  have S11 : Hid (Stay w w11) := S10.out.more H0.out hb
  clear hb
  go_wp2
  go_ret
  exact ⟨rfl, S11.out.b⟩
set_option maxHeartbeats 4000000 in
theorem rexIs_out (R : RexC) (ns : List Nd) (v : Value) (i : Int) (w : World) (hN : NsIn w v ns) (hw : ∀ n ∈ ns, n.wf) (hE : w.cell? ⟨0, 0, none⟩ = some (rty 28)) (h0 : 0 < w.heap.size) (hf : faultL ns = 0) (h1 : ¬ (0 ≤ i ∧ i < ns.length)) :
    Calls Tryd.prog 4 #[v, .int .i64 i] w fun e w' => e = .returned (.bool true) ∧ Below w.heap.size w w' := by
  have HO : Hid (NdOk ns) := fun n hn => C4.wf_ok (hw n hn).2
  have H0 : Hid _ := h0
  have S0 : Hid (Stay w w) := ⟨Below.refl _ _, hE⟩
  obtain ⟨c1, c2⟩ := rexEnd_out ns i hf h1
  obtain ⟨hl, _, hv⟩ := (faultL_zero ns).1 hf
  have C1 : Hid (∀ w', Below w.heap.size w w' → Calls Tryd.prog 21 #[v] w' fun e w'' => e = .returned (errV 0) ∧ Below w'.heap.size w' w'') := fun w' hb => by
    have := R.check ns v w' (hN.below hb) hw
    rw [hf] at this
    exact this
  have C2 : Hid (∀ w', Below w.heap.size w w' → Calls Tryd.prog 24 #[v] w' fun e w'' => e = .returned (.tuple #[.bool (empE ns), errV 0]) ∧ Below w'.heap.size w' w'') := fun w' hb => by
    have := R.empty ns v w' (hN.below hb) hw
    rw [decide_eq_true hf, Bool.true_and, hf] at this
    exact this
  have C3 : Hid (∀ w', Below w.heap.size w w' → Calls Tryd.prog 25 #[v] w' fun e w'' => ∃ u, e = .returned (.tuple #[u, errV 0]) ∧ Below w'.heap.size w' w'' ∧ NsIn w'' u (turE ns)) := fun w' hb => by
    have := R.turn ns v w' (hN.below hb) hw
    rw [if_pos hf, hf] at this
    exact this
  have C4 : Hid (∀ w', Below w.heap.size w w' → Calls Tryd.prog 28 #[v, .int .i64 i] w' fun e w'' => e = .returned (.tuple #[.int .i64 (0), errV 1]) ∧ Below w'.heap.size w' w'') := fun w' hb => by
    have := R.ends ns v i w' (hN.below hb) hw
    rw [c1, c2] at this
    exact this
  have CF : Hid (Calls Tryd.prog 20 #[v] w fun e w' => e = .returned (.int .i64 0) ∧ Below w.heap.size w w') := by
    have := fault_any ns HO.out v w hN
    rw [hf] at this
    exact this
  have R1 : Hid (∀ w', Below w.heap.size w w' → Calls Tryd.prog 22 #[v, .int .i64 0] w' fun e w'' => e = .returned (.bool (empE ns)) ∧ w'' = w') := fun w' hb => emptyOf_any ns v w' (hN.below hb) hv
  have R2 : Hid (∀ w', Below w.heap.size w w' → Calls Tryd.prog 23 #[v, .int .i64 0] w' fun e w'' => ∃ u, e = .returned u ∧ Below w'.heap.size w' w'' ∧ NsIn w'' u (turE ns)) := fun w' hb =>
    (turnOf_any ns v w' (hN.below hb) (by omega) hv).mono fun e w'' ⟨u, h1, h2, h3⟩ => ⟨u, h1, h2, h3.isIn (by rw [turE_len ns hv]; unfold maxLen; omega)⟩
  obtain ⟨a, cap, rfl, hm⟩ := nsIn_form hN
  by_cases g1 : i < 0
  · clear h1
    clear hw R hN hE h0 c1 c2 hf hv
    generalize empE ns = em at *
    go_enter Tryd.func4, Tryd.ntmps4
    go_wp2_with fail
    refine Calls.mono (CF.out) ?_
    rintro e w1 ⟨rfl, hb⟩
    have S1 : Hid (Stay w w1) := S0.out.more H0.out hb
    clear hb
    go_wp2_with fail
    refine Calls.mono (C1.out _ S1.out.b) ?_
    rintro e w2 ⟨rfl, hb⟩
    have S2 : Hid (Stay w w2) := S1.out.more H0.out hb
    clear hb
    go_wp2_with fail
    refine Calls.mono (error_self _ _ S2.out.e) ?_
    rintro e w3 ⟨rfl, hb⟩
    have S3 : Hid (Stay w w3) := S2.out.more H0.out hb
    clear hb
    go_wp2_with fail
    refine Calls.mono (R1.out _ S3.out.b) ?_
    rintro e w3 ⟨rfl, rfl⟩
    go_wp2_with fail
    refine Calls.mono (R2.out _ S3.out.b) ?_
    rintro e w4 ⟨t, rfl, hb, hu⟩
    have S4 : Hid (Stay w w4) := S3.out.more H0.out hb
    have U4t : Hid (NsIn w4 t (turE ns)) := hu
    clear hb hu
    go_wp2_with fail
    refine Calls.mono (C2.out _ S4.out.b) ?_
    rintro e w5 ⟨rfl, hb⟩
    have S5 : Hid (Stay w w5) := S4.out.more H0.out hb
    have U5t : Hid (NsIn w5 t (turE ns)) := NsIn.below U4t.out hb
    clear hb
    go_wp2_with fail
    refine Calls.mono (error_self _ _ S5.out.e) ?_
    rintro e w6 ⟨rfl, hb⟩
    have S6 : Hid (Stay w w6) := S5.out.more H0.out hb
    have U6t : Hid (NsIn w6 t (turE ns)) := NsIn.below U5t.out hb
    clear hb
    go_wp2_with fail
    refine Calls.mono (C3.out _ S6.out.b) ?_
    rintro e w7 ⟨u, rfl, hb, hu⟩
    have S7 : Hid (Stay w w7) := S6.out.more H0.out hb
    have U7t : Hid (NsIn w7 t (turE ns)) := NsIn.below U6t.out hb
    have U7u : Hid (NsIn w7 u (turE ns)) := hu
    clear hb hu
    go_wp2_with fail
    refine Calls.mono (error_self _ _ S7.out.e) ?_
    rintro e w8 ⟨rfl, hb⟩
    have S8 : Hid (Stay w w8) := S7.out.more H0.out hb
    have U8t : Hid (NsIn w8 t (turE ns)) := NsIn.below U7t.out hb
    have U8u : Hid (NsIn w8 u (turE ns)) := NsIn.below U7u.out hb
    clear hb
    have CN : Hid _ := nodes_any (turE ns) (turE ns) u t w8 U8u.out U8t.out
    rw [nsEq_refl] at CN
    go_wp2_with fail
    refine Calls.mono (CN.out) ?_
    rintro e w9 ⟨rfl, hb⟩
    have S9 : Hid (Stay w w9) := S8.out.more H0.out hb
    clear hb
    go_wp2_with fail
    refine Calls.mono (C4.out _ S9.out.b) ?_
    rintro e w10 ⟨rfl, hb⟩
    have S10 : Hid (Stay w w10) := S9.out.more H0.out hb
    clear hb
    go_wp2_with fail
    refine Calls.mono (error_self _ _ S10.out.e) ?_
    rintro e w11 ⟨rfl, hb⟩
    have S11 : Hid (Stay w w11) := S10.out.more H0.out hb
    clear hb
    go_wp2
    go_ret
    exact ⟨rfl, S11.out.b⟩
  · have g2 : ¬ i < (ns.length : Int) := by omega
    clear h1
    clear hw R hN hE h0 c1 c2 hf hv
    generalize empE ns = em at *
    go_enter Tryd.func4, Tryd.ntmps4
    go_wp2_with fail
    refine Calls.mono (CF.out) ?_
    rintro e w1 ⟨rfl, hb⟩
    have S1 : Hid (Stay w w1) := S0.out.more H0.out hb
    clear hb
    go_wp2_with fail
    refine Calls.mono (C1.out _ S1.out.b) ?_
    rintro e w2 ⟨rfl, hb⟩
    have S2 : Hid (Stay w w2) := S1.out.more H0.out hb
    clear hb
    go_wp2_with fail
    refine Calls.mono (error_self _ _ S2.out.e) ?_
    rintro e w3 ⟨rfl, hb⟩
    have S3 : Hid (Stay w w3) := S2.out.more H0.out hb
    clear hb
    go_wp2_with fail
    refine Calls.mono (R1.out _ S3.out.b) ?_
    rintro e w3 ⟨rfl, rfl⟩
    go_wp2_with fail
    refine Calls.mono (R2.out _ S3.out.b) ?_
    rintro e w4 ⟨t, rfl, hb, hu⟩
    have S4 : Hid (Stay w w4) := S3.out.more H0.out hb
    have U4t : Hid (NsIn w4 t (turE ns)) := hu
    clear hb hu
    go_wp2_with fail
    refine Calls.mono (C2.out _ S4.out.b) ?_
    rintro e w5 ⟨rfl, hb⟩
    have S5 : Hid (Stay w w5) := S4.out.more H0.out hb
    have U5t : Hid (NsIn w5 t (turE ns)) := NsIn.below U4t.out hb
    clear hb
    go_wp2_with fail
    refine Calls.mono (error_self _ _ S5.out.e) ?_
    rintro e w6 ⟨rfl, hb⟩
    have S6 : Hid (Stay w w6) := S5.out.more H0.out hb
    have U6t : Hid (NsIn w6 t (turE ns)) := NsIn.below U5t.out hb
    clear hb
    go_wp2_with fail
    refine Calls.mono (C3.out _ S6.out.b) ?_
    rintro e w7 ⟨u, rfl, hb, hu⟩
    have S7 : Hid (Stay w w7) := S6.out.more H0.out hb
    have U7t : Hid (NsIn w7 t (turE ns)) := NsIn.below U6t.out hb
    have U7u : Hid (NsIn w7 u (turE ns)) := hu
    clear hb hu
    go_wp2_with fail
    refine Calls.mono (error_self _ _ S7.out.e) ?_
    rintro e w8 ⟨rfl, hb⟩
    have S8 : Hid (Stay w w8) := S7.out.more H0.out hb
    have U8t : Hid (NsIn w8 t (turE ns)) := NsIn.below U7t.out hb
    have U8u : Hid (NsIn w8 u (turE ns)) := NsIn.below U7u.out hb
    clear hb
    have CN : Hid _ := nodes_any (turE ns) (turE ns) u t w8 U8u.out U8t.out
    rw [nsEq_refl] at CN
    go_wp2_with fail
    refine Calls.mono (CN.out) ?_
    rintro e w9 ⟨rfl, hb⟩
    have S9 : Hid (Stay w w9) := S8.out.more H0.out hb
    clear hb
    go_wp2_with fail
    refine Calls.mono (C4.out _ S9.out.b) ?_
    rintro e w10 ⟨rfl, hb⟩
    have S10 : Hid (Stay w w10) := S9.out.more H0.out hb
    clear hb
    go_wp2_with fail
    refine Calls.mono (error_self _ _ S10.out.e) ?_
    rintro e w11 ⟨rfl, hb⟩
    have S11 : Hid (Stay w w11) := S10.out.more H0.out hb
    clear hb
    go_wp2
    go_ret
    exact ⟨rfl, S11.out.b⟩
theorem rexIs_any (R : RexC) (ns : List Nd) (v : Value) (i : Int) (w : World) (hN : NsIn w v ns) (hw : ∀ n ∈ ns, n.wf) (hE : w.cell? ⟨0, 0, none⟩ = some (rty 28)) (h0 : 0 < w.heap.size) :
    Calls Tryd.prog 4 #[v, .int .i64 i] w fun e w' => e = .returned (.bool true) ∧ Below w.heap.size w w' := by
  by_cases hf : faultL ns = 0
  · by_cases h1 : 0 ≤ i ∧ i < ns.length
    · exact rexIs_in R ns v i w hN hw hE h0 hf h1.1 h1.2
    · exact rexIs_out R ns v i w hN hw hE h0 hf h1
  · exact rexIs_bad R ns v i w hN hw hE h0 hf
end Go.Proofs.YtldiaokjgfoomaaDoor
