/- The law MeanIs: from what package mean answers. -/
import Derived.Test.YtajkkmnojfghoaaDoorY04
import Derived.Test.YtajkkmnojfghoaaDoorY06
import Derived.Test.YtajkkmnojfghoaaDoorY07
import Derived.Test.YtajkkmnojfghoaaDoorY03
import Derived.BigQuiet
namespace Go.Proofs.YtajkkmnojfghoaaDoor
set_option linter.unusedSimpArgs false
set_option linter.unusedVariables false
set_option maxRecDepth 100000
open Go.RowKit
theorem isIn_last {w : World} {a : Option Addr} {l : List Nat} {cap : Nat} (h : IsIn w (.slice a l.length cap) l) (hl : l ≠ []) : ∃ b off, a = some ⟨b, off, none⟩ ∧ ∃ x, l.getLast? = some x ∧ w.cell? ⟨b, off + (l.length - 1), none⟩ = some (.int .i64 (x : Int)) := by
  obtain ⟨a', cap', e, hm, h | ⟨b, off, rfl, hlt, hn⟩⟩ := h
  · exact absurd h hl
  · injection e with e1 e2 e3
    subst e1
    refine ⟨b, off, rfl, l.getLast hl, List.getLast?_eq_some_getLast hl, ?_⟩
    apply hn
    have hp : 0 < l.length := List.length_pos_iff.2 hl
    rw [List.getLast_eq_getElem, List.getElem?_eq_getElem (by omega)]
set_option maxHeartbeats 8000000 in
theorem meanIs_bad (P : MeanN) (Q : MeanY) (ns : List Nd) (v : Value) (s : ByteArray) (hs : s.size ≤ maxLen) (i : Int) (w : World) (hT : Tab w) (hN : NsIn w v ns) (hw : ∀ n ∈ ns, n.wf) (hE : w.cell? ⟨0, 0, none⟩ = some (rty 28)) (h0 : 0 < w.heap.size) (hf : ¬ faultL ns = 0) :
    Calls Tryd.prog 6 #[v, .string s, .int .i64 i] w fun e w' => e = .returned (.bool true) ∧ Below w.heap.size w w' := by
  have HO : Hid (NdOk ns) := fun n hn => C4.wf_ok (hw n hn).2
  have H0 : Hid _ := h0
  have S0 : Hid (Stay w w) := ⟨Below.refl _ _, hE⟩
  have CF : Hid _ := fault_any ns HO.out v w hN
  have e1 : meanF ns s.size = faultL ns := if_neg hf
  have e2 : meanE ns s.size i = faultL ns := by unfold meanE; rw [e1, if_neg hf]
  have C1 : Hid (∀ w', Below w.heap.size w w' → Calls Tryd.prog 37 #[v, .string s, .int .i64 i] w' fun e w'' => ∃ u, e = .returned (.tuple #[u, errV (faultL ns)]) ∧ Below w'.heap.size w' w'' ∧ IsIn w'' u []) := fun w' hb => by
    have := P.bad ns v s i w' (hN.below hb) hw hs (by rw [e2]; exact hf)
    rw [e2] at this
    exact this
  have C2 : Hid (∀ w', Below w.heap.size w w' → Calls Tryd.prog 39 #[v, .string s] w' fun e w'' => e = .returned (.tuple #[.bool false, errV (faultL ns)]) ∧ Below w'.heap.size w' w'') := fun w' hb => by
    have := Q.bad ns v s w' (hN.below hb) hw hs (by rw [e1]; exact hf)
    rw [e1] at this
    exact this
  obtain ⟨a, cap, rfl, hm⟩ := nsIn_form hN
  have pf : (faultL ns == 0) = false := by simp [hf]
  clear hw P Q hN hE h0 hf e1 e2
  generalize faultL ns = ft at *
  go_enter Tryd.func6, Tryd.ntmps6
  go_wp2_with fail
  refine Calls.mono (CF.out) ?_
  rintro e w1 ⟨rfl, hb⟩
  have S1 : Hid (Stay w w1) := S0.out.more H0.out hb
  clear hb
  go_wp2_with fail
  refine Calls.mono (C1.out _ S1.out.b) ?_
  rintro e w2 ⟨u, rfl, hb, hu⟩
  have U2 := hid hu
  clear hu
  obtain ⟨ua, uc, rfl, um⟩ := isIn_form U2.out
  have S2 : Hid (Stay w w2) := S1.out.more H0.out hb
  clear hb
  go_wp2_with fail
  refine Calls.mono (error_self _ _ S2.out.e) ?_
  rintro e w3 ⟨rfl, hb⟩
  have U3 := hid (U2.out.below hb)
  have S3 : Hid (Stay w w3) := S2.out.more H0.out hb
  clear hb
  go_wp2_with fail
  refine Calls.mono (ints_any [] [] _ _ _ U3.out (isIn_nil _)) ?_
  rintro e w4 ⟨rfl, hb⟩
  have S4 : Hid (Stay w w4) := S3.out.more H0.out hb
  clear hb
  go_wp2_with fail
  refine Calls.mono (C2.out _ S4.out.b) ?_
  rintro e w5 ⟨rfl, hb⟩
  have S5 : Hid (Stay w w5) := S4.out.more H0.out hb
  clear hb
  go_wp2_with fail
  refine Calls.mono (error_self _ _ S5.out.e) ?_
  rintro e w6 ⟨rfl, hb⟩
  have S6 : Hid (Stay w w6) := S5.out.more H0.out hb
  clear hb
  go_wp2_with fail
  go_ret
  exact ⟨rfl, S6.out.b⟩
set_option maxHeartbeats 8000000 in
theorem meanIs_long (P : MeanN) (Q : MeanY) (ns : List Nd) (v : Value) (s : ByteArray) (hs : s.size ≤ maxLen) (i : Int) (w : World) (hT : Tab w) (hN : NsIn w v ns) (hw : ∀ n ∈ ns, n.wf) (hE : w.cell? ⟨0, 0, none⟩ = some (rty 28)) (h0 : 0 < w.heap.size) (hf : faultL ns = 0) (h4 : 400 < s.size) :
    Calls Tryd.prog 6 #[v, .string s, .int .i64 i] w fun e w' => e = .returned (.bool true) ∧ Below w.heap.size w w' := by
  have HO : Hid (NdOk ns) := fun n hn => C4.wf_ok (hw n hn).2
  have H0 : Hid _ := h0
  have S0 : Hid (Stay w w) := ⟨Below.refl _ _, hE⟩
  have CF : Hid _ := fault_any ns HO.out v w hN
  have e1 : meanF ns s.size = 3 := by unfold meanF; rw [if_pos hf, if_pos h4]
  have e2 : meanE ns s.size i = 3 := by unfold meanE; rw [e1]; rfl
  have C1 : Hid (∀ w', Below w.heap.size w w' → Calls Tryd.prog 37 #[v, .string s, .int .i64 i] w' fun e w'' => ∃ u, e = .returned (.tuple #[u, errV 3]) ∧ Below w'.heap.size w' w'' ∧ IsIn w'' u []) := fun w' hb => by
    have := P.bad ns v s i w' (hN.below hb) hw hs (by rw [e2]; decide)
    rw [e2] at this
    exact this
  have C2 : Hid (∀ w', Below w.heap.size w w' → Calls Tryd.prog 39 #[v, .string s] w' fun e w'' => e = .returned (.tuple #[.bool false, errV 3]) ∧ Below w'.heap.size w' w'') := fun w' hb => by
    have := Q.bad ns v s w' (hN.below hb) hw hs (by rw [e1]; decide)
    rw [e1] at this
    exact this
  obtain ⟨a, cap, rfl, hm⟩ := nsIn_form hN
  rw [hf] at CF
  unfold maxLen at hs
  have g4 : (400 : Int) < (s.size : Int) := by omega
  clear hw P Q hN hE h0 hf e1 e2 h4
  go_enter Tryd.func6, Tryd.ntmps6
  go_wp2_with fail
  refine Calls.mono (CF.out) ?_
  rintro e w1 ⟨rfl, hb⟩
  have S1 : Hid (Stay w w1) := S0.out.more H0.out hb
  clear hb
  go_wp2_with fail
  refine Calls.mono (C1.out _ S1.out.b) ?_
  rintro e w2 ⟨u, rfl, hb, hu⟩
  have U2 := hid hu
  clear hu
  obtain ⟨ua, uc, rfl, um⟩ := isIn_form U2.out
  have S2 : Hid (Stay w w2) := S1.out.more H0.out hb
  clear hb
  go_wp2_with fail
  refine Calls.mono (error_self _ _ S2.out.e) ?_
  rintro e w3 ⟨rfl, hb⟩
  have U3 := hid (U2.out.below hb)
  have S3 : Hid (Stay w w3) := S2.out.more H0.out hb
  clear hb
  go_wp2_with fail
  refine Calls.mono (ints_any [] [] _ _ _ U3.out (isIn_nil _)) ?_
  rintro e w4 ⟨rfl, hb⟩
  have S4 : Hid (Stay w w4) := S3.out.more H0.out hb
  clear hb
  go_wp2_with fail
  refine Calls.mono (C2.out _ S4.out.b) ?_
  rintro e w5 ⟨rfl, hb⟩
  have S5 : Hid (Stay w w5) := S4.out.more H0.out hb
  clear hb
  go_wp2_with fail
  refine Calls.mono (error_self _ _ S5.out.e) ?_
  rintro e w6 ⟨rfl, hb⟩
  have S6 : Hid (Stay w w6) := S5.out.more H0.out hb
  clear hb
  go_wp2_with fail
  go_ret
  exact ⟨rfl, S6.out.b⟩
set_option maxHeartbeats 8000000 in
theorem meanIs_neg_none (P : MeanN) (Q : MeanY) (t : Rx) (ht : t.Ok) (v : Value) (s : ByteArray) (hs : s.size ≤ maxLen) (i : Int) (w : World) (hT : Tab w) (hN : NsIn w v t.flat) (hw : ∀ n ∈ t.flat, n.wf) (hE : w.cell? ⟨0, 0, none⟩ = some (rty 28)) (h0 : 0 < w.heap.size) (hf : faultL t.flat = 0) (h4 : s.size ≤ 400) (hi : i < 0) (hl0 : EndsR s.data.toList t 0 []) :
    Calls Tryd.prog 6 #[v, .string s, .int .i64 i] w fun e w' => e = .returned (.bool true) ∧ Below w.heap.size w w' := by
  have HO : Hid (NdOk t.flat) := fun n hn => C4.wf_ok (hw n hn).2
  have H0 : Hid _ := h0
  have S0 : Hid (Stay w w) := ⟨Below.refl _ _, hE⟩
  have CF : Hid _ := fault_any t.flat HO.out v w hN
  obtain ⟨hl60, hr, hv⟩ := (faultL_zero t.flat).1 hf
  have hrr : ∀ n ∈ t.flat, (1 ≤ n.op ∧ n.op ≤ 9) ∧ n.c.ok := fun n hn => ⟨(hr n hn).1, HO.out n hn⟩
  have e1 : meanF t.flat s.size = 0 := (meanF_zero _ _).2 ⟨hf, h4⟩
  have hyf : false = true ↔ Fit s.data.toList t 0 s.size := by
    rw [← sl, ← hl0.all, sl]
    simp
  have C0 : Hid (∀ w', Below w.heap.size w w' → Calls Tryd.prog 36 #[v, .string s, .int .i64 0] w' fun e w'' => ∃ ua uc, e = .returned (.slice ua 0 uc) ∧ Below w'.heap.size w' w'') := fun w' hb => (endsOf_any t ht v s (by omega) 0 (by omega) [] hl0 w' (hN.below hb) hrr hl60).mono fun e w2 ⟨u, h1, h2, h3⟩ => by
    obtain ⟨ua, uc, rfl, _⟩ := isIn_form h3
    exact ⟨ua, uc, h1, h2⟩
  have C2 : Hid (∀ w', Below w.heap.size w w' → Calls Tryd.prog 39 #[v, .string s] w' fun e w'' => e = .returned (.tuple #[.bool false, .nilIface]) ∧ Below w'.heap.size w' w'') := fun w' hb => Q.yes t v s false w' (hT.below hb (Nat.le_refl _)) ht (hN.below hb) hw e1 hyf
  have e2 : meanE t.flat s.size i = 1 := by unfold meanE; rw [if_pos e1, if_neg (by omega)]
  have C1 : Hid (∀ w', Below w.heap.size w w' → Calls Tryd.prog 37 #[v, .string s, .int .i64 i] w' fun e w'' => ∃ u, e = .returned (.tuple #[u, errV 1]) ∧ Below w'.heap.size w' w'' ∧ IsIn w'' u []) := fun w' hb => by
    have := P.bad t.flat v s i w' (hN.below hb) hw hs (by rw [e2]; decide)
    rw [e2] at this
    exact this
  obtain ⟨a, cap, rfl, hm⟩ := nsIn_form hN
  rw [hf] at CF
  have g4 : ¬ (400 : Int) < (s.size : Int) := by omega
  clear hw P Q hN hE h0 hf e1 e2 hs hr hv hrr hl60 hyf hl0 ht
  go_enter Tryd.func6, Tryd.ntmps6
  go_wp2_with fail
  refine Calls.mono (CF.out) ?_
  rintro e w1 ⟨rfl, hb⟩
  have S1 : Hid (Stay w w1) := S0.out.more H0.out hb
  clear hb
  go_wp2_with fail
  refine Calls.mono (C0.out _ S1.out.b) ?_
  rintro e w2 ⟨ua, uc, rfl, hb⟩
  have S2 : Hid (Stay w w2) := S1.out.more H0.out hb
  clear hb
  go_wp2_with fail
  refine Calls.mono (C1.out _ S2.out.b) ?_
  rintro e w3 ⟨u, rfl, hb, hu⟩
  have U3 := hid hu
  clear hu
  obtain ⟨ua, uc, rfl, um⟩ := isIn_form U3.out
  have S3 : Hid (Stay w w3) := S2.out.more H0.out hb
  clear hb
  go_wp2_with fail
  refine Calls.mono (error_self _ _ S3.out.e) ?_
  rintro e w4 ⟨rfl, hb⟩
  have U4 := hid (U3.out.below hb)
  have S4 : Hid (Stay w w4) := S3.out.more H0.out hb
  clear hb
  go_wp2_with fail
  refine Calls.mono (ints_any [] [] _ _ _ U4.out (isIn_nil _)) ?_
  rintro e w5 ⟨rfl, hb⟩
  have S5 : Hid (Stay w w5) := S4.out.more H0.out hb
  clear hb
  go_wp2_with fail
  refine Calls.mono (C2.out _ S5.out.b) ?_
  rintro e w6 ⟨rfl, hb⟩
  have S6 : Hid (Stay w w6) := S5.out.more H0.out hb
  clear hb
  go_wp2_with fail
  refine Calls.mono (error_self 0 _ S6.out.e) ?_
  rintro e w7 ⟨rfl, hb⟩
  have S7 : Hid (Stay w w7) := S6.out.more H0.out hb
  clear hb
  go_wp2_with fail
  go_ret
  exact ⟨rfl, S7.out.b⟩
set_option maxHeartbeats 8000000 in
theorem meanIs_neg_no (P : MeanN) (Q : MeanY) (t : Rx) (ht : t.Ok) (v : Value) (s : ByteArray) (hs : s.size ≤ maxLen) (i : Int) (w : World) (hT : Tab w) (hN : NsIn w v t.flat) (hw : ∀ n ∈ t.flat, n.wf) (hE : w.cell? ⟨0, 0, none⟩ = some (rty 28)) (h0 : 0 < w.heap.size) (hf : faultL t.flat = 0) (h4 : s.size ≤ 400) (hi : i < 0) (k x : Nat) (l0 : List Nat) (hl0 : EndsR s.data.toList t 0 l0) (hk : l0.length = k + 1) (hx : l0.getLast? = some x) (hxs : x ≠ s.size) :
    Calls Tryd.prog 6 #[v, .string s, .int .i64 i] w fun e w' => e = .returned (.bool true) ∧ Below w.heap.size w w' := by
  have HO : Hid (NdOk t.flat) := fun n hn => C4.wf_ok (hw n hn).2
  have H0 : Hid _ := h0
  have S0 : Hid (Stay w w) := ⟨Below.refl _ _, hE⟩
  have CF : Hid _ := fault_any t.flat HO.out v w hN
  obtain ⟨hl60, hr, hv⟩ := (faultL_zero t.flat).1 hf
  have hrr : ∀ n ∈ t.flat, (1 ≤ n.op ∧ n.op ≤ 9) ∧ n.c.ok := fun n hn => ⟨(hr n hn).1, HO.out n hn⟩
  have e1 : meanF t.flat s.size = 0 := (meanF_zero _ _).2 ⟨hf, h4⟩
  have hyf : false = true ↔ Fit s.data.toList t 0 s.size := by
    rw [← sl, ← hl0.all, sl]
    rw [hx]; simp [hxs]
  have C0 : Hid (∀ w', Below w.heap.size w w' → Calls Tryd.prog 36 #[v, .string s, .int .i64 0] w' fun e w'' => ∃ b5 o5 uc, e = .returned (.slice (some ⟨b5, o5, none⟩) (k + 1) uc) ∧ Below w'.heap.size w' w'' ∧ w''.cell? ⟨b5, o5 + k, none⟩ = some (.int .i64 (x : Int))) := fun w' hb => (endsOf_any t ht v s (by omega) 0 (by omega) l0 hl0 w' (hN.below hb) hrr hl60).mono fun e w2 ⟨u, h1, h2, h3⟩ => by
    obtain ⟨ua, uc, rfl, _⟩ := isIn_form h3
    obtain ⟨b5, o5, rfl, x', hx', hc⟩ := isIn_last h3 (by intro e; rw [e] at hk; simp at hk)
    rw [hx] at hx'
    obtain rfl := Option.some.inj hx'
    rw [hk] at h1 hc
    exact ⟨b5, o5, uc, h1, h2, by simpa using hc⟩
  have kl : k ≤ s.size := by have := hl0.len; rw [hk, sl] at this; omega
  have k0 : (0 : Int) ≤ (k : Int) := by omega
  have k1 : (k : Int) < (k : Int) + 1 := by omega
  have k2 : (0 : Int) < (k : Int) + 1 := by omega
  have pxs : ((x : Int) == (s.size : Int)) = false := by rw [beq_eq_false_iff_ne]; omega
  have C2 : Hid (∀ w', Below w.heap.size w w' → Calls Tryd.prog 39 #[v, .string s] w' fun e w'' => e = .returned (.tuple #[.bool false, .nilIface]) ∧ Below w'.heap.size w' w'') := fun w' hb => Q.yes t v s false w' (hT.below hb (Nat.le_refl _)) ht (hN.below hb) hw e1 hyf
  have e2 : meanE t.flat s.size i = 1 := by unfold meanE; rw [if_pos e1, if_neg (by omega)]
  have C1 : Hid (∀ w', Below w.heap.size w w' → Calls Tryd.prog 37 #[v, .string s, .int .i64 i] w' fun e w'' => ∃ u, e = .returned (.tuple #[u, errV 1]) ∧ Below w'.heap.size w' w'' ∧ IsIn w'' u []) := fun w' hb => by
    have := P.bad t.flat v s i w' (hN.below hb) hw hs (by rw [e2]; decide)
    rw [e2] at this
    exact this
  obtain ⟨a, cap, rfl, hm⟩ := nsIn_form hN
  rw [hf] at CF
  have g4 : ¬ (400 : Int) < (s.size : Int) := by omega
  clear hw P Q hN hE h0 hf e1 e2 hs hr hv hrr hl60 hyf hl0 ht hxs hx hk
  go_enter Tryd.func6, Tryd.ntmps6
  go_wp2_with fail
  refine Calls.mono (CF.out) ?_
  rintro e w1 ⟨rfl, hb⟩
  have S1 : Hid (Stay w w1) := S0.out.more H0.out hb
  clear hb
  go_wp2_with fail
  refine Calls.mono (C0.out _ S1.out.b) ?_
  rintro e w2 ⟨b5, o5, uc, rfl, hb, cx⟩
  have S2 : Hid (Stay w w2) := S1.out.more H0.out hb
  clear hb
  go_wp2_with fail
  refine Calls.mono (C1.out _ S2.out.b) ?_
  rintro e w3 ⟨u, rfl, hb, hu⟩
  have U3 := hid hu
  clear hu
  obtain ⟨ua, uc, rfl, um⟩ := isIn_form U3.out
  have S3 : Hid (Stay w w3) := S2.out.more H0.out hb
  clear hb
  go_wp2_with fail
  refine Calls.mono (error_self _ _ S3.out.e) ?_
  rintro e w4 ⟨rfl, hb⟩
  have U4 := hid (U3.out.below hb)
  have S4 : Hid (Stay w w4) := S3.out.more H0.out hb
  clear hb
  go_wp2_with fail
  refine Calls.mono (ints_any [] [] _ _ _ U4.out (isIn_nil _)) ?_
  rintro e w5 ⟨rfl, hb⟩
  have S5 : Hid (Stay w w5) := S4.out.more H0.out hb
  clear hb
  go_wp2_with fail
  refine Calls.mono (C2.out _ S5.out.b) ?_
  rintro e w6 ⟨rfl, hb⟩
  have S6 : Hid (Stay w w6) := S5.out.more H0.out hb
  clear hb
  go_wp2_with fail
  refine Calls.mono (error_self 0 _ S6.out.e) ?_
  rintro e w7 ⟨rfl, hb⟩
  have S7 : Hid (Stay w w7) := S6.out.more H0.out hb
  clear hb
  go_wp2_with fail
  go_ret
  exact ⟨rfl, S7.out.b⟩
set_option maxHeartbeats 8000000 in
theorem meanIs_neg_yes (P : MeanN) (Q : MeanY) (t : Rx) (ht : t.Ok) (v : Value) (s : ByteArray) (hs : s.size ≤ maxLen) (i : Int) (w : World) (hT : Tab w) (hN : NsIn w v t.flat) (hw : ∀ n ∈ t.flat, n.wf) (hE : w.cell? ⟨0, 0, none⟩ = some (rty 28)) (h0 : 0 < w.heap.size) (hf : faultL t.flat = 0) (h4 : s.size ≤ 400) (hi : i < 0) (k : Nat) (l0 : List Nat) (hl0 : EndsR s.data.toList t 0 l0) (hk : l0.length = k + 1) (hx : l0.getLast? = some s.size) :
    Calls Tryd.prog 6 #[v, .string s, .int .i64 i] w fun e w' => e = .returned (.bool true) ∧ Below w.heap.size w w' := by
  have HO : Hid (NdOk t.flat) := fun n hn => C4.wf_ok (hw n hn).2
  have H0 : Hid _ := h0
  have S0 : Hid (Stay w w) := ⟨Below.refl _ _, hE⟩
  have CF : Hid _ := fault_any t.flat HO.out v w hN
  obtain ⟨hl60, hr, hv⟩ := (faultL_zero t.flat).1 hf
  have hrr : ∀ n ∈ t.flat, (1 ≤ n.op ∧ n.op ≤ 9) ∧ n.c.ok := fun n hn => ⟨(hr n hn).1, HO.out n hn⟩
  have e1 : meanF t.flat s.size = 0 := (meanF_zero _ _).2 ⟨hf, h4⟩
  have hyf : true = true ↔ Fit s.data.toList t 0 s.size := by
    rw [← sl, ← hl0.all, sl]
    rw [hx]; simp
  have C0 : Hid (∀ w', Below w.heap.size w w' → Calls Tryd.prog 36 #[v, .string s, .int .i64 0] w' fun e w'' => ∃ b5 o5 uc, e = .returned (.slice (some ⟨b5, o5, none⟩) (k + 1) uc) ∧ Below w'.heap.size w' w'' ∧ w''.cell? ⟨b5, o5 + k, none⟩ = some (.int .i64 (s.size : Int))) := fun w' hb => (endsOf_any t ht v s (by omega) 0 (by omega) l0 hl0 w' (hN.below hb) hrr hl60).mono fun e w2 ⟨u, h1, h2, h3⟩ => by
    obtain ⟨ua, uc, rfl, _⟩ := isIn_form h3
    obtain ⟨b5, o5, rfl, x', hx', hc⟩ := isIn_last h3 (by intro e; rw [e] at hk; simp at hk)
    rw [hx] at hx'
    obtain rfl := Option.some.inj hx'
    rw [hk] at h1 hc
    exact ⟨b5, o5, uc, h1, h2, by simpa using hc⟩
  have kl : k ≤ s.size := by have := hl0.len; rw [hk, sl] at this; omega
  have k0 : (0 : Int) ≤ (k : Int) := by omega
  have k1 : (k : Int) < (k : Int) + 1 := by omega
  have k2 : (0 : Int) < (k : Int) + 1 := by omega
  have C2 : Hid (∀ w', Below w.heap.size w w' → Calls Tryd.prog 39 #[v, .string s] w' fun e w'' => e = .returned (.tuple #[.bool true, .nilIface]) ∧ Below w'.heap.size w' w'') := fun w' hb => Q.yes t v s true w' (hT.below hb (Nat.le_refl _)) ht (hN.below hb) hw e1 hyf
  have e2 : meanE t.flat s.size i = 1 := by unfold meanE; rw [if_pos e1, if_neg (by omega)]
  have C1 : Hid (∀ w', Below w.heap.size w w' → Calls Tryd.prog 37 #[v, .string s, .int .i64 i] w' fun e w'' => ∃ u, e = .returned (.tuple #[u, errV 1]) ∧ Below w'.heap.size w' w'' ∧ IsIn w'' u []) := fun w' hb => by
    have := P.bad t.flat v s i w' (hN.below hb) hw hs (by rw [e2]; decide)
    rw [e2] at this
    exact this
  obtain ⟨a, cap, rfl, hm⟩ := nsIn_form hN
  rw [hf] at CF
  have g4 : ¬ (400 : Int) < (s.size : Int) := by omega
  clear hw P Q hN hE h0 hf e1 e2 hs hr hv hrr hl60 hyf hl0 ht hx hk
  go_enter Tryd.func6, Tryd.ntmps6
  go_wp2_with fail
  refine Calls.mono (CF.out) ?_
  rintro e w1 ⟨rfl, hb⟩
  have S1 : Hid (Stay w w1) := S0.out.more H0.out hb
  clear hb
  go_wp2_with fail
  refine Calls.mono (C0.out _ S1.out.b) ?_
  rintro e w2 ⟨b5, o5, uc, rfl, hb, cx⟩
  have S2 : Hid (Stay w w2) := S1.out.more H0.out hb
  clear hb
  go_wp2_with fail
  refine Calls.mono (C1.out _ S2.out.b) ?_
  rintro e w3 ⟨u, rfl, hb, hu⟩
  have U3 := hid hu
  clear hu
  obtain ⟨ua, uc, rfl, um⟩ := isIn_form U3.out
  have S3 : Hid (Stay w w3) := S2.out.more H0.out hb
  clear hb
  go_wp2_with fail
  refine Calls.mono (error_self _ _ S3.out.e) ?_
  rintro e w4 ⟨rfl, hb⟩
  have U4 := hid (U3.out.below hb)
  have S4 : Hid (Stay w w4) := S3.out.more H0.out hb
  clear hb
  go_wp2_with fail
  refine Calls.mono (ints_any [] [] _ _ _ U4.out (isIn_nil _)) ?_
  rintro e w5 ⟨rfl, hb⟩
  have S5 : Hid (Stay w w5) := S4.out.more H0.out hb
  clear hb
  go_wp2_with fail
  refine Calls.mono (C2.out _ S5.out.b) ?_
  rintro e w6 ⟨rfl, hb⟩
  have S6 : Hid (Stay w w6) := S5.out.more H0.out hb
  clear hb
  go_wp2_with fail
  refine Calls.mono (error_self 0 _ S6.out.e) ?_
  rintro e w7 ⟨rfl, hb⟩
  have S7 : Hid (Stay w w7) := S6.out.more H0.out hb
  clear hb
  go_wp2_with fail
  go_ret
  exact ⟨rfl, S7.out.b⟩
set_option maxHeartbeats 8000000 in
theorem meanIs_far_none (P : MeanN) (Q : MeanY) (t : Rx) (ht : t.Ok) (v : Value) (s : ByteArray) (hs : s.size ≤ maxLen) (i : Int) (w : World) (hT : Tab w) (hN : NsIn w v t.flat) (hw : ∀ n ∈ t.flat, n.wf) (hE : w.cell? ⟨0, 0, none⟩ = some (rty 28)) (h0 : 0 < w.heap.size) (hf : faultL t.flat = 0) (h4 : s.size ≤ 400) (hi : (s.size : Int) < i) (hl0 : EndsR s.data.toList t 0 []) :
    Calls Tryd.prog 6 #[v, .string s, .int .i64 i] w fun e w' => e = .returned (.bool true) ∧ Below w.heap.size w w' := by
  have HO : Hid (NdOk t.flat) := fun n hn => C4.wf_ok (hw n hn).2
  have H0 : Hid _ := h0
  have S0 : Hid (Stay w w) := ⟨Below.refl _ _, hE⟩
  have CF : Hid _ := fault_any t.flat HO.out v w hN
  obtain ⟨hl60, hr, hv⟩ := (faultL_zero t.flat).1 hf
  have hrr : ∀ n ∈ t.flat, (1 ≤ n.op ∧ n.op ≤ 9) ∧ n.c.ok := fun n hn => ⟨(hr n hn).1, HO.out n hn⟩
  have e1 : meanF t.flat s.size = 0 := (meanF_zero _ _).2 ⟨hf, h4⟩
  have hyf : false = true ↔ Fit s.data.toList t 0 s.size := by
    rw [← sl, ← hl0.all, sl]
    simp
  have C0 : Hid (∀ w', Below w.heap.size w w' → Calls Tryd.prog 36 #[v, .string s, .int .i64 0] w' fun e w'' => ∃ ua uc, e = .returned (.slice ua 0 uc) ∧ Below w'.heap.size w' w'') := fun w' hb => (endsOf_any t ht v s (by omega) 0 (by omega) [] hl0 w' (hN.below hb) hrr hl60).mono fun e w2 ⟨u, h1, h2, h3⟩ => by
    obtain ⟨ua, uc, rfl, _⟩ := isIn_form h3
    exact ⟨ua, uc, h1, h2⟩
  have C2 : Hid (∀ w', Below w.heap.size w w' → Calls Tryd.prog 39 #[v, .string s] w' fun e w'' => e = .returned (.tuple #[.bool false, .nilIface]) ∧ Below w'.heap.size w' w'') := fun w' hb => Q.yes t v s false w' (hT.below hb (Nat.le_refl _)) ht (hN.below hb) hw e1 hyf
  have e2 : meanE t.flat s.size i = 1 := by unfold meanE; rw [if_pos e1, if_neg (by omega)]
  have C1 : Hid (∀ w', Below w.heap.size w w' → Calls Tryd.prog 37 #[v, .string s, .int .i64 i] w' fun e w'' => ∃ u, e = .returned (.tuple #[u, errV 1]) ∧ Below w'.heap.size w' w'' ∧ IsIn w'' u []) := fun w' hb => by
    have := P.bad t.flat v s i w' (hN.below hb) hw hs (by rw [e2]; decide)
    rw [e2] at this
    exact this
  obtain ⟨a, cap, rfl, hm⟩ := nsIn_form hN
  rw [hf] at CF
  have g4 : ¬ (400 : Int) < (s.size : Int) := by omega
  clear hw P Q hN hE h0 hf e1 e2 hs hr hv hrr hl60 hyf hl0 ht
  go_enter Tryd.func6, Tryd.ntmps6
  go_wp2_with fail
  refine Calls.mono (CF.out) ?_
  rintro e w1 ⟨rfl, hb⟩
  have S1 : Hid (Stay w w1) := S0.out.more H0.out hb
  clear hb
  go_wp2_with fail
  refine Calls.mono (C0.out _ S1.out.b) ?_
  rintro e w2 ⟨ua, uc, rfl, hb⟩
  have S2 : Hid (Stay w w2) := S1.out.more H0.out hb
  clear hb
  go_wp2_with fail
  refine Calls.mono (C1.out _ S2.out.b) ?_
  rintro e w3 ⟨u, rfl, hb, hu⟩
  have U3 := hid hu
  clear hu
  obtain ⟨ua, uc, rfl, um⟩ := isIn_form U3.out
  have S3 : Hid (Stay w w3) := S2.out.more H0.out hb
  clear hb
  go_wp2_with fail
  refine Calls.mono (error_self _ _ S3.out.e) ?_
  rintro e w4 ⟨rfl, hb⟩
  have U4 := hid (U3.out.below hb)
  have S4 : Hid (Stay w w4) := S3.out.more H0.out hb
  clear hb
  go_wp2_with fail
  refine Calls.mono (ints_any [] [] _ _ _ U4.out (isIn_nil _)) ?_
  rintro e w5 ⟨rfl, hb⟩
  have S5 : Hid (Stay w w5) := S4.out.more H0.out hb
  clear hb
  go_wp2_with fail
  refine Calls.mono (C2.out _ S5.out.b) ?_
  rintro e w6 ⟨rfl, hb⟩
  have S6 : Hid (Stay w w6) := S5.out.more H0.out hb
  clear hb
  go_wp2_with fail
  refine Calls.mono (error_self 0 _ S6.out.e) ?_
  rintro e w7 ⟨rfl, hb⟩
  have S7 : Hid (Stay w w7) := S6.out.more H0.out hb
  clear hb
  go_wp2_with fail
  go_ret
  exact ⟨rfl, S7.out.b⟩
set_option maxHeartbeats 8000000 in
theorem meanIs_far_no (P : MeanN) (Q : MeanY) (t : Rx) (ht : t.Ok) (v : Value) (s : ByteArray) (hs : s.size ≤ maxLen) (i : Int) (w : World) (hT : Tab w) (hN : NsIn w v t.flat) (hw : ∀ n ∈ t.flat, n.wf) (hE : w.cell? ⟨0, 0, none⟩ = some (rty 28)) (h0 : 0 < w.heap.size) (hf : faultL t.flat = 0) (h4 : s.size ≤ 400) (hi : (s.size : Int) < i) (k x : Nat) (l0 : List Nat) (hl0 : EndsR s.data.toList t 0 l0) (hk : l0.length = k + 1) (hx : l0.getLast? = some x) (hxs : x ≠ s.size) :
    Calls Tryd.prog 6 #[v, .string s, .int .i64 i] w fun e w' => e = .returned (.bool true) ∧ Below w.heap.size w w' := by
  have HO : Hid (NdOk t.flat) := fun n hn => C4.wf_ok (hw n hn).2
  have H0 : Hid _ := h0
  have S0 : Hid (Stay w w) := ⟨Below.refl _ _, hE⟩
  have CF : Hid _ := fault_any t.flat HO.out v w hN
  obtain ⟨hl60, hr, hv⟩ := (faultL_zero t.flat).1 hf
  have hrr : ∀ n ∈ t.flat, (1 ≤ n.op ∧ n.op ≤ 9) ∧ n.c.ok := fun n hn => ⟨(hr n hn).1, HO.out n hn⟩
  have e1 : meanF t.flat s.size = 0 := (meanF_zero _ _).2 ⟨hf, h4⟩
  have hyf : false = true ↔ Fit s.data.toList t 0 s.size := by
    rw [← sl, ← hl0.all, sl]
    rw [hx]; simp [hxs]
  have C0 : Hid (∀ w', Below w.heap.size w w' → Calls Tryd.prog 36 #[v, .string s, .int .i64 0] w' fun e w'' => ∃ b5 o5 uc, e = .returned (.slice (some ⟨b5, o5, none⟩) (k + 1) uc) ∧ Below w'.heap.size w' w'' ∧ w''.cell? ⟨b5, o5 + k, none⟩ = some (.int .i64 (x : Int))) := fun w' hb => (endsOf_any t ht v s (by omega) 0 (by omega) l0 hl0 w' (hN.below hb) hrr hl60).mono fun e w2 ⟨u, h1, h2, h3⟩ => by
    obtain ⟨ua, uc, rfl, _⟩ := isIn_form h3
    obtain ⟨b5, o5, rfl, x', hx', hc⟩ := isIn_last h3 (by intro e; rw [e] at hk; simp at hk)
    rw [hx] at hx'
    obtain rfl := Option.some.inj hx'
    rw [hk] at h1 hc
    exact ⟨b5, o5, uc, h1, h2, by simpa using hc⟩
  have kl : k ≤ s.size := by have := hl0.len; rw [hk, sl] at this; omega
  have k0 : (0 : Int) ≤ (k : Int) := by omega
  have k1 : (k : Int) < (k : Int) + 1 := by omega
  have k2 : (0 : Int) < (k : Int) + 1 := by omega
  have pxs : ((x : Int) == (s.size : Int)) = false := by rw [beq_eq_false_iff_ne]; omega
  have C2 : Hid (∀ w', Below w.heap.size w w' → Calls Tryd.prog 39 #[v, .string s] w' fun e w'' => e = .returned (.tuple #[.bool false, .nilIface]) ∧ Below w'.heap.size w' w'') := fun w' hb => Q.yes t v s false w' (hT.below hb (Nat.le_refl _)) ht (hN.below hb) hw e1 hyf
  have e2 : meanE t.flat s.size i = 1 := by unfold meanE; rw [if_pos e1, if_neg (by omega)]
  have C1 : Hid (∀ w', Below w.heap.size w w' → Calls Tryd.prog 37 #[v, .string s, .int .i64 i] w' fun e w'' => ∃ u, e = .returned (.tuple #[u, errV 1]) ∧ Below w'.heap.size w' w'' ∧ IsIn w'' u []) := fun w' hb => by
    have := P.bad t.flat v s i w' (hN.below hb) hw hs (by rw [e2]; decide)
    rw [e2] at this
    exact this
  obtain ⟨a, cap, rfl, hm⟩ := nsIn_form hN
  rw [hf] at CF
  have g4 : ¬ (400 : Int) < (s.size : Int) := by omega
  clear hw P Q hN hE h0 hf e1 e2 hs hr hv hrr hl60 hyf hl0 ht hxs hx hk
  go_enter Tryd.func6, Tryd.ntmps6
  go_wp2_with fail
  refine Calls.mono (CF.out) ?_
  rintro e w1 ⟨rfl, hb⟩
  have S1 : Hid (Stay w w1) := S0.out.more H0.out hb
  clear hb
  go_wp2_with fail
  refine Calls.mono (C0.out _ S1.out.b) ?_
  rintro e w2 ⟨b5, o5, uc, rfl, hb, cx⟩
  have S2 : Hid (Stay w w2) := S1.out.more H0.out hb
  clear hb
  go_wp2_with fail
  refine Calls.mono (C1.out _ S2.out.b) ?_
  rintro e w3 ⟨u, rfl, hb, hu⟩
  have U3 := hid hu
  clear hu
  obtain ⟨ua, uc, rfl, um⟩ := isIn_form U3.out
  have S3 : Hid (Stay w w3) := S2.out.more H0.out hb
  clear hb
  go_wp2_with fail
  refine Calls.mono (error_self _ _ S3.out.e) ?_
  rintro e w4 ⟨rfl, hb⟩
  have U4 := hid (U3.out.below hb)
  have S4 : Hid (Stay w w4) := S3.out.more H0.out hb
  clear hb
  go_wp2_with fail
  refine Calls.mono (ints_any [] [] _ _ _ U4.out (isIn_nil _)) ?_
  rintro e w5 ⟨rfl, hb⟩
  have S5 : Hid (Stay w w5) := S4.out.more H0.out hb
  clear hb
  go_wp2_with fail
  refine Calls.mono (C2.out _ S5.out.b) ?_
  rintro e w6 ⟨rfl, hb⟩
  have S6 : Hid (Stay w w6) := S5.out.more H0.out hb
  clear hb
  go_wp2_with fail
  refine Calls.mono (error_self 0 _ S6.out.e) ?_
  rintro e w7 ⟨rfl, hb⟩
  have S7 : Hid (Stay w w7) := S6.out.more H0.out hb
  clear hb
  go_wp2_with fail
  go_ret
  exact ⟨rfl, S7.out.b⟩
set_option maxHeartbeats 8000000 in
theorem meanIs_far_yes (P : MeanN) (Q : MeanY) (t : Rx) (ht : t.Ok) (v : Value) (s : ByteArray) (hs : s.size ≤ maxLen) (i : Int) (w : World) (hT : Tab w) (hN : NsIn w v t.flat) (hw : ∀ n ∈ t.flat, n.wf) (hE : w.cell? ⟨0, 0, none⟩ = some (rty 28)) (h0 : 0 < w.heap.size) (hf : faultL t.flat = 0) (h4 : s.size ≤ 400) (hi : (s.size : Int) < i) (k : Nat) (l0 : List Nat) (hl0 : EndsR s.data.toList t 0 l0) (hk : l0.length = k + 1) (hx : l0.getLast? = some s.size) :
    Calls Tryd.prog 6 #[v, .string s, .int .i64 i] w fun e w' => e = .returned (.bool true) ∧ Below w.heap.size w w' := by
  have HO : Hid (NdOk t.flat) := fun n hn => C4.wf_ok (hw n hn).2
  have H0 : Hid _ := h0
  have S0 : Hid (Stay w w) := ⟨Below.refl _ _, hE⟩
  have CF : Hid _ := fault_any t.flat HO.out v w hN
  obtain ⟨hl60, hr, hv⟩ := (faultL_zero t.flat).1 hf
  have hrr : ∀ n ∈ t.flat, (1 ≤ n.op ∧ n.op ≤ 9) ∧ n.c.ok := fun n hn => ⟨(hr n hn).1, HO.out n hn⟩
  have e1 : meanF t.flat s.size = 0 := (meanF_zero _ _).2 ⟨hf, h4⟩
  have hyf : true = true ↔ Fit s.data.toList t 0 s.size := by
    rw [← sl, ← hl0.all, sl]
    rw [hx]; simp
  have C0 : Hid (∀ w', Below w.heap.size w w' → Calls Tryd.prog 36 #[v, .string s, .int .i64 0] w' fun e w'' => ∃ b5 o5 uc, e = .returned (.slice (some ⟨b5, o5, none⟩) (k + 1) uc) ∧ Below w'.heap.size w' w'' ∧ w''.cell? ⟨b5, o5 + k, none⟩ = some (.int .i64 (s.size : Int))) := fun w' hb => (endsOf_any t ht v s (by omega) 0 (by omega) l0 hl0 w' (hN.below hb) hrr hl60).mono fun e w2 ⟨u, h1, h2, h3⟩ => by
    obtain ⟨ua, uc, rfl, _⟩ := isIn_form h3
    obtain ⟨b5, o5, rfl, x', hx', hc⟩ := isIn_last h3 (by intro e; rw [e] at hk; simp at hk)
    rw [hx] at hx'
    obtain rfl := Option.some.inj hx'
    rw [hk] at h1 hc
    exact ⟨b5, o5, uc, h1, h2, by simpa using hc⟩
  have kl : k ≤ s.size := by have := hl0.len; rw [hk, sl] at this; omega
  have k0 : (0 : Int) ≤ (k : Int) := by omega
  have k1 : (k : Int) < (k : Int) + 1 := by omega
  have k2 : (0 : Int) < (k : Int) + 1 := by omega
  have C2 : Hid (∀ w', Below w.heap.size w w' → Calls Tryd.prog 39 #[v, .string s] w' fun e w'' => e = .returned (.tuple #[.bool true, .nilIface]) ∧ Below w'.heap.size w' w'') := fun w' hb => Q.yes t v s true w' (hT.below hb (Nat.le_refl _)) ht (hN.below hb) hw e1 hyf
  have e2 : meanE t.flat s.size i = 1 := by unfold meanE; rw [if_pos e1, if_neg (by omega)]
  have C1 : Hid (∀ w', Below w.heap.size w w' → Calls Tryd.prog 37 #[v, .string s, .int .i64 i] w' fun e w'' => ∃ u, e = .returned (.tuple #[u, errV 1]) ∧ Below w'.heap.size w' w'' ∧ IsIn w'' u []) := fun w' hb => by
    have := P.bad t.flat v s i w' (hN.below hb) hw hs (by rw [e2]; decide)
    rw [e2] at this
    exact this
  obtain ⟨a, cap, rfl, hm⟩ := nsIn_form hN
  rw [hf] at CF
  have g4 : ¬ (400 : Int) < (s.size : Int) := by omega
  clear hw P Q hN hE h0 hf e1 e2 hs hr hv hrr hl60 hyf hl0 ht hx hk
  go_enter Tryd.func6, Tryd.ntmps6
  go_wp2_with fail
  refine Calls.mono (CF.out) ?_
  rintro e w1 ⟨rfl, hb⟩
  have S1 : Hid (Stay w w1) := S0.out.more H0.out hb
  clear hb
  go_wp2_with fail
  refine Calls.mono (C0.out _ S1.out.b) ?_
  rintro e w2 ⟨b5, o5, uc, rfl, hb, cx⟩
  have S2 : Hid (Stay w w2) := S1.out.more H0.out hb
  clear hb
  go_wp2_with fail
  refine Calls.mono (C1.out _ S2.out.b) ?_
  rintro e w3 ⟨u, rfl, hb, hu⟩
  have U3 := hid hu
  clear hu
  obtain ⟨ua, uc, rfl, um⟩ := isIn_form U3.out
  have S3 : Hid (Stay w w3) := S2.out.more H0.out hb
  clear hb
  go_wp2_with fail
  refine Calls.mono (error_self _ _ S3.out.e) ?_
  rintro e w4 ⟨rfl, hb⟩
  have U4 := hid (U3.out.below hb)
  have S4 : Hid (Stay w w4) := S3.out.more H0.out hb
  clear hb
  go_wp2_with fail
  refine Calls.mono (ints_any [] [] _ _ _ U4.out (isIn_nil _)) ?_
  rintro e w5 ⟨rfl, hb⟩
  have S5 : Hid (Stay w w5) := S4.out.more H0.out hb
  clear hb
  go_wp2_with fail
  refine Calls.mono (C2.out _ S5.out.b) ?_
  rintro e w6 ⟨rfl, hb⟩
  have S6 : Hid (Stay w w6) := S5.out.more H0.out hb
  clear hb
  go_wp2_with fail
  refine Calls.mono (error_self 0 _ S6.out.e) ?_
  rintro e w7 ⟨rfl, hb⟩
  have S7 : Hid (Stay w w7) := S6.out.more H0.out hb
  clear hb
  go_wp2_with fail
  go_ret
  exact ⟨rfl, S7.out.b⟩
set_option maxHeartbeats 8000000 in
theorem meanIs_in_none (P : MeanN) (Q : MeanY) (t : Rx) (ht : t.Ok) (v : Value) (s : ByteArray) (hs : s.size ≤ maxLen) (i : Int) (w : World) (hT : Tab w) (hN : NsIn w v t.flat) (hw : ∀ n ∈ t.flat, n.wf) (hE : w.cell? ⟨0, 0, none⟩ = some (rty 28)) (h0 : 0 < w.heap.size) (hf : faultL t.flat = 0) (h4 : s.size ≤ 400) (j : Nat) (hj : j ≤ s.size) (hij : i = j) (l : List Nat) (hl : EndsR s.data.toList t j l) (hl0 : EndsR s.data.toList t 0 []) :
    Calls Tryd.prog 6 #[v, .string s, .int .i64 i] w fun e w' => e = .returned (.bool true) ∧ Below w.heap.size w w' := by
  have HO : Hid (NdOk t.flat) := fun n hn => C4.wf_ok (hw n hn).2
  have H0 : Hid _ := h0
  have S0 : Hid (Stay w w) := ⟨Below.refl _ _, hE⟩
  have CF : Hid _ := fault_any t.flat HO.out v w hN
  subst hij
  obtain ⟨hl60, hr, hv⟩ := (faultL_zero t.flat).1 hf
  have hrr : ∀ n ∈ t.flat, (1 ≤ n.op ∧ n.op ≤ 9) ∧ n.c.ok := fun n hn => ⟨(hr n hn).1, HO.out n hn⟩
  have e1 : meanF t.flat s.size = 0 := (meanF_zero _ _).2 ⟨hf, h4⟩
  have hyf : false = true ↔ Fit s.data.toList t 0 s.size := by
    rw [← sl, ← hl0.all, sl]
    simp
  have C0 : Hid (∀ w', Below w.heap.size w w' → Calls Tryd.prog 36 #[v, .string s, .int .i64 0] w' fun e w'' => ∃ ua uc, e = .returned (.slice ua 0 uc) ∧ Below w'.heap.size w' w'') := fun w' hb => (endsOf_any t ht v s (by omega) 0 (by omega) [] hl0 w' (hN.below hb) hrr hl60).mono fun e w2 ⟨u, h1, h2, h3⟩ => by
    obtain ⟨ua, uc, rfl, _⟩ := isIn_form h3
    exact ⟨ua, uc, h1, h2⟩
  have C2 : Hid (∀ w', Below w.heap.size w w' → Calls Tryd.prog 39 #[v, .string s] w' fun e w'' => e = .returned (.tuple #[.bool false, .nilIface]) ∧ Below w'.heap.size w' w'') := fun w' hb => Q.yes t v s false w' (hT.below hb (Nat.le_refl _)) ht (hN.below hb) hw e1 hyf
  have e2 : meanE t.flat s.size (j : Int) = 0 := (meanE_zero _ _ _).2 ⟨hf, h4, by omega, by omega⟩
  have C3 : Hid (∀ w', Below w.heap.size w w' → Calls Tryd.prog 36 #[v, .string s, .int .i64 (j : Int)] w' fun e w'' => ∃ u, e = .returned u ∧ Below w'.heap.size w' w'' ∧ IsIn w'' u l) := fun w' hb => endsOf_any t ht v s (by omega) j hj l hl w' (hN.below hb) hrr hl60
  have C1 : Hid (∀ w', Below w.heap.size w w' → Calls Tryd.prog 37 #[v, .string s, .int .i64 (j : Int)] w' fun e w'' => ∃ u, e = .returned (.tuple #[u, errV 0]) ∧ Below w'.heap.size w' w'' ∧ IsIn w'' u l) := fun w' hb => P.ends t v s j l w' (hT.below hb (Nat.le_refl _)) ht (hN.below hb) hw e2 hl
  have j0 : (0 : Int) ≤ (j : Int) := by omega
  have j1 : (j : Int) ≤ (s.size : Int) := by omega
  obtain ⟨a, cap, rfl, hm⟩ := nsIn_form hN
  rw [hf] at CF
  have g4 : ¬ (400 : Int) < (s.size : Int) := by omega
  clear hw P Q hN hE h0 hf e1 e2 hs hr hv hrr hl60 hyf hl0 ht hl
  go_enter Tryd.func6, Tryd.ntmps6
  go_wp2_with fail
  refine Calls.mono (CF.out) ?_
  rintro e w1 ⟨rfl, hb⟩
  have S1 : Hid (Stay w w1) := S0.out.more H0.out hb
  clear hb
  go_wp2_with fail
  refine Calls.mono (C0.out _ S1.out.b) ?_
  rintro e w2 ⟨ua, uc, rfl, hb⟩
  have S2 : Hid (Stay w w2) := S1.out.more H0.out hb
  clear hb
  go_wp2_with fail
  refine Calls.mono (C3.out _ S2.out.b) ?_
  rintro e w3 ⟨u, rfl, hb, hu⟩
  have V3 := hid hu
  clear hu
  obtain ⟨va, vc, rfl, vm⟩ := isIn_form V3.out
  have S3 : Hid (Stay w w3) := S2.out.more H0.out hb
  clear hb
  go_wp2_with fail
  refine Calls.mono (C1.out _ S3.out.b) ?_
  rintro e w4 ⟨u, rfl, hb, hu⟩
  have U4 := hid hu
  have V4 := hid (V3.out.below hb)
  clear hu
  obtain ⟨ua, uc, rfl, um⟩ := isIn_form U4.out
  have S4 : Hid (Stay w w4) := S3.out.more H0.out hb
  clear hb
  go_wp2_with fail
  refine Calls.mono (error_self _ _ S4.out.e) ?_
  rintro e w5 ⟨rfl, hb⟩
  have U5 := hid (U4.out.below hb)
  have V5 := hid (V4.out.below hb)
  have S5 : Hid (Stay w w5) := S4.out.more H0.out hb
  clear hb
  go_wp2_with fail
  have CI := hid (ints_any l l _ _ _ U5.out V5.out)
  rw [beq_self_eq_true] at CI
  refine Calls.mono (CI.out) ?_
  rintro e w6 ⟨rfl, hb⟩
  have S6 : Hid (Stay w w6) := S5.out.more H0.out hb
  clear hb
  go_wp2_with fail
  refine Calls.mono (C2.out _ S6.out.b) ?_
  rintro e w7 ⟨rfl, hb⟩
  have S7 : Hid (Stay w w7) := S6.out.more H0.out hb
  clear hb
  go_wp2_with fail
  refine Calls.mono (error_self 0 _ S7.out.e) ?_
  rintro e w8 ⟨rfl, hb⟩
  have S8 : Hid (Stay w w8) := S7.out.more H0.out hb
  clear hb
  go_wp2_with fail
  go_ret
  exact ⟨rfl, S8.out.b⟩
set_option maxHeartbeats 8000000 in
theorem meanIs_in_no (P : MeanN) (Q : MeanY) (t : Rx) (ht : t.Ok) (v : Value) (s : ByteArray) (hs : s.size ≤ maxLen) (i : Int) (w : World) (hT : Tab w) (hN : NsIn w v t.flat) (hw : ∀ n ∈ t.flat, n.wf) (hE : w.cell? ⟨0, 0, none⟩ = some (rty 28)) (h0 : 0 < w.heap.size) (hf : faultL t.flat = 0) (h4 : s.size ≤ 400) (j : Nat) (hj : j ≤ s.size) (hij : i = j) (l : List Nat) (hl : EndsR s.data.toList t j l) (k x : Nat) (l0 : List Nat) (hl0 : EndsR s.data.toList t 0 l0) (hk : l0.length = k + 1) (hx : l0.getLast? = some x) (hxs : x ≠ s.size) :
    Calls Tryd.prog 6 #[v, .string s, .int .i64 i] w fun e w' => e = .returned (.bool true) ∧ Below w.heap.size w w' := by
  have HO : Hid (NdOk t.flat) := fun n hn => C4.wf_ok (hw n hn).2
  have H0 : Hid _ := h0
  have S0 : Hid (Stay w w) := ⟨Below.refl _ _, hE⟩
  have CF : Hid _ := fault_any t.flat HO.out v w hN
  subst hij
  obtain ⟨hl60, hr, hv⟩ := (faultL_zero t.flat).1 hf
  have hrr : ∀ n ∈ t.flat, (1 ≤ n.op ∧ n.op ≤ 9) ∧ n.c.ok := fun n hn => ⟨(hr n hn).1, HO.out n hn⟩
  have e1 : meanF t.flat s.size = 0 := (meanF_zero _ _).2 ⟨hf, h4⟩
  have hyf : false = true ↔ Fit s.data.toList t 0 s.size := by
    rw [← sl, ← hl0.all, sl]
    rw [hx]; simp [hxs]
  have C0 : Hid (∀ w', Below w.heap.size w w' → Calls Tryd.prog 36 #[v, .string s, .int .i64 0] w' fun e w'' => ∃ b5 o5 uc, e = .returned (.slice (some ⟨b5, o5, none⟩) (k + 1) uc) ∧ Below w'.heap.size w' w'' ∧ w''.cell? ⟨b5, o5 + k, none⟩ = some (.int .i64 (x : Int))) := fun w' hb => (endsOf_any t ht v s (by omega) 0 (by omega) l0 hl0 w' (hN.below hb) hrr hl60).mono fun e w2 ⟨u, h1, h2, h3⟩ => by
    obtain ⟨ua, uc, rfl, _⟩ := isIn_form h3
    obtain ⟨b5, o5, rfl, x', hx', hc⟩ := isIn_last h3 (by intro e; rw [e] at hk; simp at hk)
    rw [hx] at hx'
    obtain rfl := Option.some.inj hx'
    rw [hk] at h1 hc
    exact ⟨b5, o5, uc, h1, h2, by simpa using hc⟩
  have kl : k ≤ s.size := by have := hl0.len; rw [hk, sl] at this; omega
  have k0 : (0 : Int) ≤ (k : Int) := by omega
  have k1 : (k : Int) < (k : Int) + 1 := by omega
  have k2 : (0 : Int) < (k : Int) + 1 := by omega
  have pxs : ((x : Int) == (s.size : Int)) = false := by rw [beq_eq_false_iff_ne]; omega
  have C2 : Hid (∀ w', Below w.heap.size w w' → Calls Tryd.prog 39 #[v, .string s] w' fun e w'' => e = .returned (.tuple #[.bool false, .nilIface]) ∧ Below w'.heap.size w' w'') := fun w' hb => Q.yes t v s false w' (hT.below hb (Nat.le_refl _)) ht (hN.below hb) hw e1 hyf
  have e2 : meanE t.flat s.size (j : Int) = 0 := (meanE_zero _ _ _).2 ⟨hf, h4, by omega, by omega⟩
  have C3 : Hid (∀ w', Below w.heap.size w w' → Calls Tryd.prog 36 #[v, .string s, .int .i64 (j : Int)] w' fun e w'' => ∃ u, e = .returned u ∧ Below w'.heap.size w' w'' ∧ IsIn w'' u l) := fun w' hb => endsOf_any t ht v s (by omega) j hj l hl w' (hN.below hb) hrr hl60
  have C1 : Hid (∀ w', Below w.heap.size w w' → Calls Tryd.prog 37 #[v, .string s, .int .i64 (j : Int)] w' fun e w'' => ∃ u, e = .returned (.tuple #[u, errV 0]) ∧ Below w'.heap.size w' w'' ∧ IsIn w'' u l) := fun w' hb => P.ends t v s j l w' (hT.below hb (Nat.le_refl _)) ht (hN.below hb) hw e2 hl
  have j0 : (0 : Int) ≤ (j : Int) := by omega
  have j1 : (j : Int) ≤ (s.size : Int) := by omega
  obtain ⟨a, cap, rfl, hm⟩ := nsIn_form hN
  rw [hf] at CF
  have g4 : ¬ (400 : Int) < (s.size : Int) := by omega
  clear hw P Q hN hE h0 hf e1 e2 hs hr hv hrr hl60 hyf hl0 ht hl hxs hx hk
  go_enter Tryd.func6, Tryd.ntmps6
  go_wp2_with fail
  refine Calls.mono (CF.out) ?_
  rintro e w1 ⟨rfl, hb⟩
  have S1 : Hid (Stay w w1) := S0.out.more H0.out hb
  clear hb
  go_wp2_with fail
  refine Calls.mono (C0.out _ S1.out.b) ?_
  rintro e w2 ⟨b5, o5, uc, rfl, hb, cx⟩
  have S2 : Hid (Stay w w2) := S1.out.more H0.out hb
  clear hb
  go_wp2_with fail
  refine Calls.mono (C3.out _ S2.out.b) ?_
  rintro e w3 ⟨u, rfl, hb, hu⟩
  have V3 := hid hu
  clear hu
  obtain ⟨va, vc, rfl, vm⟩ := isIn_form V3.out
  have S3 : Hid (Stay w w3) := S2.out.more H0.out hb
  clear hb
  go_wp2_with fail
  refine Calls.mono (C1.out _ S3.out.b) ?_
  rintro e w4 ⟨u, rfl, hb, hu⟩
  have U4 := hid hu
  have V4 := hid (V3.out.below hb)
  clear hu
  obtain ⟨ua, uc, rfl, um⟩ := isIn_form U4.out
  have S4 : Hid (Stay w w4) := S3.out.more H0.out hb
  clear hb
  go_wp2_with fail
  refine Calls.mono (error_self _ _ S4.out.e) ?_
  rintro e w5 ⟨rfl, hb⟩
  have U5 := hid (U4.out.below hb)
  have V5 := hid (V4.out.below hb)
  have S5 : Hid (Stay w w5) := S4.out.more H0.out hb
  clear hb
  go_wp2_with fail
  have CI := hid (ints_any l l _ _ _ U5.out V5.out)
  rw [beq_self_eq_true] at CI
  refine Calls.mono (CI.out) ?_
  rintro e w6 ⟨rfl, hb⟩
  have S6 : Hid (Stay w w6) := S5.out.more H0.out hb
  clear hb
  go_wp2_with fail
  refine Calls.mono (C2.out _ S6.out.b) ?_
  rintro e w7 ⟨rfl, hb⟩
  have S7 : Hid (Stay w w7) := S6.out.more H0.out hb
  clear hb
  go_wp2_with fail
  refine Calls.mono (error_self 0 _ S7.out.e) ?_
  rintro e w8 ⟨rfl, hb⟩
  have S8 : Hid (Stay w w8) := S7.out.more H0.out hb
  clear hb
  go_wp2_with fail
  go_ret
  exact ⟨rfl, S8.out.b⟩
set_option maxHeartbeats 8000000 in
theorem meanIs_in_yes (P : MeanN) (Q : MeanY) (t : Rx) (ht : t.Ok) (v : Value) (s : ByteArray) (hs : s.size ≤ maxLen) (i : Int) (w : World) (hT : Tab w) (hN : NsIn w v t.flat) (hw : ∀ n ∈ t.flat, n.wf) (hE : w.cell? ⟨0, 0, none⟩ = some (rty 28)) (h0 : 0 < w.heap.size) (hf : faultL t.flat = 0) (h4 : s.size ≤ 400) (j : Nat) (hj : j ≤ s.size) (hij : i = j) (l : List Nat) (hl : EndsR s.data.toList t j l) (k : Nat) (l0 : List Nat) (hl0 : EndsR s.data.toList t 0 l0) (hk : l0.length = k + 1) (hx : l0.getLast? = some s.size) :
    Calls Tryd.prog 6 #[v, .string s, .int .i64 i] w fun e w' => e = .returned (.bool true) ∧ Below w.heap.size w w' := by
  have HO : Hid (NdOk t.flat) := fun n hn => C4.wf_ok (hw n hn).2
  have H0 : Hid _ := h0
  have S0 : Hid (Stay w w) := ⟨Below.refl _ _, hE⟩
  have CF : Hid _ := fault_any t.flat HO.out v w hN
  subst hij
  obtain ⟨hl60, hr, hv⟩ := (faultL_zero t.flat).1 hf
  have hrr : ∀ n ∈ t.flat, (1 ≤ n.op ∧ n.op ≤ 9) ∧ n.c.ok := fun n hn => ⟨(hr n hn).1, HO.out n hn⟩
  have e1 : meanF t.flat s.size = 0 := (meanF_zero _ _).2 ⟨hf, h4⟩
  have hyf : true = true ↔ Fit s.data.toList t 0 s.size := by
    rw [← sl, ← hl0.all, sl]
    rw [hx]; simp
  have C0 : Hid (∀ w', Below w.heap.size w w' → Calls Tryd.prog 36 #[v, .string s, .int .i64 0] w' fun e w'' => ∃ b5 o5 uc, e = .returned (.slice (some ⟨b5, o5, none⟩) (k + 1) uc) ∧ Below w'.heap.size w' w'' ∧ w''.cell? ⟨b5, o5 + k, none⟩ = some (.int .i64 (s.size : Int))) := fun w' hb => (endsOf_any t ht v s (by omega) 0 (by omega) l0 hl0 w' (hN.below hb) hrr hl60).mono fun e w2 ⟨u, h1, h2, h3⟩ => by
    obtain ⟨ua, uc, rfl, _⟩ := isIn_form h3
    obtain ⟨b5, o5, rfl, x', hx', hc⟩ := isIn_last h3 (by intro e; rw [e] at hk; simp at hk)
    rw [hx] at hx'
    obtain rfl := Option.some.inj hx'
    rw [hk] at h1 hc
    exact ⟨b5, o5, uc, h1, h2, by simpa using hc⟩
  have kl : k ≤ s.size := by have := hl0.len; rw [hk, sl] at this; omega
  have k0 : (0 : Int) ≤ (k : Int) := by omega
  have k1 : (k : Int) < (k : Int) + 1 := by omega
  have k2 : (0 : Int) < (k : Int) + 1 := by omega
  have C2 : Hid (∀ w', Below w.heap.size w w' → Calls Tryd.prog 39 #[v, .string s] w' fun e w'' => e = .returned (.tuple #[.bool true, .nilIface]) ∧ Below w'.heap.size w' w'') := fun w' hb => Q.yes t v s true w' (hT.below hb (Nat.le_refl _)) ht (hN.below hb) hw e1 hyf
  have e2 : meanE t.flat s.size (j : Int) = 0 := (meanE_zero _ _ _).2 ⟨hf, h4, by omega, by omega⟩
  have C3 : Hid (∀ w', Below w.heap.size w w' → Calls Tryd.prog 36 #[v, .string s, .int .i64 (j : Int)] w' fun e w'' => ∃ u, e = .returned u ∧ Below w'.heap.size w' w'' ∧ IsIn w'' u l) := fun w' hb => endsOf_any t ht v s (by omega) j hj l hl w' (hN.below hb) hrr hl60
  have C1 : Hid (∀ w', Below w.heap.size w w' → Calls Tryd.prog 37 #[v, .string s, .int .i64 (j : Int)] w' fun e w'' => ∃ u, e = .returned (.tuple #[u, errV 0]) ∧ Below w'.heap.size w' w'' ∧ IsIn w'' u l) := fun w' hb => P.ends t v s j l w' (hT.below hb (Nat.le_refl _)) ht (hN.below hb) hw e2 hl
  have j0 : (0 : Int) ≤ (j : Int) := by omega
  have j1 : (j : Int) ≤ (s.size : Int) := by omega
  obtain ⟨a, cap, rfl, hm⟩ := nsIn_form hN
  rw [hf] at CF
  have g4 : ¬ (400 : Int) < (s.size : Int) := by omega
  clear hw P Q hN hE h0 hf e1 e2 hs hr hv hrr hl60 hyf hl0 ht hl hx hk
  go_enter Tryd.func6, Tryd.ntmps6
  go_wp2_with fail
  refine Calls.mono (CF.out) ?_
  rintro e w1 ⟨rfl, hb⟩
  have S1 : Hid (Stay w w1) := S0.out.more H0.out hb
  clear hb
  go_wp2_with fail
  refine Calls.mono (C0.out _ S1.out.b) ?_
  rintro e w2 ⟨b5, o5, uc, rfl, hb, cx⟩
  have S2 : Hid (Stay w w2) := S1.out.more H0.out hb
  clear hb
  go_wp2_with fail
  refine Calls.mono (C3.out _ S2.out.b) ?_
  rintro e w3 ⟨u, rfl, hb, hu⟩
  have V3 := hid hu
  clear hu
  obtain ⟨va, vc, rfl, vm⟩ := isIn_form V3.out
  have S3 : Hid (Stay w w3) := S2.out.more H0.out hb
  clear hb
  go_wp2_with fail
  refine Calls.mono (C1.out _ S3.out.b) ?_
  rintro e w4 ⟨u, rfl, hb, hu⟩
  have U4 := hid hu
  have V4 := hid (V3.out.below hb)
  clear hu
  obtain ⟨ua, uc, rfl, um⟩ := isIn_form U4.out
  have S4 : Hid (Stay w w4) := S3.out.more H0.out hb
  clear hb
  go_wp2_with fail
  refine Calls.mono (error_self _ _ S4.out.e) ?_
  rintro e w5 ⟨rfl, hb⟩
  have U5 := hid (U4.out.below hb)
  have V5 := hid (V4.out.below hb)
  have S5 : Hid (Stay w w5) := S4.out.more H0.out hb
  clear hb
  go_wp2_with fail
  have CI := hid (ints_any l l _ _ _ U5.out V5.out)
  rw [beq_self_eq_true] at CI
  refine Calls.mono (CI.out) ?_
  rintro e w6 ⟨rfl, hb⟩
  have S6 : Hid (Stay w w6) := S5.out.more H0.out hb
  clear hb
  go_wp2_with fail
  refine Calls.mono (C2.out _ S6.out.b) ?_
  rintro e w7 ⟨rfl, hb⟩
  have S7 : Hid (Stay w w7) := S6.out.more H0.out hb
  clear hb
  go_wp2_with fail
  refine Calls.mono (error_self 0 _ S7.out.e) ?_
  rintro e w8 ⟨rfl, hb⟩
  have S8 : Hid (Stay w w8) := S7.out.more H0.out hb
  clear hb
  go_wp2_with fail
  go_ret
  exact ⟨rfl, S8.out.b⟩
theorem meanIs_any (P : MeanN) (Q : MeanY) (ns : List Nd) (v : Value) (s : ByteArray) (hs : s.size ≤ maxLen) (i : Int) (w : World) (hT : Tab w) (hN : NsIn w v ns) (hw : ∀ n ∈ ns, n.wf) (hE : w.cell? ⟨0, 0, none⟩ = some (rty 28)) (h0 : 0 < w.heap.size) :
    Calls Tryd.prog 6 #[v, .string s, .int .i64 i] w fun e w' => e = .returned (.bool true) ∧ Below w.heap.size w w' := by
  by_cases hf : faultL ns = 0
  · by_cases h4 : 400 < s.size
    · exact meanIs_long P Q ns v s hs i w hT hN hw hE h0 hf h4
    · obtain ⟨_, _, hv⟩ := (faultL_zero ns).1 hf
      obtain ⟨t, ht, rfl⟩ := tree_of ns hv
      obtain ⟨l0, hl0⟩ := ends_total s.data.toList t 0
      have h4' : s.size ≤ 400 := by omega
      have hcase : (EndsR s.data.toList t 0 [] ∧ l0 = []) ∨ (∃ k x, l0.length = k + 1 ∧ l0.getLast? = some x) := by
        cases hq : l0.getLast? with
        | none =>
          have e : l0 = [] := List.getLast?_eq_none_iff.1 hq
          exact Or.inl ⟨e ▸ hl0, e⟩
        | some x =>
          refine Or.inr ⟨l0.length - 1, x, ?_, rfl⟩
          cases l0 with
          | nil => cases hq
          | cons a b => simp
      by_cases hin : 0 ≤ i ∧ i ≤ s.size
      · obtain ⟨j, hj⟩ : ∃ j : Nat, i = j := ⟨i.toNat, by omega⟩
        obtain ⟨l, hl⟩ := ends_total s.data.toList t j
        rcases hcase with ⟨h1, _⟩ | ⟨k, x, hk, hx⟩
        · exact meanIs_in_none P Q t ht v s hs i w hT hN hw hE h0 hf h4' j (by omega) hj l hl h1
        · by_cases hxs : x = s.size
          · exact meanIs_in_yes P Q t ht v s hs i w hT hN hw hE h0 hf h4' j (by omega) hj l hl k l0 hl0 hk (hxs ▸ hx)
          · exact meanIs_in_no P Q t ht v s hs i w hT hN hw hE h0 hf h4' j (by omega) hj l hl k x l0 hl0 hk hx hxs
      · by_cases hneg : i < 0
        · rcases hcase with ⟨h1, _⟩ | ⟨k, x, hk, hx⟩
          · exact meanIs_neg_none P Q t ht v s hs i w hT hN hw hE h0 hf h4' hneg h1
          · by_cases hxs : x = s.size
            · exact meanIs_neg_yes P Q t ht v s hs i w hT hN hw hE h0 hf h4' hneg k l0 hl0 hk (hxs ▸ hx)
            · exact meanIs_neg_no P Q t ht v s hs i w hT hN hw hE h0 hf h4' hneg k x l0 hl0 hk hx hxs
        · have hfar : (s.size : Int) < i := by omega
          rcases hcase with ⟨h1, _⟩ | ⟨k, x, hk, hx⟩
          · exact meanIs_far_none P Q t ht v s hs i w hT hN hw hE h0 hf h4' hfar h1
          · by_cases hxs : x = s.size
            · exact meanIs_far_yes P Q t ht v s hs i w hT hN hw hE h0 hf h4' hfar k l0 hl0 hk (hxs ▸ hx)
            · exact meanIs_far_no P Q t ht v s hs i w hT hN hw hE h0 hf h4' hfar k x l0 hl0 hk hx hxs
  · exact meanIs_bad P Q ns v s hs i w hT hN hw hE h0 hf
end Go.Proofs.YtajkkmnojfghoaaDoor
