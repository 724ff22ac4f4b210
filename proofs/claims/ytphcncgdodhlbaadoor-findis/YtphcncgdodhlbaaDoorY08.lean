/- The law FindIs, walked from what the document asks of package find. (Made by wip/tools/genfni.py.) -/
import Derived.Test.YtphcncgdodhlbaaDoorY04
import Derived.Test.YtphcncgdodhlbaaDoorY07
import Derived.Test.YtphcncgdodhlbaaDoorY03
namespace Go.Proofs.YtphcncgdodhlbaaDoor
set_option linter.unusedSimpArgs false
set_option linter.unusedVariables false
set_option maxRecDepth 100000
open Go.RowKit
theorem spO_fndX (r : Option (Nat × Nat)) : spO r = fndX r := by cases r <;> rfl
set_option maxHeartbeats 8000000 in
theorem findIs_fault {X : World → Prop} (hXb : ∀ w w', X w → Below w.heap.size w w' → X w') (P : FindC X) (L : FindL X) (ns : List Nd) (v : Value) (s : ByteArray) (hs : s.size ≤ maxLen) (i : Int) (w : World) (hX : X w) (hN : NsIn w v ns) (wN : ∀ n ∈ ns, n.wf) (hE : w.cell? ⟨0, 0, none⟩ = some (rty 32)) (h0 : 0 < w.heap.size) (hf : ¬ faultL ns = 0) :
    Calls Tryd.prog 3 #[v, .string s, .int .i64 i] w fun e w' => e = .returned (.bool true) ∧ Below w.heap.size w w' := by
  have HON : NdOk ns := fun n hn => C4.wf_ok (wN n hn).2
  have HFA : Hid (∀ w', Below w.heap.size w w' → _) := fun w' hb => fault_any ns HON v w' (hN.below hb)
  have emf : meanF ns s.size = faultL ns := by unfold meanF; rw [if_neg hf]
  have hmf : ¬ meanF ns s.size = 0 := by rw [emf]; exact hf
  have eme : meanE ns s.size i = faultL ns := by unfold meanE; rw [if_neg hmf, emf]
  have hme : ¬ meanE ns s.size i = 0 := by rw [eme]; exact hf
  have hvz := hf
  have HFD : Hid (∀ w', Below w.heap.size w w' → _) := fun w' hb => P.bad _ v s i w' (hN.below hb) wN hs hme
  have HAL : Hid (∀ w', Below w.heap.size w w' → _) := fun w' hb => L.bad _ v s w' (hN.below hb) wN hs hmf
  have HE1 : Hid (∀ w', Below w.heap.size w w' → _) := fun w' hb => error_self (faultL ns) w' ((hb.cell (p := ⟨0, 0, none⟩) h0).trans hE)
  have ev : errV (faultL ns) = .iface 23 (.int .i64 (faultL ns)) := by unfold errV; rw [if_neg hvz]
  rw [eme, ev] at HFD
  rw [emf, ev] at HAL
  rw [ev] at HE1
  have HE2 := HE1
  clear ev
  have hq : ∀ w, (Op.equalIn 10000 28 (.agg #[.int .i64 0, .int .i64 0]) (.agg #[.int .i64 0, .int .i64 0])).run Tryd.prog w = .ok true w := fun w => (eqSp _ _ _ _ w).trans (by simp)
  have fz : (faultL ns == 0) = false := by rw [beq_eq_false_iff_ne]; exact hf
  clear emf hmf eme hme hvz hf
  have B := hid (Below.refl w.heap.size w)
  obtain ⟨va, vc, rfl, vm⟩ := nsIn_form hN
  unfold maxLen at hs
  clear hN P L hX hXb
  go_enter Tryd.func3, Tryd.ntmps3
  go_wp2_with fail
  refine Calls.mono (HFA.out _ B.out) ?_
  rintro e w1 ⟨rfl, hb⟩
  replace B := hid (B.out.trans (hb.mono B.out.size))
  clear hb
  obtain ⟨wq, hwq⟩ : ∃ W, w1.alloc (.cells #[.int .i64 0, .int .i64 0] 28) = W := ⟨_, rfl⟩
  have HW : Hid (∀ w', Below wq.heap.size wq w' → w'.cell? ⟨w1.heap.size, 0, none⟩ = some (.int .i64 0) ∧ w'.cell? ⟨w1.heap.size, 1, none⟩ = some (.int .i64 0)) := by
    intro w' hb
    have hl : w1.heap.size < wq.heap.size := by rw [← hwq]; simp
    exact ⟨(hb.cell (p := ⟨w1.heap.size, 0, none⟩) hl).trans (by rw [← hwq]; simp), (hb.cell (p := ⟨w1.heap.size, 1, none⟩) hl).trans (by rw [← hwq]; simp)⟩
  replace B := hid (B.out.alloc B.out.size (.cells #[.int .i64 0, .int .i64 0] 28))
  rw [hwq] at B
  go_wp2_with fail
  refine Calls.mono (HFD.out _ B.out) ?_
  rintro e w3 ⟨rfl, hb⟩
  have HB3 := hid hb
  replace B := hid (B.out.trans (hb.mono B.out.size))
  clear hb
  replace B := hid (B.out.alloc B.out.size (.cells #[.int .i64 0, .int .i64 0] 28))
  obtain ⟨w3', hw3⟩ : ∃ W, w3.alloc (.cells #[.int .i64 0, .int .i64 0] 28) = W := ⟨_, rfl⟩
  have HX5 : Hid (∀ w', Below w3'.heap.size w3' w' → w'.cell? ⟨w3.heap.size, 0, none⟩ = some (.int .i64 0) ∧ w'.cell? ⟨w3.heap.size, 1, none⟩ = some (.int .i64 0) ∧ w'.cell? ⟨w1.heap.size, 0, none⟩ = some (.int .i64 0) ∧ w'.cell? ⟨w1.heap.size, 1, none⟩ = some (.int .i64 0)) := by
    intro w' hb
    have hl : w3.heap.size < w3'.heap.size := by rw [← hw3]; simp
    have hb3 : Below w3.heap.size w3 w3' := by rw [← hw3]; exact (Below.refl _ _).alloc (Nat.le_refl _) _
    obtain ⟨k0, k1⟩ := HW.out w' (HB3.out.trans ((hb3.trans (hb.mono hb3.size)).mono HB3.out.size))
    exact ⟨(hb.cell (p := ⟨w3.heap.size, 0, none⟩) hl).trans (by rw [← hw3]; simp), (hb.cell (p := ⟨w3.heap.size, 1, none⟩) hl).trans (by rw [← hw3]; simp), k0, k1⟩
  rw [hw3] at B
  have B3 := hid (Below.refl w3'.heap.size w3')
  have HW3 := hid hw3
  clear hw3
  go_wp2_with fail
  rw [HW3.out]
  refine Calls.mono (HE1.out _ B.out) ?_
  rintro e w4 ⟨rfl, hb⟩
  replace B := hid (B.out.trans (hb.mono B.out.size))
  replace B3 := hid (B3.out.trans (hb.mono B3.out.size))
  clear hb
  clear HW3 HW HB3
  go_wp2_with fail
  refine Calls.mono (HAL.out _ B.out) ?_
  rintro e w5 ⟨u, rfl, hb, hu⟩
  replace B := hid (B.out.trans (hb.mono B.out.size))
  replace B3 := hid (B3.out.trans (hb.mono B3.out.size))
  clear hb
  obtain ⟨ua, uc, rfl, um⟩ := spIn_form hu
  have HU := hid hu
  clear hu
  go_wp2_with fail
  refine Calls.mono (HE2.out _ B.out) ?_
  rintro e w6 ⟨rfl, hb⟩
  have HU6 := hid (HU.out.below hb)
  replace B := hid (B.out.trans (hb.mono B.out.size))
  replace B3 := hid (B3.out.trans (hb.mono B3.out.size))
  clear hb
  have HSP := hid (spans_any _ _ _ _ w6 HU6.out (spIn_nil _))
  rw [spEq_self] at HSP
  clear HU HU6
  simp only [List.length_nil] at HSP ⊢
  go_wp2_with fail
  refine Calls.mono HSP.out ?_
  rintro e w7 ⟨rfl, hb⟩
  obtain ⟨p0, p1, q0, q1⟩ := HX5.out _ (B3.out.trans (hb.mono B3.out.size))
  replace B := hid (B.out.trans (hb.mono B.out.size))
  clear hb HX5 HSP
  go_wp2
  go_ret
  exact ⟨rfl, B.out⟩
set_option maxHeartbeats 8000000 in
theorem findIs_full {X : World → Prop} (hXb : ∀ w w', X w → Below w.heap.size w w' → X w') (P : FindC X) (L : FindL X) (ns : List Nd) (v : Value) (s : ByteArray) (hs : s.size ≤ maxLen) (i : Int) (w : World) (hX : X w) (hN : NsIn w v ns) (wN : ∀ n ∈ ns, n.wf) (hE : w.cell? ⟨0, 0, none⟩ = some (rty 32)) (h0 : 0 < w.heap.size) (hf : faultL ns = 0) (h4 : 400 < s.size) :
    Calls Tryd.prog 3 #[v, .string s, .int .i64 i] w fun e w' => e = .returned (.bool true) ∧ Below w.heap.size w w' := by
  have HON : NdOk ns := fun n hn => C4.wf_ok (wN n hn).2
  have HFA : Hid (∀ w', Below w.heap.size w w' → _) := fun w' hb => fault_any ns HON v w' (hN.below hb)
  have emf : meanF ns s.size = 3 := by unfold meanF; rw [if_pos hf, if_pos h4]
  have hmf : ¬ meanF ns s.size = 0 := by rw [emf]; decide
  have eme : meanE ns s.size i = 3 := by unfold meanE; rw [if_neg hmf, emf]
  have hme : ¬ meanE ns s.size i = 0 := by rw [eme]; decide
  have hvz : ¬ (3 : Int) = 0 := by decide
  have HFD : Hid (∀ w', Below w.heap.size w w' → _) := fun w' hb => P.bad _ v s i w' (hN.below hb) wN hs hme
  have HAL : Hid (∀ w', Below w.heap.size w w' → _) := fun w' hb => L.bad _ v s w' (hN.below hb) wN hs hmf
  have HE1 : Hid (∀ w', Below w.heap.size w w' → _) := fun w' hb => error_self 3 w' ((hb.cell (p := ⟨0, 0, none⟩) h0).trans hE)
  have ev : errV 3 = .iface 23 (.int .i64 3) := by unfold errV; rw [if_neg hvz]
  rw [eme, ev] at HFD
  rw [emf, ev] at HAL
  rw [ev] at HE1
  have HE2 := HE1
  clear ev
  have hq : ∀ w, (Op.equalIn 10000 28 (.agg #[.int .i64 0, .int .i64 0]) (.agg #[.int .i64 0, .int .i64 0])).run Tryd.prog w = .ok true w := fun w => (eqSp _ _ _ _ w).trans (by simp)
  rw [hf] at HFA
  have g4 : (400 : Int) < (s.size : Int) := by omega
  clear emf hmf eme hme hvz hf
  have B := hid (Below.refl w.heap.size w)
  obtain ⟨va, vc, rfl, vm⟩ := nsIn_form hN
  unfold maxLen at hs
  clear hN P L hX hXb
  go_enter Tryd.func3, Tryd.ntmps3
  go_wp2_with fail
  refine Calls.mono (HFA.out _ B.out) ?_
  rintro e w1 ⟨rfl, hb⟩
  replace B := hid (B.out.trans (hb.mono B.out.size))
  clear hb
  obtain ⟨wq, hwq⟩ : ∃ W, w1.alloc (.cells #[.int .i64 0, .int .i64 0] 28) = W := ⟨_, rfl⟩
  have HW : Hid (∀ w', Below wq.heap.size wq w' → w'.cell? ⟨w1.heap.size, 0, none⟩ = some (.int .i64 0) ∧ w'.cell? ⟨w1.heap.size, 1, none⟩ = some (.int .i64 0)) := by
    intro w' hb
    have hl : w1.heap.size < wq.heap.size := by rw [← hwq]; simp
    exact ⟨(hb.cell (p := ⟨w1.heap.size, 0, none⟩) hl).trans (by rw [← hwq]; simp), (hb.cell (p := ⟨w1.heap.size, 1, none⟩) hl).trans (by rw [← hwq]; simp)⟩
  replace B := hid (B.out.alloc B.out.size (.cells #[.int .i64 0, .int .i64 0] 28))
  rw [hwq] at B
  go_wp2_with fail
  refine Calls.mono (HFD.out _ B.out) ?_
  rintro e w3 ⟨rfl, hb⟩
  have HB3 := hid hb
  replace B := hid (B.out.trans (hb.mono B.out.size))
  clear hb
  replace B := hid (B.out.alloc B.out.size (.cells #[.int .i64 0, .int .i64 0] 28))
  obtain ⟨w3', hw3⟩ : ∃ W, w3.alloc (.cells #[.int .i64 0, .int .i64 0] 28) = W := ⟨_, rfl⟩
  have HX5 : Hid (∀ w', Below w3'.heap.size w3' w' → w'.cell? ⟨w3.heap.size, 0, none⟩ = some (.int .i64 0) ∧ w'.cell? ⟨w3.heap.size, 1, none⟩ = some (.int .i64 0) ∧ w'.cell? ⟨w1.heap.size, 0, none⟩ = some (.int .i64 0) ∧ w'.cell? ⟨w1.heap.size, 1, none⟩ = some (.int .i64 0)) := by
    intro w' hb
    have hl : w3.heap.size < w3'.heap.size := by rw [← hw3]; simp
    have hb3 : Below w3.heap.size w3 w3' := by rw [← hw3]; exact (Below.refl _ _).alloc (Nat.le_refl _) _
    obtain ⟨k0, k1⟩ := HW.out w' (HB3.out.trans ((hb3.trans (hb.mono hb3.size)).mono HB3.out.size))
    exact ⟨(hb.cell (p := ⟨w3.heap.size, 0, none⟩) hl).trans (by rw [← hw3]; simp), (hb.cell (p := ⟨w3.heap.size, 1, none⟩) hl).trans (by rw [← hw3]; simp), k0, k1⟩
  rw [hw3] at B
  have B3 := hid (Below.refl w3'.heap.size w3')
  have HW3 := hid hw3
  clear hw3
  go_wp2_with fail
  rw [HW3.out]
  refine Calls.mono (HE1.out _ B.out) ?_
  rintro e w4 ⟨rfl, hb⟩
  replace B := hid (B.out.trans (hb.mono B.out.size))
  replace B3 := hid (B3.out.trans (hb.mono B3.out.size))
  clear hb
  clear HW3 HW HB3
  go_wp2_with fail
  refine Calls.mono (HAL.out _ B.out) ?_
  rintro e w5 ⟨u, rfl, hb, hu⟩
  replace B := hid (B.out.trans (hb.mono B.out.size))
  replace B3 := hid (B3.out.trans (hb.mono B3.out.size))
  clear hb
  obtain ⟨ua, uc, rfl, um⟩ := spIn_form hu
  have HU := hid hu
  clear hu
  go_wp2_with fail
  refine Calls.mono (HE2.out _ B.out) ?_
  rintro e w6 ⟨rfl, hb⟩
  have HU6 := hid (HU.out.below hb)
  replace B := hid (B.out.trans (hb.mono B.out.size))
  replace B3 := hid (B3.out.trans (hb.mono B3.out.size))
  clear hb
  have HSP := hid (spans_any _ _ _ _ w6 HU6.out (spIn_nil _))
  rw [spEq_self] at HSP
  clear HU HU6
  simp only [List.length_nil] at HSP ⊢
  go_wp2_with fail
  refine Calls.mono HSP.out ?_
  rintro e w7 ⟨rfl, hb⟩
  obtain ⟨p0, p1, q0, q1⟩ := HX5.out _ (B3.out.trans (hb.mono B3.out.size))
  replace B := hid (B.out.trans (hb.mono B.out.size))
  clear hb HX5 HSP
  go_wp2
  go_ret
  exact ⟨rfl, B.out⟩
set_option maxHeartbeats 8000000 in
theorem findIs_below {X : World → Prop} (hXb : ∀ w w', X w → Below w.heap.size w w' → X w') (P : FindC X) (L : FindL X) (t : Rx) (ht : t.Ok) (v : Value) (s : ByteArray) (hs : s.size ≤ maxLen) (i : Int) (w : World) (hX : X w) (hN : NsIn w v t.flat) (wN : ∀ n ∈ t.flat, n.wf) (hE : w.cell? ⟨0, 0, none⟩ = some (rty 32)) (h0 : 0 < w.heap.size) (hf : faultL t.flat = 0) (h4 : s.size ≤ 400) (hi : i < 0) :
    Calls Tryd.prog 3 #[v, .string s, .int .i64 i] w fun e w' => e = .returned (.bool true) ∧ Below w.heap.size w w' := by
  have HON : NdOk t.flat := fun n hn => C4.wf_ok (wN n hn).2
  have HFA : Hid (∀ w', Below w.heap.size w w' → _) := fun w' hb => fault_any t.flat HON v w' (hN.below hb)
  obtain ⟨hl60, hops, -⟩ := (faultL_zero t.flat).1 hf
  have hrr : ∀ n ∈ t.flat, (1 ≤ n.op ∧ n.op ≤ 9) ∧ n.c.ok := fun n hn => ⟨(hops n hn).1, HON n hn⟩
  have emf : meanF t.flat s.size = 0 := (meanF_zero _ _).2 ⟨hf, h4⟩
  obtain ⟨l, hl⟩ := all_total s.data.toList t _ 0 (Nat.le_refl _)
  have HAO : Hid (∀ w', Below w.heap.size w w' → _) := fun w' hb => allOf_any t ht v s h4 l hl w' (hN.below hb) hrr hl60
  have HAL : Hid (∀ w', Below w.heap.size w w' → _) := fun w' hb => L.all t v s l w' (hXb w w' hX hb) ht (hN.below hb) wN emf hl
  have HE2 : Hid (∀ w', Below w.heap.size w w' → _) := fun w' hb => error_self 0 w' ((hb.cell (p := ⟨0, 0, none⟩) h0).trans hE)
  rw [show errV 0 = .nilIface from rfl] at HE2
  rw [hf] at HFA
  have g4 : (s.size : Int) ≤ 400 := by omega
  have eme : meanE t.flat s.size i = 1 := by unfold meanE; rw [if_pos emf, if_neg (by omega)]
  have hme : ¬ meanE t.flat s.size i = 0 := by rw [eme]; decide
  have HFD : Hid (∀ w', Below w.heap.size w w' → _) := fun w' hb => P.bad _ v s i w' (hN.below hb) wN hs hme
  have HE1 : Hid (∀ w', Below w.heap.size w w' → _) := fun w' hb => error_self 1 w' ((hb.cell (p := ⟨0, 0, none⟩) h0).trans hE)
  rw [eme, show errV 1 = .iface 23 (.int .i64 1) from rfl] at HFD
  rw [show errV 1 = .iface 23 (.int .i64 1) from rfl] at HE1
  have hq : ∀ w, (Op.equalIn 10000 28 (.agg #[.int .i64 0, .int .i64 0]) (.agg #[.int .i64 0, .int .i64 0])).run Tryd.prog w = .ok true w := fun w => (eqSp _ _ _ _ w).trans (by simp)
  clear emf eme hme hf hl hrr hops
  have B := hid (Below.refl w.heap.size w)
  obtain ⟨va, vc, rfl, vm⟩ := nsIn_form hN
  unfold maxLen at hs
  clear hN P L hX hXb
  go_enter Tryd.func3, Tryd.ntmps3
  go_wp2_with fail
  refine Calls.mono (HFA.out _ B.out) ?_
  rintro e w1 ⟨rfl, hb⟩
  replace B := hid (B.out.trans (hb.mono B.out.size))
  clear hb
  go_wp2_with fail
  refine Calls.mono (HAO.out _ B.out) ?_
  rintro e w2 ⟨ua0, rfl, hu0, hb⟩
  replace B := hid (B.out.trans (hb.mono B.out.size))
  clear hb
  obtain ⟨a0, c0, rfl, m0⟩ := spIn_form hu0
  have HA0 := hid hu0
  clear hu0
  have BA := hid (Below.refl w2.heap.size w2)
  obtain ⟨wq, hwq⟩ : ∃ W, w2.alloc (.cells #[.int .i64 0, .int .i64 0] 28) = W := ⟨_, rfl⟩
  have HW : Hid (∀ w', Below wq.heap.size wq w' → w'.cell? ⟨w2.heap.size, 0, none⟩ = some (.int .i64 0) ∧ w'.cell? ⟨w2.heap.size, 1, none⟩ = some (.int .i64 0)) := by
    intro w' hb
    have hl : w2.heap.size < wq.heap.size := by rw [← hwq]; simp
    exact ⟨(hb.cell (p := ⟨w2.heap.size, 0, none⟩) hl).trans (by rw [← hwq]; simp), (hb.cell (p := ⟨w2.heap.size, 1, none⟩) hl).trans (by rw [← hwq]; simp)⟩
  replace B := hid (B.out.alloc B.out.size (.cells #[.int .i64 0, .int .i64 0] 28))
  replace BA := hid (BA.out.alloc BA.out.size (.cells #[.int .i64 0, .int .i64 0] 28))
  rw [hwq] at B BA
  go_wp2_with fail
  refine Calls.mono (HFD.out _ B.out) ?_
  rintro e w3 ⟨rfl, hb⟩
  have HB3 := hid hb
  replace B := hid (B.out.trans (hb.mono B.out.size))
  replace BA := hid (BA.out.trans (hb.mono BA.out.size))
  clear hb
  replace B := hid (B.out.alloc B.out.size (.cells #[.int .i64 0, .int .i64 0] 28))
  replace BA := hid (BA.out.alloc BA.out.size (.cells #[.int .i64 0, .int .i64 0] 28))
  obtain ⟨w3', hw3⟩ : ∃ W, w3.alloc (.cells #[.int .i64 0, .int .i64 0] 28) = W := ⟨_, rfl⟩
  have HX5 : Hid (∀ w', Below w3'.heap.size w3' w' → w'.cell? ⟨w3.heap.size, 0, none⟩ = some (.int .i64 0) ∧ w'.cell? ⟨w3.heap.size, 1, none⟩ = some (.int .i64 0) ∧ w'.cell? ⟨w2.heap.size, 0, none⟩ = some (.int .i64 0) ∧ w'.cell? ⟨w2.heap.size, 1, none⟩ = some (.int .i64 0)) := by
    intro w' hb
    have hl : w3.heap.size < w3'.heap.size := by rw [← hw3]; simp
    have hb3 : Below w3.heap.size w3 w3' := by rw [← hw3]; exact (Below.refl _ _).alloc (Nat.le_refl _) _
    obtain ⟨k0, k1⟩ := HW.out w' (HB3.out.trans ((hb3.trans (hb.mono hb3.size)).mono HB3.out.size))
    exact ⟨(hb.cell (p := ⟨w3.heap.size, 0, none⟩) hl).trans (by rw [← hw3]; simp), (hb.cell (p := ⟨w3.heap.size, 1, none⟩) hl).trans (by rw [← hw3]; simp), k0, k1⟩
  rw [hw3] at B BA
  have B3 := hid (Below.refl w3'.heap.size w3')
  have HW3 := hid hw3
  clear hw3
  go_wp2_with fail
  rw [HW3.out]
  refine Calls.mono (HE1.out _ B.out) ?_
  rintro e w4 ⟨rfl, hb⟩
  replace B := hid (B.out.trans (hb.mono B.out.size))
  replace BA := hid (BA.out.trans (hb.mono BA.out.size))
  replace B3 := hid (B3.out.trans (hb.mono B3.out.size))
  clear hb
  clear HW3 HW HB3
  go_wp2_with fail
  refine Calls.mono (HAL.out _ B.out) ?_
  rintro e w5 ⟨u, rfl, hb, hu⟩
  replace B := hid (B.out.trans (hb.mono B.out.size))
  replace BA := hid (BA.out.trans (hb.mono BA.out.size))
  replace B3 := hid (B3.out.trans (hb.mono B3.out.size))
  clear hb
  obtain ⟨ua, uc, rfl, um⟩ := spIn_form hu
  have HU := hid hu
  clear hu
  go_wp2_with fail
  refine Calls.mono (HE2.out _ B.out) ?_
  rintro e w6 ⟨rfl, hb⟩
  have HU6 := hid (HU.out.below hb)
  replace B := hid (B.out.trans (hb.mono B.out.size))
  replace BA := hid (BA.out.trans (hb.mono BA.out.size))
  replace B3 := hid (B3.out.trans (hb.mono B3.out.size))
  clear hb
  have HSP := hid (spans_any _ _ _ _ w6 HU6.out (HA0.out.below BA.out))
  rw [spEq_self] at HSP
  clear HU HU6
  simp only [List.length_nil] at HSP ⊢
  go_wp2_with fail
  refine Calls.mono HSP.out ?_
  rintro e w7 ⟨rfl, hb⟩
  obtain ⟨p0, p1, q0, q1⟩ := HX5.out _ (B3.out.trans (hb.mono B3.out.size))
  replace B := hid (B.out.trans (hb.mono B.out.size))
  clear hb HX5 HSP
  go_wp2
  go_ret
  exact ⟨rfl, B.out⟩
set_option maxHeartbeats 8000000 in
theorem findIs_behind {X : World → Prop} (hXb : ∀ w w', X w → Below w.heap.size w w' → X w') (P : FindC X) (L : FindL X) (t : Rx) (ht : t.Ok) (v : Value) (s : ByteArray) (hs : s.size ≤ maxLen) (i : Int) (w : World) (hX : X w) (hN : NsIn w v t.flat) (wN : ∀ n ∈ t.flat, n.wf) (hE : w.cell? ⟨0, 0, none⟩ = some (rty 32)) (h0 : 0 < w.heap.size) (hf : faultL t.flat = 0) (h4 : s.size ≤ 400) (hi : (s.size : Int) < i) :
    Calls Tryd.prog 3 #[v, .string s, .int .i64 i] w fun e w' => e = .returned (.bool true) ∧ Below w.heap.size w w' := by
  have HON : NdOk t.flat := fun n hn => C4.wf_ok (wN n hn).2
  have HFA : Hid (∀ w', Below w.heap.size w w' → _) := fun w' hb => fault_any t.flat HON v w' (hN.below hb)
  obtain ⟨hl60, hops, -⟩ := (faultL_zero t.flat).1 hf
  have hrr : ∀ n ∈ t.flat, (1 ≤ n.op ∧ n.op ≤ 9) ∧ n.c.ok := fun n hn => ⟨(hops n hn).1, HON n hn⟩
  have emf : meanF t.flat s.size = 0 := (meanF_zero _ _).2 ⟨hf, h4⟩
  obtain ⟨l, hl⟩ := all_total s.data.toList t _ 0 (Nat.le_refl _)
  have HAO : Hid (∀ w', Below w.heap.size w w' → _) := fun w' hb => allOf_any t ht v s h4 l hl w' (hN.below hb) hrr hl60
  have HAL : Hid (∀ w', Below w.heap.size w w' → _) := fun w' hb => L.all t v s l w' (hXb w w' hX hb) ht (hN.below hb) wN emf hl
  have HE2 : Hid (∀ w', Below w.heap.size w w' → _) := fun w' hb => error_self 0 w' ((hb.cell (p := ⟨0, 0, none⟩) h0).trans hE)
  rw [show errV 0 = .nilIface from rfl] at HE2
  rw [hf] at HFA
  have g4 : (s.size : Int) ≤ 400 := by omega
  have eme : meanE t.flat s.size i = 1 := by unfold meanE; rw [if_pos emf, if_neg (by omega)]
  have hme : ¬ meanE t.flat s.size i = 0 := by rw [eme]; decide
  have HFD : Hid (∀ w', Below w.heap.size w w' → _) := fun w' hb => P.bad _ v s i w' (hN.below hb) wN hs hme
  have HE1 : Hid (∀ w', Below w.heap.size w w' → _) := fun w' hb => error_self 1 w' ((hb.cell (p := ⟨0, 0, none⟩) h0).trans hE)
  rw [eme, show errV 1 = .iface 23 (.int .i64 1) from rfl] at HFD
  rw [show errV 1 = .iface 23 (.int .i64 1) from rfl] at HE1
  have hq : ∀ w, (Op.equalIn 10000 28 (.agg #[.int .i64 0, .int .i64 0]) (.agg #[.int .i64 0, .int .i64 0])).run Tryd.prog w = .ok true w := fun w => (eqSp _ _ _ _ w).trans (by simp)
  have gi : ¬ i < 0 := by omega
  clear emf eme hme hf hl hrr hops
  have B := hid (Below.refl w.heap.size w)
  obtain ⟨va, vc, rfl, vm⟩ := nsIn_form hN
  unfold maxLen at hs
  clear hN P L hX hXb
  go_enter Tryd.func3, Tryd.ntmps3
  go_wp2_with fail
  refine Calls.mono (HFA.out _ B.out) ?_
  rintro e w1 ⟨rfl, hb⟩
  replace B := hid (B.out.trans (hb.mono B.out.size))
  clear hb
  go_wp2_with fail
  refine Calls.mono (HAO.out _ B.out) ?_
  rintro e w2 ⟨ua0, rfl, hu0, hb⟩
  replace B := hid (B.out.trans (hb.mono B.out.size))
  clear hb
  obtain ⟨a0, c0, rfl, m0⟩ := spIn_form hu0
  have HA0 := hid hu0
  clear hu0
  have BA := hid (Below.refl w2.heap.size w2)
  obtain ⟨wq, hwq⟩ : ∃ W, w2.alloc (.cells #[.int .i64 0, .int .i64 0] 28) = W := ⟨_, rfl⟩
  have HW : Hid (∀ w', Below wq.heap.size wq w' → w'.cell? ⟨w2.heap.size, 0, none⟩ = some (.int .i64 0) ∧ w'.cell? ⟨w2.heap.size, 1, none⟩ = some (.int .i64 0)) := by
    intro w' hb
    have hl : w2.heap.size < wq.heap.size := by rw [← hwq]; simp
    exact ⟨(hb.cell (p := ⟨w2.heap.size, 0, none⟩) hl).trans (by rw [← hwq]; simp), (hb.cell (p := ⟨w2.heap.size, 1, none⟩) hl).trans (by rw [← hwq]; simp)⟩
  replace B := hid (B.out.alloc B.out.size (.cells #[.int .i64 0, .int .i64 0] 28))
  replace BA := hid (BA.out.alloc BA.out.size (.cells #[.int .i64 0, .int .i64 0] 28))
  rw [hwq] at B BA
  go_wp2_with fail
  refine Calls.mono (HFD.out _ B.out) ?_
  rintro e w3 ⟨rfl, hb⟩
  have HB3 := hid hb
  replace B := hid (B.out.trans (hb.mono B.out.size))
  replace BA := hid (BA.out.trans (hb.mono BA.out.size))
  clear hb
  replace B := hid (B.out.alloc B.out.size (.cells #[.int .i64 0, .int .i64 0] 28))
  replace BA := hid (BA.out.alloc BA.out.size (.cells #[.int .i64 0, .int .i64 0] 28))
  obtain ⟨w3', hw3⟩ : ∃ W, w3.alloc (.cells #[.int .i64 0, .int .i64 0] 28) = W := ⟨_, rfl⟩
  have HX5 : Hid (∀ w', Below w3'.heap.size w3' w' → w'.cell? ⟨w3.heap.size, 0, none⟩ = some (.int .i64 0) ∧ w'.cell? ⟨w3.heap.size, 1, none⟩ = some (.int .i64 0) ∧ w'.cell? ⟨w2.heap.size, 0, none⟩ = some (.int .i64 0) ∧ w'.cell? ⟨w2.heap.size, 1, none⟩ = some (.int .i64 0)) := by
    intro w' hb
    have hl : w3.heap.size < w3'.heap.size := by rw [← hw3]; simp
    have hb3 : Below w3.heap.size w3 w3' := by rw [← hw3]; exact (Below.refl _ _).alloc (Nat.le_refl _) _
    obtain ⟨k0, k1⟩ := HW.out w' (HB3.out.trans ((hb3.trans (hb.mono hb3.size)).mono HB3.out.size))
    exact ⟨(hb.cell (p := ⟨w3.heap.size, 0, none⟩) hl).trans (by rw [← hw3]; simp), (hb.cell (p := ⟨w3.heap.size, 1, none⟩) hl).trans (by rw [← hw3]; simp), k0, k1⟩
  rw [hw3] at B BA
  have B3 := hid (Below.refl w3'.heap.size w3')
  have HW3 := hid hw3
  clear hw3
  go_wp2_with fail
  rw [HW3.out]
  refine Calls.mono (HE1.out _ B.out) ?_
  rintro e w4 ⟨rfl, hb⟩
  replace B := hid (B.out.trans (hb.mono B.out.size))
  replace BA := hid (BA.out.trans (hb.mono BA.out.size))
  replace B3 := hid (B3.out.trans (hb.mono B3.out.size))
  clear hb
  clear HW3 HW HB3
  go_wp2_with fail
  refine Calls.mono (HAL.out _ B.out) ?_
  rintro e w5 ⟨u, rfl, hb, hu⟩
  replace B := hid (B.out.trans (hb.mono B.out.size))
  replace BA := hid (BA.out.trans (hb.mono BA.out.size))
  replace B3 := hid (B3.out.trans (hb.mono B3.out.size))
  clear hb
  obtain ⟨ua, uc, rfl, um⟩ := spIn_form hu
  have HU := hid hu
  clear hu
  go_wp2_with fail
  refine Calls.mono (HE2.out _ B.out) ?_
  rintro e w6 ⟨rfl, hb⟩
  have HU6 := hid (HU.out.below hb)
  replace B := hid (B.out.trans (hb.mono B.out.size))
  replace BA := hid (BA.out.trans (hb.mono BA.out.size))
  replace B3 := hid (B3.out.trans (hb.mono B3.out.size))
  clear hb
  have HSP := hid (spans_any _ _ _ _ w6 HU6.out (HA0.out.below BA.out))
  rw [spEq_self] at HSP
  clear HU HU6
  simp only [List.length_nil] at HSP ⊢
  go_wp2_with fail
  refine Calls.mono HSP.out ?_
  rintro e w7 ⟨rfl, hb⟩
  obtain ⟨p0, p1, q0, q1⟩ := HX5.out _ (B3.out.trans (hb.mono B3.out.size))
  replace B := hid (B.out.trans (hb.mono B.out.size))
  clear hb HX5 HSP
  go_wp2
  go_ret
  exact ⟨rfl, B.out⟩
set_option maxHeartbeats 8000000 in
theorem findIs_none {X : World → Prop} (hXb : ∀ w w', X w → Below w.heap.size w w' → X w') (P : FindC X) (L : FindL X) (t : Rx) (ht : t.Ok) (v : Value) (s : ByteArray) (hs : s.size ≤ maxLen) (i : Int) (w : World) (hX : X w) (hN : NsIn w v t.flat) (wN : ∀ n ∈ t.flat, n.wf) (hE : w.cell? ⟨0, 0, none⟩ = some (rty 32)) (h0 : 0 < w.heap.size) (hf : faultL t.flat = 0) (h4 : s.size ≤ 400) (hi0 : 0 ≤ i) (hi1 : i ≤ (s.size : Int)) (hr : FndR s.data.toList t i.toNat (none)) :
    Calls Tryd.prog 3 #[v, .string s, .int .i64 i] w fun e w' => e = .returned (.bool true) ∧ Below w.heap.size w w' := by
  have HON : NdOk t.flat := fun n hn => C4.wf_ok (wN n hn).2
  have HFA : Hid (∀ w', Below w.heap.size w w' → _) := fun w' hb => fault_any t.flat HON v w' (hN.below hb)
  obtain ⟨hl60, hops, -⟩ := (faultL_zero t.flat).1 hf
  have hrr : ∀ n ∈ t.flat, (1 ≤ n.op ∧ n.op ≤ 9) ∧ n.c.ok := fun n hn => ⟨(hops n hn).1, HON n hn⟩
  have emf : meanF t.flat s.size = 0 := (meanF_zero _ _).2 ⟨hf, h4⟩
  obtain ⟨l, hl⟩ := all_total s.data.toList t _ 0 (Nat.le_refl _)
  have HAO : Hid (∀ w', Below w.heap.size w w' → _) := fun w' hb => allOf_any t ht v s h4 l hl w' (hN.below hb) hrr hl60
  have HAL : Hid (∀ w', Below w.heap.size w w' → _) := fun w' hb => L.all t v s l w' (hXb w w' hX hb) ht (hN.below hb) wN emf hl
  have HE2 : Hid (∀ w', Below w.heap.size w w' → _) := fun w' hb => error_self 0 w' ((hb.cell (p := ⟨0, 0, none⟩) h0).trans hE)
  rw [show errV 0 = .nilIface from rfl] at HE2
  rw [hf] at HFA
  have g4 : (s.size : Int) ≤ 400 := by omega
  have eme : meanE t.flat s.size ((i.toNat : Nat) : Int) = 0 := by rw [Int.toNat_of_nonneg hi0]; unfold meanE; rw [if_pos emf, if_pos ⟨hi0, hi1⟩]
  have HFD : Hid (∀ w', Below w.heap.size w w' → _) := fun w' hb => P.find t v s i.toNat (none) w' (hXb w w' hX hb) ht (hN.below hb) wN eme hr
  have HFO : Hid (∀ w', Below w.heap.size w w' → _) := fun w' hb => findOf_any t ht v s h4 i.toNat (none) hr (by omega) w' (hN.below hb) hrr hl60
  rw [Int.toNat_of_nonneg hi0] at HFD HFO
  simp only [spO, fndX, fndE, Option.isSome_none, Option.isSome_some] at HFD HFO
  have HE1 : Hid (∀ w', Below w.heap.size w w' → _) := fun w' hb => error_self 4 w' ((hb.cell (p := ⟨0, 0, none⟩) h0).trans hE)
  rw [show errV 4 = .iface 23 (.int .i64 4) from rfl] at HFD HE1
  have hq : ∀ w, (Op.equalIn 10000 28 (.agg #[.int .i64 0, .int .i64 0]) (.agg #[.int .i64 0, .int .i64 0])).run Tryd.prog w = .ok true w := fun w => (eqSp _ _ _ _ w).trans (by simp)
  have gi : ¬ i < 0 := by omega
  clear emf eme hf hl hrr hops hr hi0
  have B := hid (Below.refl w.heap.size w)
  obtain ⟨va, vc, rfl, vm⟩ := nsIn_form hN
  unfold maxLen at hs
  clear hN P L hX hXb
  go_enter Tryd.func3, Tryd.ntmps3
  go_wp2_with fail
  refine Calls.mono (HFA.out _ B.out) ?_
  rintro e w1 ⟨rfl, hb⟩
  replace B := hid (B.out.trans (hb.mono B.out.size))
  clear hb
  go_wp2_with fail
  refine Calls.mono (HAO.out _ B.out) ?_
  rintro e w2 ⟨ua0, rfl, hu0, hb⟩
  replace B := hid (B.out.trans (hb.mono B.out.size))
  clear hb
  obtain ⟨a0, c0, rfl, m0⟩ := spIn_form hu0
  have HA0 := hid hu0
  clear hu0
  have BA := hid (Below.refl w2.heap.size w2)
  have BW := B
  obtain ⟨wq, hwq⟩ : ∃ W, w2.alloc (.cells #[.int .i64 0, .int .i64 0] 28) = W := ⟨_, rfl⟩
  have HW : Hid (∀ w', Below wq.heap.size wq w' → w'.cell? ⟨w2.heap.size, 0, none⟩ = some (.int .i64 0) ∧ w'.cell? ⟨w2.heap.size, 1, none⟩ = some (.int .i64 0)) := by
    intro w' hb
    have hl : w2.heap.size < wq.heap.size := by rw [← hwq]; simp
    exact ⟨(hb.cell (p := ⟨w2.heap.size, 0, none⟩) hl).trans (by rw [← hwq]; simp), (hb.cell (p := ⟨w2.heap.size, 1, none⟩) hl).trans (by rw [← hwq]; simp)⟩
  replace B := hid (B.out.alloc B.out.size (.cells #[.int .i64 0, .int .i64 0] 28))
  replace BA := hid (BA.out.alloc BA.out.size (.cells #[.int .i64 0, .int .i64 0] 28))
  rw [hwq] at B BA
  go_wp2_with fail
  refine Calls.mono (HFO.out _ B.out) ?_
  rintro e w8 ⟨rfl, hb⟩
  have HB8 := hid hb
  replace B := hid (B.out.trans (hb.mono B.out.size))
  replace BA := hid (BA.out.trans (hb.mono BA.out.size))
  clear hb
  replace B := hid (B.out.alloc B.out.size (.cells #[.int .i64 0, .int .i64 0] 28))
  replace BA := hid (BA.out.alloc BA.out.size (.cells #[.int .i64 0, .int .i64 0] 28))
  have hb9 : Below w8.heap.size w8 (w8.alloc (.cells #[.int .i64 0, .int .i64 0] 28)) := (Below.refl _ _).alloc (Nat.le_refl _) _
  have HB9 := hid (HB8.out.trans (hb9.mono HB8.out.size))
  have hz9 : (w8.alloc (.cells #[.int .i64 0, .int .i64 0] 28)).heap[w2.heap.size]? = some (.cells #[.int .i64 0, .int .i64 0] 28 (0, 0)) := by
    rw [HB9.out.block w2.heap.size (by rw [← hwq]; simp), ← hwq]
    exact heap_new w2 _
  have z0 : (w8.alloc (.cells #[.int .i64 0, .int .i64 0] 28)).cell? ⟨w2.heap.size, 0, none⟩ = some (.int .i64 0) := (Lib.cell_of_heap hz9 0).trans rfl
  have z1 : (w8.alloc (.cells #[.int .i64 0, .int .i64 0] 28)).cell? ⟨w2.heap.size, 1, none⟩ = some (.int .i64 0) := (Lib.cell_of_heap hz9 1).trans rfl
  have f0 := Lib.frozen_of_heap hz9 0
  have f1 := Lib.frozen_of_heap hz9 1
  have HP := hid (put2_heap hz9 (.int .i64 0) (.int .i64 0))
  clear HW HB8 HB9 hb9 hz9
  obtain ⟨wt, hwt⟩ : ∃ W, ((w8.alloc (.cells #[.int .i64 0, .int .i64 0] 28)).setCell ⟨w2.heap.size, 0, none⟩ (.int .i64 0)).setCell ⟨w2.heap.size, 1, none⟩ (.int .i64 0) = W := ⟨_, rfl⟩
  have hwb : w.heap.size ≤ w2.heap.size := by
    have h1 := BW.out.size
    exact h1
  replace B := hid ((B.out.setCell (p := ⟨w2.heap.size, 0, none⟩) hwb (.int .i64 0)).setCell (p := ⟨w2.heap.size, 1, none⟩) hwb (.int .i64 0))
  replace BA := hid ((BA.out.setCell (p := ⟨w2.heap.size, 0, none⟩) (Nat.le_refl _) (.int .i64 0)).setCell (p := ⟨w2.heap.size, 1, none⟩) (Nat.le_refl _) (.int .i64 0))
  rw [hwt] at B BA HP
  have t0 : wt.cell? ⟨w2.heap.size, 0, none⟩ = some (.int .i64 0) := (Lib.cell_of_heap HP.out 0).trans rfl
  have t1 : wt.cell? ⟨w2.heap.size, 1, none⟩ = some (.int .i64 0) := (Lib.cell_of_heap HP.out 1).trans rfl
  have u0 := Lib.frozen_of_heap HP.out 0
  have u1 := Lib.frozen_of_heap HP.out 1
  obtain ⟨wu, hwu⟩ : ∃ W, (wt.setCell ⟨w2.heap.size, 0, none⟩ (.int .i64 0)).setCell ⟨w2.heap.size, 1, none⟩ (.int .i64 0) = W := ⟨_, rfl⟩
  replace HP := hid (put2_heap HP.out (.int .i64 0) (.int .i64 0))
  replace B := hid ((B.out.setCell (p := ⟨w2.heap.size, 0, none⟩) hwb (.int .i64 0)).setCell (p := ⟨w2.heap.size, 1, none⟩) hwb (.int .i64 0))
  replace BA := hid ((BA.out.setCell (p := ⟨w2.heap.size, 0, none⟩) (Nat.le_refl _) (.int .i64 0)).setCell (p := ⟨w2.heap.size, 1, none⟩) (Nat.le_refl _) (.int .i64 0))
  rw [hwu] at B BA HP
  have HW : Hid (∀ w', Below wu.heap.size wu w' → w'.cell? ⟨w2.heap.size, 0, none⟩ = some (.int .i64 0) ∧ w'.cell? ⟨w2.heap.size, 1, none⟩ = some (.int .i64 0)) := by
    intro w' hb
    have hl : w2.heap.size < wu.heap.size := (Array.getElem?_eq_some_iff.1 HP.out).1
    exact ⟨(hb.cell (p := ⟨w2.heap.size, 0, none⟩) hl).trans ((Lib.cell_of_heap HP.out 0).trans rfl), (hb.cell (p := ⟨w2.heap.size, 1, none⟩) hl).trans ((Lib.cell_of_heap HP.out 1).trans rfl)⟩
  go_wp2_with fail
  refine Calls.mono (HFD.out _ B.out) ?_
  rintro e w3 ⟨rfl, hb⟩
  have HB3 := hid hb
  replace B := hid (B.out.trans (hb.mono B.out.size))
  replace BA := hid (BA.out.trans (hb.mono BA.out.size))
  clear hb
  replace B := hid (B.out.alloc B.out.size (.cells #[.int .i64 0, .int .i64 0] 28))
  replace BA := hid (BA.out.alloc BA.out.size (.cells #[.int .i64 0, .int .i64 0] 28))
  obtain ⟨w3', hw3⟩ : ∃ W, w3.alloc (.cells #[.int .i64 0, .int .i64 0] 28) = W := ⟨_, rfl⟩
  have HX5 : Hid (∀ w', Below w3'.heap.size w3' w' → w'.cell? ⟨w3.heap.size, 0, none⟩ = some (.int .i64 0) ∧ w'.cell? ⟨w3.heap.size, 1, none⟩ = some (.int .i64 0) ∧ w'.cell? ⟨w2.heap.size, 0, none⟩ = some (.int .i64 0) ∧ w'.cell? ⟨w2.heap.size, 1, none⟩ = some (.int .i64 0)) := by
    intro w' hb
    have hl : w3.heap.size < w3'.heap.size := by rw [← hw3]; simp
    have hb3 : Below w3.heap.size w3 w3' := by rw [← hw3]; exact (Below.refl _ _).alloc (Nat.le_refl _) _
    obtain ⟨k0, k1⟩ := HW.out w' (HB3.out.trans ((hb3.trans (hb.mono hb3.size)).mono HB3.out.size))
    exact ⟨(hb.cell (p := ⟨w3.heap.size, 0, none⟩) hl).trans (by rw [← hw3]; simp), (hb.cell (p := ⟨w3.heap.size, 1, none⟩) hl).trans (by rw [← hw3]; simp), k0, k1⟩
  rw [hw3] at B BA
  have B3 := hid (Below.refl w3'.heap.size w3')
  have HW3 := hid hw3
  clear hw3
  go_wp2_with fail
  rw [HW3.out]
  refine Calls.mono (HE1.out _ B.out) ?_
  rintro e w4 ⟨rfl, hb⟩
  replace B := hid (B.out.trans (hb.mono B.out.size))
  replace BA := hid (BA.out.trans (hb.mono BA.out.size))
  replace B3 := hid (B3.out.trans (hb.mono B3.out.size))
  clear hb
  clear HW3 HW HB3
  go_wp2_with fail
  refine Calls.mono (HAL.out _ B.out) ?_
  rintro e w5 ⟨u, rfl, hb, hu⟩
  replace B := hid (B.out.trans (hb.mono B.out.size))
  replace BA := hid (BA.out.trans (hb.mono BA.out.size))
  replace B3 := hid (B3.out.trans (hb.mono B3.out.size))
  clear hb
  obtain ⟨ua, uc, rfl, um⟩ := spIn_form hu
  have HU := hid hu
  clear hu
  go_wp2_with fail
  refine Calls.mono (HE2.out _ B.out) ?_
  rintro e w6 ⟨rfl, hb⟩
  have HU6 := hid (HU.out.below hb)
  replace B := hid (B.out.trans (hb.mono B.out.size))
  replace BA := hid (BA.out.trans (hb.mono BA.out.size))
  replace B3 := hid (B3.out.trans (hb.mono B3.out.size))
  clear hb
  have HSP := hid (spans_any _ _ _ _ w6 HU6.out (HA0.out.below BA.out))
  rw [spEq_self] at HSP
  clear HU HU6
  simp only [List.length_nil] at HSP ⊢
  go_wp2_with fail
  refine Calls.mono HSP.out ?_
  rintro e w7 ⟨rfl, hb⟩
  obtain ⟨p0, p1, q0, q1⟩ := HX5.out _ (B3.out.trans (hb.mono B3.out.size))
  replace B := hid (B.out.trans (hb.mono B.out.size))
  clear hb HX5 HSP
  go_wp2
  go_ret
  exact ⟨rfl, B.out⟩
set_option maxHeartbeats 8000000 in
theorem findIs_some {X : World → Prop} (hXb : ∀ w w', X w → Below w.heap.size w w' → X w') (P : FindC X) (L : FindL X) (t : Rx) (ht : t.Ok) (v : Value) (s : ByteArray) (hs : s.size ≤ maxLen) (i : Int) (w : World) (hX : X w) (hN : NsIn w v t.flat) (wN : ∀ n ∈ t.flat, n.wf) (hE : w.cell? ⟨0, 0, none⟩ = some (rty 32)) (h0 : 0 < w.heap.size) (hf : faultL t.flat = 0) (h4 : s.size ≤ 400) (hi0 : 0 ≤ i) (hi1 : i ≤ (s.size : Int)) (x y : Nat) (hr : FndR s.data.toList t i.toNat (some (x, y))) :
    Calls Tryd.prog 3 #[v, .string s, .int .i64 i] w fun e w' => e = .returned (.bool true) ∧ Below w.heap.size w w' := by
  have HON : NdOk t.flat := fun n hn => C4.wf_ok (wN n hn).2
  have HFA : Hid (∀ w', Below w.heap.size w w' → _) := fun w' hb => fault_any t.flat HON v w' (hN.below hb)
  obtain ⟨hl60, hops, -⟩ := (faultL_zero t.flat).1 hf
  have hrr : ∀ n ∈ t.flat, (1 ≤ n.op ∧ n.op ≤ 9) ∧ n.c.ok := fun n hn => ⟨(hops n hn).1, HON n hn⟩
  have emf : meanF t.flat s.size = 0 := (meanF_zero _ _).2 ⟨hf, h4⟩
  obtain ⟨l, hl⟩ := all_total s.data.toList t _ 0 (Nat.le_refl _)
  have HAO : Hid (∀ w', Below w.heap.size w w' → _) := fun w' hb => allOf_any t ht v s h4 l hl w' (hN.below hb) hrr hl60
  have HAL : Hid (∀ w', Below w.heap.size w w' → _) := fun w' hb => L.all t v s l w' (hXb w w' hX hb) ht (hN.below hb) wN emf hl
  have HE2 : Hid (∀ w', Below w.heap.size w w' → _) := fun w' hb => error_self 0 w' ((hb.cell (p := ⟨0, 0, none⟩) h0).trans hE)
  rw [show errV 0 = .nilIface from rfl] at HE2
  rw [hf] at HFA
  have g4 : (s.size : Int) ≤ 400 := by omega
  have eme : meanE t.flat s.size ((i.toNat : Nat) : Int) = 0 := by rw [Int.toNat_of_nonneg hi0]; unfold meanE; rw [if_pos emf, if_pos ⟨hi0, hi1⟩]
  have HFD : Hid (∀ w', Below w.heap.size w w' → _) := fun w' hb => P.find t v s i.toNat (some (x, y)) w' (hXb w w' hX hb) ht (hN.below hb) wN eme hr
  have HFO : Hid (∀ w', Below w.heap.size w w' → _) := fun w' hb => findOf_any t ht v s h4 i.toNat (some (x, y)) hr (by omega) w' (hN.below hb) hrr hl60
  rw [Int.toNat_of_nonneg hi0] at HFD HFO
  simp only [spO, fndX, fndE, Option.isSome_none, Option.isSome_some] at HFD HFO
  have HE1 : Hid (∀ w', Below w.heap.size w w' → _) := fun w' hb => error_self 0 w' ((hb.cell (p := ⟨0, 0, none⟩) h0).trans hE)
  rw [show errV 0 = .nilIface from rfl] at HFD HE1
  have hq : ∀ w, (Op.equalIn 10000 28 (.agg #[.int .i64 (x : Int), .int .i64 (y : Int)]) (.agg #[.int .i64 (x : Int), .int .i64 (y : Int)])).run Tryd.prog w = .ok true w := fun w => (eqSp _ _ _ _ w).trans (by simp)
  have gi : ¬ i < 0 := by omega
  clear emf eme hf hl hrr hops hr hi0
  have B := hid (Below.refl w.heap.size w)
  obtain ⟨va, vc, rfl, vm⟩ := nsIn_form hN
  unfold maxLen at hs
  clear hN P L hX hXb
  go_enter Tryd.func3, Tryd.ntmps3
  go_wp2_with fail
  refine Calls.mono (HFA.out _ B.out) ?_
  rintro e w1 ⟨rfl, hb⟩
  replace B := hid (B.out.trans (hb.mono B.out.size))
  clear hb
  go_wp2_with fail
  refine Calls.mono (HAO.out _ B.out) ?_
  rintro e w2 ⟨ua0, rfl, hu0, hb⟩
  replace B := hid (B.out.trans (hb.mono B.out.size))
  clear hb
  obtain ⟨a0, c0, rfl, m0⟩ := spIn_form hu0
  have HA0 := hid hu0
  clear hu0
  have BA := hid (Below.refl w2.heap.size w2)
  have BW := B
  obtain ⟨wq, hwq⟩ : ∃ W, w2.alloc (.cells #[.int .i64 0, .int .i64 0] 28) = W := ⟨_, rfl⟩
  have HW : Hid (∀ w', Below wq.heap.size wq w' → w'.cell? ⟨w2.heap.size, 0, none⟩ = some (.int .i64 0) ∧ w'.cell? ⟨w2.heap.size, 1, none⟩ = some (.int .i64 0)) := by
    intro w' hb
    have hl : w2.heap.size < wq.heap.size := by rw [← hwq]; simp
    exact ⟨(hb.cell (p := ⟨w2.heap.size, 0, none⟩) hl).trans (by rw [← hwq]; simp), (hb.cell (p := ⟨w2.heap.size, 1, none⟩) hl).trans (by rw [← hwq]; simp)⟩
  replace B := hid (B.out.alloc B.out.size (.cells #[.int .i64 0, .int .i64 0] 28))
  replace BA := hid (BA.out.alloc BA.out.size (.cells #[.int .i64 0, .int .i64 0] 28))
  rw [hwq] at B BA
  go_wp2_with fail
  refine Calls.mono (HFO.out _ B.out) ?_
  rintro e w8 ⟨rfl, hb⟩
  have HB8 := hid hb
  replace B := hid (B.out.trans (hb.mono B.out.size))
  replace BA := hid (BA.out.trans (hb.mono BA.out.size))
  clear hb
  replace B := hid (B.out.alloc B.out.size (.cells #[.int .i64 (x : Int), .int .i64 (y : Int)] 28))
  replace BA := hid (BA.out.alloc BA.out.size (.cells #[.int .i64 (x : Int), .int .i64 (y : Int)] 28))
  have hb9 : Below w8.heap.size w8 (w8.alloc (.cells #[.int .i64 (x : Int), .int .i64 (y : Int)] 28)) := (Below.refl _ _).alloc (Nat.le_refl _) _
  have HB9 := hid (HB8.out.trans (hb9.mono HB8.out.size))
  have hz9 : (w8.alloc (.cells #[.int .i64 (x : Int), .int .i64 (y : Int)] 28)).heap[w2.heap.size]? = some (.cells #[.int .i64 0, .int .i64 0] 28 (0, 0)) := by
    rw [HB9.out.block w2.heap.size (by rw [← hwq]; simp), ← hwq]
    exact heap_new w2 _
  have z0 : (w8.alloc (.cells #[.int .i64 (x : Int), .int .i64 (y : Int)] 28)).cell? ⟨w2.heap.size, 0, none⟩ = some (.int .i64 0) := (Lib.cell_of_heap hz9 0).trans rfl
  have z1 : (w8.alloc (.cells #[.int .i64 (x : Int), .int .i64 (y : Int)] 28)).cell? ⟨w2.heap.size, 1, none⟩ = some (.int .i64 0) := (Lib.cell_of_heap hz9 1).trans rfl
  have f0 := Lib.frozen_of_heap hz9 0
  have f1 := Lib.frozen_of_heap hz9 1
  have HP := hid (put2_heap hz9 (.int .i64 (x : Int)) (.int .i64 (y : Int)))
  clear HW HB8 HB9 hb9 hz9
  obtain ⟨wt, hwt⟩ : ∃ W, ((w8.alloc (.cells #[.int .i64 (x : Int), .int .i64 (y : Int)] 28)).setCell ⟨w2.heap.size, 0, none⟩ (.int .i64 (x : Int))).setCell ⟨w2.heap.size, 1, none⟩ (.int .i64 (y : Int)) = W := ⟨_, rfl⟩
  have hwb : w.heap.size ≤ w2.heap.size := by
    have h1 := BW.out.size
    exact h1
  replace B := hid ((B.out.setCell (p := ⟨w2.heap.size, 0, none⟩) hwb (.int .i64 (x : Int))).setCell (p := ⟨w2.heap.size, 1, none⟩) hwb (.int .i64 (y : Int)))
  replace BA := hid ((BA.out.setCell (p := ⟨w2.heap.size, 0, none⟩) (Nat.le_refl _) (.int .i64 (x : Int))).setCell (p := ⟨w2.heap.size, 1, none⟩) (Nat.le_refl _) (.int .i64 (y : Int)))
  rw [hwt] at B BA HP
  have HW : Hid (∀ w', Below wt.heap.size wt w' → w'.cell? ⟨w2.heap.size, 0, none⟩ = some (.int .i64 (x : Int)) ∧ w'.cell? ⟨w2.heap.size, 1, none⟩ = some (.int .i64 (y : Int))) := by
    intro w' hb
    have hl : w2.heap.size < wt.heap.size := (Array.getElem?_eq_some_iff.1 HP.out).1
    exact ⟨(hb.cell (p := ⟨w2.heap.size, 0, none⟩) hl).trans ((Lib.cell_of_heap HP.out 0).trans rfl), (hb.cell (p := ⟨w2.heap.size, 1, none⟩) hl).trans ((Lib.cell_of_heap HP.out 1).trans rfl)⟩
  go_wp2_with fail
  refine Calls.mono (HFD.out _ B.out) ?_
  rintro e w3 ⟨rfl, hb⟩
  have HB3 := hid hb
  replace B := hid (B.out.trans (hb.mono B.out.size))
  replace BA := hid (BA.out.trans (hb.mono BA.out.size))
  clear hb
  replace B := hid (B.out.alloc B.out.size (.cells #[.int .i64 (x : Int), .int .i64 (y : Int)] 28))
  replace BA := hid (BA.out.alloc BA.out.size (.cells #[.int .i64 (x : Int), .int .i64 (y : Int)] 28))
  obtain ⟨w3', hw3⟩ : ∃ W, w3.alloc (.cells #[.int .i64 (x : Int), .int .i64 (y : Int)] 28) = W := ⟨_, rfl⟩
  have HX5 : Hid (∀ w', Below w3'.heap.size w3' w' → w'.cell? ⟨w3.heap.size, 0, none⟩ = some (.int .i64 (x : Int)) ∧ w'.cell? ⟨w3.heap.size, 1, none⟩ = some (.int .i64 (y : Int)) ∧ w'.cell? ⟨w2.heap.size, 0, none⟩ = some (.int .i64 (x : Int)) ∧ w'.cell? ⟨w2.heap.size, 1, none⟩ = some (.int .i64 (y : Int))) := by
    intro w' hb
    have hl : w3.heap.size < w3'.heap.size := by rw [← hw3]; simp
    have hb3 : Below w3.heap.size w3 w3' := by rw [← hw3]; exact (Below.refl _ _).alloc (Nat.le_refl _) _
    obtain ⟨k0, k1⟩ := HW.out w' (HB3.out.trans ((hb3.trans (hb.mono hb3.size)).mono HB3.out.size))
    exact ⟨(hb.cell (p := ⟨w3.heap.size, 0, none⟩) hl).trans (by rw [← hw3]; simp), (hb.cell (p := ⟨w3.heap.size, 1, none⟩) hl).trans (by rw [← hw3]; simp), k0, k1⟩
  rw [hw3] at B BA
  have B3 := hid (Below.refl w3'.heap.size w3')
  have HW3 := hid hw3
  clear hw3
  go_wp2_with fail
  rw [HW3.out]
  refine Calls.mono (HE1.out _ B.out) ?_
  rintro e w4 ⟨rfl, hb⟩
  replace B := hid (B.out.trans (hb.mono B.out.size))
  replace BA := hid (BA.out.trans (hb.mono BA.out.size))
  replace B3 := hid (B3.out.trans (hb.mono B3.out.size))
  clear hb
  clear HW3 HW HB3
  go_wp2_with fail
  refine Calls.mono (HAL.out _ B.out) ?_
  rintro e w5 ⟨u, rfl, hb, hu⟩
  replace B := hid (B.out.trans (hb.mono B.out.size))
  replace BA := hid (BA.out.trans (hb.mono BA.out.size))
  replace B3 := hid (B3.out.trans (hb.mono B3.out.size))
  clear hb
  obtain ⟨ua, uc, rfl, um⟩ := spIn_form hu
  have HU := hid hu
  clear hu
  go_wp2_with fail
  refine Calls.mono (HE2.out _ B.out) ?_
  rintro e w6 ⟨rfl, hb⟩
  have HU6 := hid (HU.out.below hb)
  replace B := hid (B.out.trans (hb.mono B.out.size))
  replace BA := hid (BA.out.trans (hb.mono BA.out.size))
  replace B3 := hid (B3.out.trans (hb.mono B3.out.size))
  clear hb
  have HSP := hid (spans_any _ _ _ _ w6 HU6.out (HA0.out.below BA.out))
  rw [spEq_self] at HSP
  clear HU HU6
  simp only [List.length_nil] at HSP ⊢
  go_wp2_with fail
  refine Calls.mono HSP.out ?_
  rintro e w7 ⟨rfl, hb⟩
  obtain ⟨p0, p1, q0, q1⟩ := HX5.out _ (B3.out.trans (hb.mono B3.out.size))
  replace B := hid (B.out.trans (hb.mono B.out.size))
  clear hb HX5 HSP
  go_wp2
  go_ret
  exact ⟨rfl, B.out⟩
theorem findIs_any {X : World → Prop} (hXb : ∀ w w', X w → Below w.heap.size w w' → X w') (P : FindC X) (L : FindL X) (ns : List Nd) (v : Value) (s : ByteArray) (hs : s.size ≤ maxLen) (i : Int) (w : World) (hX : X w) (hN : NsIn w v ns) (wN : ∀ n ∈ ns, n.wf) (hE : w.cell? ⟨0, 0, none⟩ = some (rty 32)) (h0 : 0 < w.heap.size) :
    Calls Tryd.prog 3 #[v, .string s, .int .i64 i] w fun e w' => e = .returned (.bool true) ∧ Below w.heap.size w w' := by
  by_cases hf : faultL ns = 0
  · by_cases h4 : 400 < s.size
    · exact findIs_full hXb P L ns v s hs i w hX hN wN hE h0 hf h4
    · obtain ⟨t, ht, rfl⟩ := tree_of ns ((faultL_zero ns).1 hf).2.2
      by_cases hi : i < 0
      · exact findIs_below hXb P L t ht v s hs i w hX hN wN hE h0 hf (by omega) hi
      · by_cases hi2 : (s.size : Int) < i
        · exact findIs_behind hXb P L t ht v s hs i w hX hN wN hE h0 hf (by omega) hi2
        · obtain ⟨r, hr⟩ := fnd_total s.data.toList t _ i.toNat (Nat.le_refl _)
          cases r with
          | none => exact findIs_none hXb P L t ht v s hs i w hX hN wN hE h0 hf (by omega) (by omega) (by omega) hr
          | some x =>
            obtain ⟨x, y⟩ := x
            exact findIs_some hXb P L t ht v s hs i w hX hN wN hE h0 hf (by omega) (by omega) (by omega) x y hr
  · exact findIs_fault hXb P L ns v s hs i w hX hN wN hE h0 hf
end Go.Proofs.YtphcncgdodhlbaaDoor
