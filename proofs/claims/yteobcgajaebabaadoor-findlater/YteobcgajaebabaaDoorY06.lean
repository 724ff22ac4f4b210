/- The law FindLater, walked from what the document asks of package find. Programs: lists of steps, in memory; their faults. No function of the program. The program of a tree, as the landed package prog lays it: plain mathematics. -/
import Derived.Test.YteobcgajaebabaaDoorY04
import Derived.Test.YteobcgajaebabaaDoorY05
import Derived.Test.YteobcgajaebabaaDoorY03
import Derived.Deep.RegionHeld3
import Derived.BigQuiet
import Derived.Lib.QuietBelow
import Derived.Test.YteobcgajaebabaaDoorY02
namespace Go.Proofs.YteobcgajaebabaaDoor
set_option linter.unusedSimpArgs false
set_option linter.unusedVariables false
set_option maxRecDepth 100000
open Go.RowKit
/-- What the law asks first: in aa the letter a is found at 1, from there on. -/
theorem fact_aa {X : World → Prop} (hXb : ∀ w w', X w → Below w.heap.size w w' → X w') (P : FindC X) (w : World) (hX : X w) :
    Calls Tryd.prog 10 #[.slice (some ⟨w.heap.size, 0, none⟩) 1 1, .string ⟨#[97, 97]⟩, .int .i64 1] (w.alloc (.cells #[.int .i64 1, .int .u64 kA.a, .int .u64 kA.b, .int .u64 kA.c, .int .u64 kA.d] 44)) fun e w' => e = .returned (.tuple #[.agg #[.int .i64 1, .int .i64 2], .nilIface]) ∧ Below w.heap.size w w' := by
  have hb : Below w.heap.size w (w.alloc (.cells #[.int .i64 1, .int .u64 kA.a, .int .u64 kA.b, .int .u64 kA.c, .int .u64 kA.d] 44)) := (Below.refl _ _).alloc (Nat.le_refl _) _
  refine (P.find tLa _ ⟨#[97, 97]⟩ 1 (some (1, 2)) _ (hXb w _ hX hb) tLa_ok (ns_newF w tLa.flat (by simp [Rx.flat, maxLen])) tLa_wf ((meanE_zero _ _ _).2 ⟨tLa_fault, by decide, by decide, by decide⟩) found_aa).mono ?_
  rintro e w' ⟨rfl, h⟩
  exact ⟨rfl, hb.trans (h.mono hb.size)⟩
set_option maxHeartbeats 8000000 in
theorem findLater_less {X : World → Prop} (hXb : ∀ w w', X w → Below w.heap.size w w' → X w') (P : FindC X) (ns : List Nd) (v : Value) (s : ByteArray) (hs : s.size ≤ maxLen) (a b : Int) (w : World) (hX : X w) (hN : NsIn w v ns) (wN : ∀ n ∈ ns, n.wf) (hE : w.cell? ⟨0, 0, none⟩ = some (rty 32)) (h0 : 0 < w.heap.size) (hab : b < a) :
    Calls Tryd.prog 6 #[v, .string s, .int .i64 a, .int .i64 b] w fun e w' => e = .returned (.bool true) ∧ Below w.heap.size w w' := by
  have HO : Hid (∀ w', Below w.heap.size w w' → _) := fun w' _ => ofA w'
  have HF1 : Hid (∀ w', Below w.heap.size w w' → _) := fun w' hb => fact_aa hXb P w' (hXb w w' hX hb)
  have B := hid (Below.refl w.heap.size w)
  obtain ⟨va, vc, rfl, vm⟩ := nsIn_form hN
  clear hN P hX hXb hE
  go_enter Tryd.func6, Tryd.ntmps6
  go_wp2_with fail
  refine Calls.mono (HO.out _ B.out) ?_
  rintro e w1 ⟨rfl, hb⟩
  replace B := hid (B.out.trans (hb.mono B.out.size))
  clear hb
  go_wp2_with fail
  refine Calls.mono (HF1.out _ B.out) ?_
  rintro e w2 ⟨rfl, hb⟩
  replace B := hid (B.out.trans (hb.mono B.out.size))
  clear hb
  go_wp2
  go_ret
  exact ⟨rfl, B.out.alloc B.out.size _⟩
set_option maxHeartbeats 8000000 in
theorem findLater_gone {X : World → Prop} (hXb : ∀ w w', X w → Below w.heap.size w w' → X w') (P : FindC X) (ns : List Nd) (v : Value) (s : ByteArray) (hs : s.size ≤ maxLen) (a b : Int) (w : World) (hX : X w) (hN : NsIn w v ns) (wN : ∀ n ∈ ns, n.wf) (hE : w.cell? ⟨0, 0, none⟩ = some (rty 32)) (h0 : 0 < w.heap.size) (hab : a ≤ b) (c d : Int) (x y : Nat × Nat) (hca : ∀ v w, X w → NsIn w v ns → Calls Tryd.prog 10 #[v, .string s, .int .i64 a] w fun e w' => e = .returned (.tuple #[spV x, errV c]) ∧ Below w.heap.size w w') (hcb : ∀ v w, X w → NsIn w v ns → Calls Tryd.prog 10 #[v, .string s, .int .i64 b] w fun e w' => e = .returned (.tuple #[spV y, errV d]) ∧ Below w.heap.size w w') (hc0 : ¬ c = 0) (hc4 : c = 4) (hd0 : ¬ d = 0) :
    Calls Tryd.prog 6 #[v, .string s, .int .i64 a, .int .i64 b] w fun e w' => e = .returned (.bool true) ∧ Below w.heap.size w w' := by
  have HO : Hid (∀ w', Below w.heap.size w w' → _) := fun w' _ => ofA w'
  have HF1 : Hid (∀ w', Below w.heap.size w w' → _) := fun w' hb => fact_aa hXb P w' (hXb w w' hX hb)
  have HA : Hid (∀ w', Below w.heap.size w w' → _) := fun w' hb => hca v w' (hXb w w' hX hb) (hN.below hb)
  have HB : Hid (∀ w', Below w.heap.size w w' → _) := fun w' hb => hcb v w' (hXb w w' hX hb) (hN.below hb)
  have HER : Hid (∀ w', Below w.heap.size w w' → _) := fun w' hb => error_any d 4 w' ((hb.cell (p := ⟨0, 0, none⟩) h0).trans hE)
  have HEC : Hid (∀ w', Below w.heap.size w w' → _) := fun w' hb => error_any c 4 w' ((hb.cell (p := ⟨0, 0, none⟩) h0).trans hE)
  rw [show errV c = .iface 23 (.int .i64 c) by unfold errV; rw [if_neg hc0]] at HA HEC
  rw [show errV d = .iface 23 (.int .i64 d) by unfold errV; rw [if_neg hd0]] at HB HER
  have e4 : (c == 4) = true := by rw [beq_iff_eq]; exact hc4
  rw [e4] at HEC
  clear hc4
  have B := hid (Below.refl w.heap.size w)
  obtain ⟨va, vc, rfl, vm⟩ := nsIn_form hN
  have he := eqSp
  clear hN P hX hXb hca hcb hE
  go_enter Tryd.func6, Tryd.ntmps6
  go_wp2_with fail
  refine Calls.mono (HO.out _ B.out) ?_
  rintro e w1 ⟨rfl, hb⟩
  replace B := hid (B.out.trans (hb.mono B.out.size))
  clear hb
  go_wp2_with fail
  refine Calls.mono (HF1.out _ B.out) ?_
  rintro e w2 ⟨rfl, hb⟩
  replace B := hid (B.out.trans (hb.mono B.out.size))
  clear hb
  replace B := hid (B.out.alloc B.out.size (.cells #[.int .i64 1, .int .i64 2] 28))
  go_wp2_with fail
  refine Calls.mono (HA.out _ B.out) ?_
  rintro e w3 ⟨rfl, hb⟩
  replace B := hid ((B.out.trans (hb.mono B.out.size)).alloc (B.out.trans (hb.mono B.out.size)).size (.cells #[.int .i64 (x.1 : Int), .int .i64 (x.2 : Int)] 28))
  have HX3 : Hid ((w3.alloc (.cells #[.int .i64 (x.1 : Int), .int .i64 (x.2 : Int)] 28)).cell? ⟨w3.heap.size, 0, none⟩ = some (.int .i64 (x.1 : Int)) ∧ (w3.alloc (.cells #[.int .i64 (x.1 : Int), .int .i64 (x.2 : Int)] 28)).cell? ⟨w3.heap.size, 1, none⟩ = some (.int .i64 (x.2 : Int)) ∧ w3.heap.size < (w3.alloc (.cells #[.int .i64 (x.1 : Int), .int .i64 (x.2 : Int)] 28)).heap.size) := ⟨by simp, by simp, by simp⟩
  clear hb
  obtain ⟨w3', hw3⟩ : ∃ W, w3.alloc (.cells #[.int .i64 (x.1 : Int), .int .i64 (x.2 : Int)] 28) = W := ⟨_, rfl⟩
  rw [hw3] at B HX3
  go_wp2_with fail
  refine Calls.mono (HB.out _ B.out) ?_
  rintro e w4 ⟨rfl, hb⟩
  have HX4 : Hid (w4.cell? ⟨w3.heap.size, 0, none⟩ = some (.int .i64 (x.1 : Int)) ∧ w4.cell? ⟨w3.heap.size, 1, none⟩ = some (.int .i64 (x.2 : Int)) ∧ w3.heap.size < w4.heap.size) := ⟨(hb.cell (p := ⟨w3.heap.size, 0, none⟩) HX3.out.2.2).trans HX3.out.1, (hb.cell (p := ⟨w3.heap.size, 1, none⟩) HX3.out.2.2).trans HX3.out.2.1, Nat.lt_of_lt_of_le HX3.out.2.2 hb.size⟩
  replace B := hid ((B.out.trans (hb.mono B.out.size)).alloc (B.out.trans (hb.mono B.out.size)).size (.cells #[.int .i64 (y.1 : Int), .int .i64 (y.2 : Int)] 28))
  clear hb hw3 HX3
  obtain ⟨w4', hw4⟩ : ∃ W, w4.alloc (.cells #[.int .i64 (y.1 : Int), .int .i64 (y.2 : Int)] 28) = W := ⟨_, rfl⟩
  have hb4 : Below w4.heap.size w4 w4' := by rw [← hw4]; exact (Below.refl _ _).alloc (Nat.le_refl _) _
  have HX5 : Hid (∀ w', Below w4'.heap.size w4' w' → w'.cell? ⟨w3.heap.size, 0, none⟩ = some (.int .i64 (x.1 : Int)) ∧ w'.cell? ⟨w3.heap.size, 1, none⟩ = some (.int .i64 (x.2 : Int)) ∧ w'.cell? ⟨w4.heap.size, 0, none⟩ = some (.int .i64 (y.1 : Int)) ∧ w'.cell? ⟨w4.heap.size, 1, none⟩ = some (.int .i64 (y.2 : Int))) := by
    intro w' hb
    have hl : w4.heap.size < w4'.heap.size := by rw [← hw4]; simp
    have h1 := HX4.out
    refine ⟨?_, ?_, ?_, ?_⟩
    · exact (hb.cell (p := ⟨w3.heap.size, 0, none⟩) (by show w3.heap.size < _; omega)).trans ((hb4.cell (p := ⟨w3.heap.size, 0, none⟩) h1.2.2).trans h1.1)
    · exact (hb.cell (p := ⟨w3.heap.size, 1, none⟩) (by show w3.heap.size < _; omega)).trans ((hb4.cell (p := ⟨w3.heap.size, 1, none⟩) h1.2.2).trans h1.2.1)
    · exact (hb.cell (p := ⟨w4.heap.size, 0, none⟩) hl).trans (by rw [← hw4]; simp)
    · exact (hb.cell (p := ⟨w4.heap.size, 1, none⟩) hl).trans (by rw [← hw4]; simp)
  rw [hw4] at B
  clear hb4 HX4
  go_wp2_with fail
  refine Calls.mono (HER.out _ B.out) ?_
  rintro e w5 ⟨rfl, hb⟩
  obtain ⟨p0, p1, q0, q1⟩ := HX5.out _ hb
  replace B := hid (B.out.trans (hb.mono B.out.size))
  clear hb hw4 HX5
  go_wp2_with fail
  refine Calls.mono (HEC.out _ B.out) ?_
  rintro e w6 ⟨rfl, hb⟩
  replace B := hid (B.out.trans (hb.mono B.out.size))
  clear hb
  go_wp2
  go_ret
  exact ⟨rfl, B.out⟩
set_option maxHeartbeats 8000000 in
theorem findLater_wrong {X : World → Prop} (hXb : ∀ w w', X w → Below w.heap.size w w' → X w') (P : FindC X) (ns : List Nd) (v : Value) (s : ByteArray) (hs : s.size ≤ maxLen) (a b : Int) (w : World) (hX : X w) (hN : NsIn w v ns) (wN : ∀ n ∈ ns, n.wf) (hE : w.cell? ⟨0, 0, none⟩ = some (rty 32)) (h0 : 0 < w.heap.size) (hab : a ≤ b) (c d : Int) (x y : Nat × Nat) (hca : ∀ v w, X w → NsIn w v ns → Calls Tryd.prog 10 #[v, .string s, .int .i64 a] w fun e w' => e = .returned (.tuple #[spV x, errV c]) ∧ Below w.heap.size w w') (hcb : ∀ v w, X w → NsIn w v ns → Calls Tryd.prog 10 #[v, .string s, .int .i64 b] w fun e w' => e = .returned (.tuple #[spV y, errV d]) ∧ Below w.heap.size w w') (hc0 : ¬ c = 0) (hc4 : ¬ c = 4) :
    Calls Tryd.prog 6 #[v, .string s, .int .i64 a, .int .i64 b] w fun e w' => e = .returned (.bool true) ∧ Below w.heap.size w w' := by
  have HO : Hid (∀ w', Below w.heap.size w w' → _) := fun w' _ => ofA w'
  have HF1 : Hid (∀ w', Below w.heap.size w w' → _) := fun w' hb => fact_aa hXb P w' (hXb w w' hX hb)
  have HA : Hid (∀ w', Below w.heap.size w w' → _) := fun w' hb => hca v w' (hXb w w' hX hb) (hN.below hb)
  have HB : Hid (∀ w', Below w.heap.size w w' → _) := fun w' hb => hcb v w' (hXb w w' hX hb) (hN.below hb)
  have HER : Hid (∀ w', Below w.heap.size w w' → _) := fun w' hb => error_any d 4 w' ((hb.cell (p := ⟨0, 0, none⟩) h0).trans hE)
  have HEC : Hid (∀ w', Below w.heap.size w w' → _) := fun w' hb => error_any c 4 w' ((hb.cell (p := ⟨0, 0, none⟩) h0).trans hE)
  rw [show errV c = .iface 23 (.int .i64 c) by unfold errV; rw [if_neg hc0]] at HA HEC
  have e4 : (c == 4) = false := by rw [beq_eq_false_iff_ne]; exact hc4
  rw [e4] at HEC
  generalize errV d = ed at HB HER
  have B := hid (Below.refl w.heap.size w)
  obtain ⟨va, vc, rfl, vm⟩ := nsIn_form hN
  have he := eqSp
  clear hN P hX hXb hca hcb hE
  go_enter Tryd.func6, Tryd.ntmps6
  go_wp2_with fail
  refine Calls.mono (HO.out _ B.out) ?_
  rintro e w1 ⟨rfl, hb⟩
  replace B := hid (B.out.trans (hb.mono B.out.size))
  clear hb
  go_wp2_with fail
  refine Calls.mono (HF1.out _ B.out) ?_
  rintro e w2 ⟨rfl, hb⟩
  replace B := hid (B.out.trans (hb.mono B.out.size))
  clear hb
  replace B := hid (B.out.alloc B.out.size (.cells #[.int .i64 1, .int .i64 2] 28))
  go_wp2_with fail
  refine Calls.mono (HA.out _ B.out) ?_
  rintro e w3 ⟨rfl, hb⟩
  replace B := hid ((B.out.trans (hb.mono B.out.size)).alloc (B.out.trans (hb.mono B.out.size)).size (.cells #[.int .i64 (x.1 : Int), .int .i64 (x.2 : Int)] 28))
  have HX3 : Hid ((w3.alloc (.cells #[.int .i64 (x.1 : Int), .int .i64 (x.2 : Int)] 28)).cell? ⟨w3.heap.size, 0, none⟩ = some (.int .i64 (x.1 : Int)) ∧ (w3.alloc (.cells #[.int .i64 (x.1 : Int), .int .i64 (x.2 : Int)] 28)).cell? ⟨w3.heap.size, 1, none⟩ = some (.int .i64 (x.2 : Int)) ∧ w3.heap.size < (w3.alloc (.cells #[.int .i64 (x.1 : Int), .int .i64 (x.2 : Int)] 28)).heap.size) := ⟨by simp, by simp, by simp⟩
  clear hb
  obtain ⟨w3', hw3⟩ : ∃ W, w3.alloc (.cells #[.int .i64 (x.1 : Int), .int .i64 (x.2 : Int)] 28) = W := ⟨_, rfl⟩
  rw [hw3] at B HX3
  go_wp2_with fail
  refine Calls.mono (HB.out _ B.out) ?_
  rintro e w4 ⟨rfl, hb⟩
  have HX4 : Hid (w4.cell? ⟨w3.heap.size, 0, none⟩ = some (.int .i64 (x.1 : Int)) ∧ w4.cell? ⟨w3.heap.size, 1, none⟩ = some (.int .i64 (x.2 : Int)) ∧ w3.heap.size < w4.heap.size) := ⟨(hb.cell (p := ⟨w3.heap.size, 0, none⟩) HX3.out.2.2).trans HX3.out.1, (hb.cell (p := ⟨w3.heap.size, 1, none⟩) HX3.out.2.2).trans HX3.out.2.1, Nat.lt_of_lt_of_le HX3.out.2.2 hb.size⟩
  replace B := hid ((B.out.trans (hb.mono B.out.size)).alloc (B.out.trans (hb.mono B.out.size)).size (.cells #[.int .i64 (y.1 : Int), .int .i64 (y.2 : Int)] 28))
  clear hb hw3 HX3
  obtain ⟨w4', hw4⟩ : ∃ W, w4.alloc (.cells #[.int .i64 (y.1 : Int), .int .i64 (y.2 : Int)] 28) = W := ⟨_, rfl⟩
  have hb4 : Below w4.heap.size w4 w4' := by rw [← hw4]; exact (Below.refl _ _).alloc (Nat.le_refl _) _
  have HX5 : Hid (∀ w', Below w4'.heap.size w4' w' → w'.cell? ⟨w3.heap.size, 0, none⟩ = some (.int .i64 (x.1 : Int)) ∧ w'.cell? ⟨w3.heap.size, 1, none⟩ = some (.int .i64 (x.2 : Int)) ∧ w'.cell? ⟨w4.heap.size, 0, none⟩ = some (.int .i64 (y.1 : Int)) ∧ w'.cell? ⟨w4.heap.size, 1, none⟩ = some (.int .i64 (y.2 : Int))) := by
    intro w' hb
    have hl : w4.heap.size < w4'.heap.size := by rw [← hw4]; simp
    have h1 := HX4.out
    refine ⟨?_, ?_, ?_, ?_⟩
    · exact (hb.cell (p := ⟨w3.heap.size, 0, none⟩) (by show w3.heap.size < _; omega)).trans ((hb4.cell (p := ⟨w3.heap.size, 0, none⟩) h1.2.2).trans h1.1)
    · exact (hb.cell (p := ⟨w3.heap.size, 1, none⟩) (by show w3.heap.size < _; omega)).trans ((hb4.cell (p := ⟨w3.heap.size, 1, none⟩) h1.2.2).trans h1.2.1)
    · exact (hb.cell (p := ⟨w4.heap.size, 0, none⟩) hl).trans (by rw [← hw4]; simp)
    · exact (hb.cell (p := ⟨w4.heap.size, 1, none⟩) hl).trans (by rw [← hw4]; simp)
  rw [hw4] at B
  clear hb4 HX4
  go_wp2_with fail
  refine Calls.mono (HER.out _ B.out) ?_
  rintro e w5 ⟨rfl, hb⟩
  obtain ⟨p0, p1, q0, q1⟩ := HX5.out _ hb
  replace B := hid (B.out.trans (hb.mono B.out.size))
  clear hb hw4 HX5
  go_wp2_with fail
  refine Calls.mono (HEC.out _ B.out) ?_
  rintro e w6 ⟨rfl, hb⟩
  replace B := hid (B.out.trans (hb.mono B.out.size))
  clear hb
  go_wp2
  go_ret
  exact ⟨rfl, B.out⟩
set_option maxHeartbeats 8000000 in
theorem findLater_none {X : World → Prop} (hXb : ∀ w w', X w → Below w.heap.size w w' → X w') (P : FindC X) (ns : List Nd) (v : Value) (s : ByteArray) (hs : s.size ≤ maxLen) (a b : Int) (w : World) (hX : X w) (hN : NsIn w v ns) (wN : ∀ n ∈ ns, n.wf) (hE : w.cell? ⟨0, 0, none⟩ = some (rty 32)) (h0 : 0 < w.heap.size) (hab : a ≤ b) (c d : Int) (x y : Nat × Nat) (hca : ∀ v w, X w → NsIn w v ns → Calls Tryd.prog 10 #[v, .string s, .int .i64 a] w fun e w' => e = .returned (.tuple #[spV x, errV c]) ∧ Below w.heap.size w w') (hcb : ∀ v w, X w → NsIn w v ns → Calls Tryd.prog 10 #[v, .string s, .int .i64 b] w fun e w' => e = .returned (.tuple #[spV y, errV d]) ∧ Below w.heap.size w w') (hc0 : c = 0) (hd0 : ¬ d = 0) (hd4 : d = 4) (hxb : (x.1 : Int) < b) :
    Calls Tryd.prog 6 #[v, .string s, .int .i64 a, .int .i64 b] w fun e w' => e = .returned (.bool true) ∧ Below w.heap.size w w' := by
  have HO : Hid (∀ w', Below w.heap.size w w' → _) := fun w' _ => ofA w'
  have HF1 : Hid (∀ w', Below w.heap.size w w' → _) := fun w' hb => fact_aa hXb P w' (hXb w w' hX hb)
  have HA : Hid (∀ w', Below w.heap.size w w' → _) := fun w' hb => hca v w' (hXb w w' hX hb) (hN.below hb)
  have HB : Hid (∀ w', Below w.heap.size w w' → _) := fun w' hb => hcb v w' (hXb w w' hX hb) (hN.below hb)
  have HER : Hid (∀ w', Below w.heap.size w w' → _) := fun w' hb => error_any d 4 w' ((hb.cell (p := ⟨0, 0, none⟩) h0).trans hE)
  have HEC : Hid (∀ w', Below w.heap.size w w' → _) := fun w' hb => error_any c 4 w' ((hb.cell (p := ⟨0, 0, none⟩) h0).trans hE)
  subst hc0
  rw [show errV 0 = .nilIface from rfl] at HA
  rw [show errV d = .iface 23 (.int .i64 d) by unfold errV; rw [if_neg hd0]] at HB HER
  have e4 : (d == 4) = true := by rw [beq_iff_eq]; exact hd4
  rw [e4] at HER
  clear hd4
  have B := hid (Below.refl w.heap.size w)
  obtain ⟨va, vc, rfl, vm⟩ := nsIn_form hN
  have he := eqSp
  clear hN P hX hXb hca hcb hE
  go_enter Tryd.func6, Tryd.ntmps6
  go_wp2_with fail
  refine Calls.mono (HO.out _ B.out) ?_
  rintro e w1 ⟨rfl, hb⟩
  replace B := hid (B.out.trans (hb.mono B.out.size))
  clear hb
  go_wp2_with fail
  refine Calls.mono (HF1.out _ B.out) ?_
  rintro e w2 ⟨rfl, hb⟩
  replace B := hid (B.out.trans (hb.mono B.out.size))
  clear hb
  replace B := hid (B.out.alloc B.out.size (.cells #[.int .i64 1, .int .i64 2] 28))
  go_wp2_with fail
  refine Calls.mono (HA.out _ B.out) ?_
  rintro e w3 ⟨rfl, hb⟩
  replace B := hid ((B.out.trans (hb.mono B.out.size)).alloc (B.out.trans (hb.mono B.out.size)).size (.cells #[.int .i64 (x.1 : Int), .int .i64 (x.2 : Int)] 28))
  have HX3 : Hid ((w3.alloc (.cells #[.int .i64 (x.1 : Int), .int .i64 (x.2 : Int)] 28)).cell? ⟨w3.heap.size, 0, none⟩ = some (.int .i64 (x.1 : Int)) ∧ (w3.alloc (.cells #[.int .i64 (x.1 : Int), .int .i64 (x.2 : Int)] 28)).cell? ⟨w3.heap.size, 1, none⟩ = some (.int .i64 (x.2 : Int)) ∧ w3.heap.size < (w3.alloc (.cells #[.int .i64 (x.1 : Int), .int .i64 (x.2 : Int)] 28)).heap.size) := ⟨by simp, by simp, by simp⟩
  clear hb
  obtain ⟨w3', hw3⟩ : ∃ W, w3.alloc (.cells #[.int .i64 (x.1 : Int), .int .i64 (x.2 : Int)] 28) = W := ⟨_, rfl⟩
  rw [hw3] at B HX3
  go_wp2_with fail
  refine Calls.mono (HB.out _ B.out) ?_
  rintro e w4 ⟨rfl, hb⟩
  have HX4 : Hid (w4.cell? ⟨w3.heap.size, 0, none⟩ = some (.int .i64 (x.1 : Int)) ∧ w4.cell? ⟨w3.heap.size, 1, none⟩ = some (.int .i64 (x.2 : Int)) ∧ w3.heap.size < w4.heap.size) := ⟨(hb.cell (p := ⟨w3.heap.size, 0, none⟩) HX3.out.2.2).trans HX3.out.1, (hb.cell (p := ⟨w3.heap.size, 1, none⟩) HX3.out.2.2).trans HX3.out.2.1, Nat.lt_of_lt_of_le HX3.out.2.2 hb.size⟩
  replace B := hid ((B.out.trans (hb.mono B.out.size)).alloc (B.out.trans (hb.mono B.out.size)).size (.cells #[.int .i64 (y.1 : Int), .int .i64 (y.2 : Int)] 28))
  clear hb hw3 HX3
  obtain ⟨w4', hw4⟩ : ∃ W, w4.alloc (.cells #[.int .i64 (y.1 : Int), .int .i64 (y.2 : Int)] 28) = W := ⟨_, rfl⟩
  have hb4 : Below w4.heap.size w4 w4' := by rw [← hw4]; exact (Below.refl _ _).alloc (Nat.le_refl _) _
  have HX5 : Hid (∀ w', Below w4'.heap.size w4' w' → w'.cell? ⟨w3.heap.size, 0, none⟩ = some (.int .i64 (x.1 : Int)) ∧ w'.cell? ⟨w3.heap.size, 1, none⟩ = some (.int .i64 (x.2 : Int)) ∧ w'.cell? ⟨w4.heap.size, 0, none⟩ = some (.int .i64 (y.1 : Int)) ∧ w'.cell? ⟨w4.heap.size, 1, none⟩ = some (.int .i64 (y.2 : Int))) := by
    intro w' hb
    have hl : w4.heap.size < w4'.heap.size := by rw [← hw4]; simp
    have h1 := HX4.out
    refine ⟨?_, ?_, ?_, ?_⟩
    · exact (hb.cell (p := ⟨w3.heap.size, 0, none⟩) (by show w3.heap.size < _; omega)).trans ((hb4.cell (p := ⟨w3.heap.size, 0, none⟩) h1.2.2).trans h1.1)
    · exact (hb.cell (p := ⟨w3.heap.size, 1, none⟩) (by show w3.heap.size < _; omega)).trans ((hb4.cell (p := ⟨w3.heap.size, 1, none⟩) h1.2.2).trans h1.2.1)
    · exact (hb.cell (p := ⟨w4.heap.size, 0, none⟩) hl).trans (by rw [← hw4]; simp)
    · exact (hb.cell (p := ⟨w4.heap.size, 1, none⟩) hl).trans (by rw [← hw4]; simp)
  rw [hw4] at B
  clear hb4 HX4
  go_wp2_with fail
  refine Calls.mono (HER.out _ B.out) ?_
  rintro e w5 ⟨rfl, hb⟩
  obtain ⟨p0, p1, q0, q1⟩ := HX5.out _ hb
  replace B := hid (B.out.trans (hb.mono B.out.size))
  clear hb hw4 HX5
  go_wp2
  go_ret
  exact ⟨rfl, B.out⟩
set_option maxHeartbeats 8000000 in
theorem findLater_bad {X : World → Prop} (hXb : ∀ w w', X w → Below w.heap.size w w' → X w') (P : FindC X) (ns : List Nd) (v : Value) (s : ByteArray) (hs : s.size ≤ maxLen) (a b : Int) (w : World) (hX : X w) (hN : NsIn w v ns) (wN : ∀ n ∈ ns, n.wf) (hE : w.cell? ⟨0, 0, none⟩ = some (rty 32)) (h0 : 0 < w.heap.size) (hab : a ≤ b) (c d : Int) (x y : Nat × Nat) (hca : ∀ v w, X w → NsIn w v ns → Calls Tryd.prog 10 #[v, .string s, .int .i64 a] w fun e w' => e = .returned (.tuple #[spV x, errV c]) ∧ Below w.heap.size w w') (hcb : ∀ v w, X w → NsIn w v ns → Calls Tryd.prog 10 #[v, .string s, .int .i64 b] w fun e w' => e = .returned (.tuple #[spV y, errV d]) ∧ Below w.heap.size w w') (hc0 : c = 0) (hd0 : ¬ d = 0) (hd4 : ¬ d = 4) :
    Calls Tryd.prog 6 #[v, .string s, .int .i64 a, .int .i64 b] w fun e w' => e = .returned (.bool true) ∧ Below w.heap.size w w' := by
  have HO : Hid (∀ w', Below w.heap.size w w' → _) := fun w' _ => ofA w'
  have HF1 : Hid (∀ w', Below w.heap.size w w' → _) := fun w' hb => fact_aa hXb P w' (hXb w w' hX hb)
  have HA : Hid (∀ w', Below w.heap.size w w' → _) := fun w' hb => hca v w' (hXb w w' hX hb) (hN.below hb)
  have HB : Hid (∀ w', Below w.heap.size w w' → _) := fun w' hb => hcb v w' (hXb w w' hX hb) (hN.below hb)
  have HER : Hid (∀ w', Below w.heap.size w w' → _) := fun w' hb => error_any d 4 w' ((hb.cell (p := ⟨0, 0, none⟩) h0).trans hE)
  have HEC : Hid (∀ w', Below w.heap.size w w' → _) := fun w' hb => error_any c 4 w' ((hb.cell (p := ⟨0, 0, none⟩) h0).trans hE)
  subst hc0
  rw [show errV 0 = .nilIface from rfl] at HA
  rw [show errV d = .iface 23 (.int .i64 d) by unfold errV; rw [if_neg hd0]] at HB HER
  have e4 : (d == 4) = false := by rw [beq_eq_false_iff_ne]; exact hd4
  rw [e4] at HER
  have B := hid (Below.refl w.heap.size w)
  obtain ⟨va, vc, rfl, vm⟩ := nsIn_form hN
  have he := eqSp
  clear hN P hX hXb hca hcb hE
  go_enter Tryd.func6, Tryd.ntmps6
  go_wp2_with fail
  refine Calls.mono (HO.out _ B.out) ?_
  rintro e w1 ⟨rfl, hb⟩
  replace B := hid (B.out.trans (hb.mono B.out.size))
  clear hb
  go_wp2_with fail
  refine Calls.mono (HF1.out _ B.out) ?_
  rintro e w2 ⟨rfl, hb⟩
  replace B := hid (B.out.trans (hb.mono B.out.size))
  clear hb
  replace B := hid (B.out.alloc B.out.size (.cells #[.int .i64 1, .int .i64 2] 28))
  go_wp2_with fail
  refine Calls.mono (HA.out _ B.out) ?_
  rintro e w3 ⟨rfl, hb⟩
  replace B := hid ((B.out.trans (hb.mono B.out.size)).alloc (B.out.trans (hb.mono B.out.size)).size (.cells #[.int .i64 (x.1 : Int), .int .i64 (x.2 : Int)] 28))
  have HX3 : Hid ((w3.alloc (.cells #[.int .i64 (x.1 : Int), .int .i64 (x.2 : Int)] 28)).cell? ⟨w3.heap.size, 0, none⟩ = some (.int .i64 (x.1 : Int)) ∧ (w3.alloc (.cells #[.int .i64 (x.1 : Int), .int .i64 (x.2 : Int)] 28)).cell? ⟨w3.heap.size, 1, none⟩ = some (.int .i64 (x.2 : Int)) ∧ w3.heap.size < (w3.alloc (.cells #[.int .i64 (x.1 : Int), .int .i64 (x.2 : Int)] 28)).heap.size) := ⟨by simp, by simp, by simp⟩
  clear hb
  obtain ⟨w3', hw3⟩ : ∃ W, w3.alloc (.cells #[.int .i64 (x.1 : Int), .int .i64 (x.2 : Int)] 28) = W := ⟨_, rfl⟩
  rw [hw3] at B HX3
  go_wp2_with fail
  refine Calls.mono (HB.out _ B.out) ?_
  rintro e w4 ⟨rfl, hb⟩
  have HX4 : Hid (w4.cell? ⟨w3.heap.size, 0, none⟩ = some (.int .i64 (x.1 : Int)) ∧ w4.cell? ⟨w3.heap.size, 1, none⟩ = some (.int .i64 (x.2 : Int)) ∧ w3.heap.size < w4.heap.size) := ⟨(hb.cell (p := ⟨w3.heap.size, 0, none⟩) HX3.out.2.2).trans HX3.out.1, (hb.cell (p := ⟨w3.heap.size, 1, none⟩) HX3.out.2.2).trans HX3.out.2.1, Nat.lt_of_lt_of_le HX3.out.2.2 hb.size⟩
  replace B := hid ((B.out.trans (hb.mono B.out.size)).alloc (B.out.trans (hb.mono B.out.size)).size (.cells #[.int .i64 (y.1 : Int), .int .i64 (y.2 : Int)] 28))
  clear hb hw3 HX3
  obtain ⟨w4', hw4⟩ : ∃ W, w4.alloc (.cells #[.int .i64 (y.1 : Int), .int .i64 (y.2 : Int)] 28) = W := ⟨_, rfl⟩
  have hb4 : Below w4.heap.size w4 w4' := by rw [← hw4]; exact (Below.refl _ _).alloc (Nat.le_refl _) _
  have HX5 : Hid (∀ w', Below w4'.heap.size w4' w' → w'.cell? ⟨w3.heap.size, 0, none⟩ = some (.int .i64 (x.1 : Int)) ∧ w'.cell? ⟨w3.heap.size, 1, none⟩ = some (.int .i64 (x.2 : Int)) ∧ w'.cell? ⟨w4.heap.size, 0, none⟩ = some (.int .i64 (y.1 : Int)) ∧ w'.cell? ⟨w4.heap.size, 1, none⟩ = some (.int .i64 (y.2 : Int))) := by
    intro w' hb
    have hl : w4.heap.size < w4'.heap.size := by rw [← hw4]; simp
    have h1 := HX4.out
    refine ⟨?_, ?_, ?_, ?_⟩
    · exact (hb.cell (p := ⟨w3.heap.size, 0, none⟩) (by show w3.heap.size < _; omega)).trans ((hb4.cell (p := ⟨w3.heap.size, 0, none⟩) h1.2.2).trans h1.1)
    · exact (hb.cell (p := ⟨w3.heap.size, 1, none⟩) (by show w3.heap.size < _; omega)).trans ((hb4.cell (p := ⟨w3.heap.size, 1, none⟩) h1.2.2).trans h1.2.1)
    · exact (hb.cell (p := ⟨w4.heap.size, 0, none⟩) hl).trans (by rw [← hw4]; simp)
    · exact (hb.cell (p := ⟨w4.heap.size, 1, none⟩) hl).trans (by rw [← hw4]; simp)
  rw [hw4] at B
  clear hb4 HX4
  go_wp2_with fail
  refine Calls.mono (HER.out _ B.out) ?_
  rintro e w5 ⟨rfl, hb⟩
  obtain ⟨p0, p1, q0, q1⟩ := HX5.out _ hb
  replace B := hid (B.out.trans (hb.mono B.out.size))
  clear hb hw4 HX5
  go_wp2
  go_ret
  exact ⟨rfl, B.out⟩
set_option maxHeartbeats 8000000 in
theorem findLater_ahead {X : World → Prop} (hXb : ∀ w w', X w → Below w.heap.size w w' → X w') (P : FindC X) (ns : List Nd) (v : Value) (s : ByteArray) (hs : s.size ≤ maxLen) (a b : Int) (w : World) (hX : X w) (hN : NsIn w v ns) (wN : ∀ n ∈ ns, n.wf) (hE : w.cell? ⟨0, 0, none⟩ = some (rty 32)) (h0 : 0 < w.heap.size) (hab : a ≤ b) (c d : Int) (x y : Nat × Nat) (hca : ∀ v w, X w → NsIn w v ns → Calls Tryd.prog 10 #[v, .string s, .int .i64 a] w fun e w' => e = .returned (.tuple #[spV x, errV c]) ∧ Below w.heap.size w w') (hcb : ∀ v w, X w → NsIn w v ns → Calls Tryd.prog 10 #[v, .string s, .int .i64 b] w fun e w' => e = .returned (.tuple #[spV y, errV d]) ∧ Below w.heap.size w w') (hc0 : c = 0) (hd0 : d = 0) (hxy : x.1 ≤ y.1) (hxb : (x.1 : Int) < b) :
    Calls Tryd.prog 6 #[v, .string s, .int .i64 a, .int .i64 b] w fun e w' => e = .returned (.bool true) ∧ Below w.heap.size w w' := by
  have HO : Hid (∀ w', Below w.heap.size w w' → _) := fun w' _ => ofA w'
  have HF1 : Hid (∀ w', Below w.heap.size w w' → _) := fun w' hb => fact_aa hXb P w' (hXb w w' hX hb)
  have HA : Hid (∀ w', Below w.heap.size w w' → _) := fun w' hb => hca v w' (hXb w w' hX hb) (hN.below hb)
  have HB : Hid (∀ w', Below w.heap.size w w' → _) := fun w' hb => hcb v w' (hXb w w' hX hb) (hN.below hb)
  have HER : Hid (∀ w', Below w.heap.size w w' → _) := fun w' hb => error_any d 4 w' ((hb.cell (p := ⟨0, 0, none⟩) h0).trans hE)
  have HEC : Hid (∀ w', Below w.heap.size w w' → _) := fun w' hb => error_any c 4 w' ((hb.cell (p := ⟨0, 0, none⟩) h0).trans hE)
  subst hc0
  rw [show errV 0 = .nilIface from rfl] at HA
  subst hd0
  rw [show errV 0 = .nilIface from rfl] at HB HER
  have gxy : (x.1 : Int) ≤ (y.1 : Int) := by omega
  have B := hid (Below.refl w.heap.size w)
  obtain ⟨va, vc, rfl, vm⟩ := nsIn_form hN
  have he := eqSp
  clear hN P hX hXb hca hcb hE
  go_enter Tryd.func6, Tryd.ntmps6
  go_wp2_with fail
  refine Calls.mono (HO.out _ B.out) ?_
  rintro e w1 ⟨rfl, hb⟩
  replace B := hid (B.out.trans (hb.mono B.out.size))
  clear hb
  go_wp2_with fail
  refine Calls.mono (HF1.out _ B.out) ?_
  rintro e w2 ⟨rfl, hb⟩
  replace B := hid (B.out.trans (hb.mono B.out.size))
  clear hb
  replace B := hid (B.out.alloc B.out.size (.cells #[.int .i64 1, .int .i64 2] 28))
  go_wp2_with fail
  refine Calls.mono (HA.out _ B.out) ?_
  rintro e w3 ⟨rfl, hb⟩
  replace B := hid ((B.out.trans (hb.mono B.out.size)).alloc (B.out.trans (hb.mono B.out.size)).size (.cells #[.int .i64 (x.1 : Int), .int .i64 (x.2 : Int)] 28))
  have HX3 : Hid ((w3.alloc (.cells #[.int .i64 (x.1 : Int), .int .i64 (x.2 : Int)] 28)).cell? ⟨w3.heap.size, 0, none⟩ = some (.int .i64 (x.1 : Int)) ∧ (w3.alloc (.cells #[.int .i64 (x.1 : Int), .int .i64 (x.2 : Int)] 28)).cell? ⟨w3.heap.size, 1, none⟩ = some (.int .i64 (x.2 : Int)) ∧ w3.heap.size < (w3.alloc (.cells #[.int .i64 (x.1 : Int), .int .i64 (x.2 : Int)] 28)).heap.size) := ⟨by simp, by simp, by simp⟩
  clear hb
  obtain ⟨w3', hw3⟩ : ∃ W, w3.alloc (.cells #[.int .i64 (x.1 : Int), .int .i64 (x.2 : Int)] 28) = W := ⟨_, rfl⟩
  rw [hw3] at B HX3
  go_wp2_with fail
  refine Calls.mono (HB.out _ B.out) ?_
  rintro e w4 ⟨rfl, hb⟩
  have HX4 : Hid (w4.cell? ⟨w3.heap.size, 0, none⟩ = some (.int .i64 (x.1 : Int)) ∧ w4.cell? ⟨w3.heap.size, 1, none⟩ = some (.int .i64 (x.2 : Int)) ∧ w3.heap.size < w4.heap.size) := ⟨(hb.cell (p := ⟨w3.heap.size, 0, none⟩) HX3.out.2.2).trans HX3.out.1, (hb.cell (p := ⟨w3.heap.size, 1, none⟩) HX3.out.2.2).trans HX3.out.2.1, Nat.lt_of_lt_of_le HX3.out.2.2 hb.size⟩
  replace B := hid ((B.out.trans (hb.mono B.out.size)).alloc (B.out.trans (hb.mono B.out.size)).size (.cells #[.int .i64 (y.1 : Int), .int .i64 (y.2 : Int)] 28))
  clear hb hw3 HX3
  obtain ⟨w4', hw4⟩ : ∃ W, w4.alloc (.cells #[.int .i64 (y.1 : Int), .int .i64 (y.2 : Int)] 28) = W := ⟨_, rfl⟩
  have hb4 : Below w4.heap.size w4 w4' := by rw [← hw4]; exact (Below.refl _ _).alloc (Nat.le_refl _) _
  have HX5 : Hid (∀ w', Below w4'.heap.size w4' w' → w'.cell? ⟨w3.heap.size, 0, none⟩ = some (.int .i64 (x.1 : Int)) ∧ w'.cell? ⟨w3.heap.size, 1, none⟩ = some (.int .i64 (x.2 : Int)) ∧ w'.cell? ⟨w4.heap.size, 0, none⟩ = some (.int .i64 (y.1 : Int)) ∧ w'.cell? ⟨w4.heap.size, 1, none⟩ = some (.int .i64 (y.2 : Int))) := by
    intro w' hb
    have hl : w4.heap.size < w4'.heap.size := by rw [← hw4]; simp
    have h1 := HX4.out
    refine ⟨?_, ?_, ?_, ?_⟩
    · exact (hb.cell (p := ⟨w3.heap.size, 0, none⟩) (by show w3.heap.size < _; omega)).trans ((hb4.cell (p := ⟨w3.heap.size, 0, none⟩) h1.2.2).trans h1.1)
    · exact (hb.cell (p := ⟨w3.heap.size, 1, none⟩) (by show w3.heap.size < _; omega)).trans ((hb4.cell (p := ⟨w3.heap.size, 1, none⟩) h1.2.2).trans h1.2.1)
    · exact (hb.cell (p := ⟨w4.heap.size, 0, none⟩) hl).trans (by rw [← hw4]; simp)
    · exact (hb.cell (p := ⟨w4.heap.size, 1, none⟩) hl).trans (by rw [← hw4]; simp)
  rw [hw4] at B
  clear hb4 HX4
  go_wp2_with fail
  refine Calls.mono (HER.out _ B.out) ?_
  rintro e w5 ⟨rfl, hb⟩
  obtain ⟨p0, p1, q0, q1⟩ := HX5.out _ hb
  replace B := hid (B.out.trans (hb.mono B.out.size))
  clear hb hw4 HX5
  go_wp2
  go_ret
  exact ⟨rfl, B.out⟩
set_option maxHeartbeats 8000000 in
theorem findLater_same {X : World → Prop} (hXb : ∀ w w', X w → Below w.heap.size w w' → X w') (P : FindC X) (ns : List Nd) (v : Value) (s : ByteArray) (hs : s.size ≤ maxLen) (a b : Int) (w : World) (hX : X w) (hN : NsIn w v ns) (wN : ∀ n ∈ ns, n.wf) (hE : w.cell? ⟨0, 0, none⟩ = some (rty 32)) (h0 : 0 < w.heap.size) (hab : a ≤ b) (c d : Int) (x y : Nat × Nat) (hca : ∀ v w, X w → NsIn w v ns → Calls Tryd.prog 10 #[v, .string s, .int .i64 a] w fun e w' => e = .returned (.tuple #[spV x, errV c]) ∧ Below w.heap.size w w') (hcb : ∀ v w, X w → NsIn w v ns → Calls Tryd.prog 10 #[v, .string s, .int .i64 b] w fun e w' => e = .returned (.tuple #[spV y, errV d]) ∧ Below w.heap.size w w') (hc0 : c = 0) (hd0 : d = 0) (hxy : x = y) (hxb : ¬ (x.1 : Int) < b) :
    Calls Tryd.prog 6 #[v, .string s, .int .i64 a, .int .i64 b] w fun e w' => e = .returned (.bool true) ∧ Below w.heap.size w w' := by
  have HO : Hid (∀ w', Below w.heap.size w w' → _) := fun w' _ => ofA w'
  have HF1 : Hid (∀ w', Below w.heap.size w w' → _) := fun w' hb => fact_aa hXb P w' (hXb w w' hX hb)
  have HA : Hid (∀ w', Below w.heap.size w w' → _) := fun w' hb => hca v w' (hXb w w' hX hb) (hN.below hb)
  have HB : Hid (∀ w', Below w.heap.size w w' → _) := fun w' hb => hcb v w' (hXb w w' hX hb) (hN.below hb)
  have HER : Hid (∀ w', Below w.heap.size w w' → _) := fun w' hb => error_any d 4 w' ((hb.cell (p := ⟨0, 0, none⟩) h0).trans hE)
  have HEC : Hid (∀ w', Below w.heap.size w w' → _) := fun w' hb => error_any c 4 w' ((hb.cell (p := ⟨0, 0, none⟩) h0).trans hE)
  subst hc0
  rw [show errV 0 = .nilIface from rfl] at HA
  subst hd0
  rw [show errV 0 = .nilIface from rfl] at HB HER
  have hq : ∀ w, (Op.equalIn 10000 28 (.agg #[.int .i64 (x.1 : Int), .int .i64 (x.2 : Int)]) (.agg #[.int .i64 (y.1 : Int), .int .i64 (y.2 : Int)])).run Tryd.prog w = .ok true w := fun w => (eqSp _ _ _ _ w).trans (by rw [hxy]; simp)
  have gxx : (x.1 : Int) ≤ (y.1 : Int) := by rw [hxy]; omega
  have gle : decide ((x.1 : Int) < b) = false := by simp only [hxb, decide_false]
  clear hxy
  have B := hid (Below.refl w.heap.size w)
  obtain ⟨va, vc, rfl, vm⟩ := nsIn_form hN
  have he := eqSp
  clear hN P hX hXb hca hcb hE
  go_enter Tryd.func6, Tryd.ntmps6
  go_wp2_with fail
  refine Calls.mono (HO.out _ B.out) ?_
  rintro e w1 ⟨rfl, hb⟩
  replace B := hid (B.out.trans (hb.mono B.out.size))
  clear hb
  go_wp2_with fail
  refine Calls.mono (HF1.out _ B.out) ?_
  rintro e w2 ⟨rfl, hb⟩
  replace B := hid (B.out.trans (hb.mono B.out.size))
  clear hb
  replace B := hid (B.out.alloc B.out.size (.cells #[.int .i64 1, .int .i64 2] 28))
  go_wp2_with fail
  refine Calls.mono (HA.out _ B.out) ?_
  rintro e w3 ⟨rfl, hb⟩
  replace B := hid ((B.out.trans (hb.mono B.out.size)).alloc (B.out.trans (hb.mono B.out.size)).size (.cells #[.int .i64 (x.1 : Int), .int .i64 (x.2 : Int)] 28))
  have HX3 : Hid ((w3.alloc (.cells #[.int .i64 (x.1 : Int), .int .i64 (x.2 : Int)] 28)).cell? ⟨w3.heap.size, 0, none⟩ = some (.int .i64 (x.1 : Int)) ∧ (w3.alloc (.cells #[.int .i64 (x.1 : Int), .int .i64 (x.2 : Int)] 28)).cell? ⟨w3.heap.size, 1, none⟩ = some (.int .i64 (x.2 : Int)) ∧ w3.heap.size < (w3.alloc (.cells #[.int .i64 (x.1 : Int), .int .i64 (x.2 : Int)] 28)).heap.size) := ⟨by simp, by simp, by simp⟩
  clear hb
  obtain ⟨w3', hw3⟩ : ∃ W, w3.alloc (.cells #[.int .i64 (x.1 : Int), .int .i64 (x.2 : Int)] 28) = W := ⟨_, rfl⟩
  rw [hw3] at B HX3
  go_wp2_with fail
  refine Calls.mono (HB.out _ B.out) ?_
  rintro e w4 ⟨rfl, hb⟩
  have HX4 : Hid (w4.cell? ⟨w3.heap.size, 0, none⟩ = some (.int .i64 (x.1 : Int)) ∧ w4.cell? ⟨w3.heap.size, 1, none⟩ = some (.int .i64 (x.2 : Int)) ∧ w3.heap.size < w4.heap.size) := ⟨(hb.cell (p := ⟨w3.heap.size, 0, none⟩) HX3.out.2.2).trans HX3.out.1, (hb.cell (p := ⟨w3.heap.size, 1, none⟩) HX3.out.2.2).trans HX3.out.2.1, Nat.lt_of_lt_of_le HX3.out.2.2 hb.size⟩
  replace B := hid ((B.out.trans (hb.mono B.out.size)).alloc (B.out.trans (hb.mono B.out.size)).size (.cells #[.int .i64 (y.1 : Int), .int .i64 (y.2 : Int)] 28))
  clear hb hw3 HX3
  obtain ⟨w4', hw4⟩ : ∃ W, w4.alloc (.cells #[.int .i64 (y.1 : Int), .int .i64 (y.2 : Int)] 28) = W := ⟨_, rfl⟩
  have hb4 : Below w4.heap.size w4 w4' := by rw [← hw4]; exact (Below.refl _ _).alloc (Nat.le_refl _) _
  have HX5 : Hid (∀ w', Below w4'.heap.size w4' w' → w'.cell? ⟨w3.heap.size, 0, none⟩ = some (.int .i64 (x.1 : Int)) ∧ w'.cell? ⟨w3.heap.size, 1, none⟩ = some (.int .i64 (x.2 : Int)) ∧ w'.cell? ⟨w4.heap.size, 0, none⟩ = some (.int .i64 (y.1 : Int)) ∧ w'.cell? ⟨w4.heap.size, 1, none⟩ = some (.int .i64 (y.2 : Int))) := by
    intro w' hb
    have hl : w4.heap.size < w4'.heap.size := by rw [← hw4]; simp
    have h1 := HX4.out
    refine ⟨?_, ?_, ?_, ?_⟩
    · exact (hb.cell (p := ⟨w3.heap.size, 0, none⟩) (by show w3.heap.size < _; omega)).trans ((hb4.cell (p := ⟨w3.heap.size, 0, none⟩) h1.2.2).trans h1.1)
    · exact (hb.cell (p := ⟨w3.heap.size, 1, none⟩) (by show w3.heap.size < _; omega)).trans ((hb4.cell (p := ⟨w3.heap.size, 1, none⟩) h1.2.2).trans h1.2.1)
    · exact (hb.cell (p := ⟨w4.heap.size, 0, none⟩) hl).trans (by rw [← hw4]; simp)
    · exact (hb.cell (p := ⟨w4.heap.size, 1, none⟩) hl).trans (by rw [← hw4]; simp)
  rw [hw4] at B
  clear hb4 HX4
  go_wp2_with fail
  refine Calls.mono (HER.out _ B.out) ?_
  rintro e w5 ⟨rfl, hb⟩
  obtain ⟨p0, p1, q0, q1⟩ := HX5.out _ hb
  replace B := hid (B.out.trans (hb.mono B.out.size))
  clear hb hw4 HX5
  clear he
  go_wp2
  go_ret
  exact ⟨rfl, B.out⟩
theorem findLater_any {X : World → Prop} (hXb : ∀ w w', X w → Below w.heap.size w w' → X w') (P : FindC X) (ns : List Nd) (v : Value) (s : ByteArray) (hs : s.size ≤ maxLen) (a b : Int) (w : World) (hX : X w) (hN : NsIn w v ns) (wN : ∀ n ∈ ns, n.wf) (hE : w.cell? ⟨0, 0, none⟩ = some (rty 32)) (h0 : 0 < w.heap.size) :
    Calls Tryd.prog 6 #[v, .string s, .int .i64 a, .int .i64 b] w fun e w' => e = .returned (.bool true) ∧ Below w.heap.size w w' := by
  by_cases hab : b < a
  · exact findLater_less hXb P ns v s hs a b w hX hN wN hE h0 hab
  have hab' : a ≤ b := by omega
  obtain ⟨c, x, hc, hca⟩ := P.any ns s hs a wN
  obtain ⟨d, y, hd, hcb⟩ := P.any ns s hs b wN
  obtain ⟨l1, l2, l3⟩ := fo_later hab' hc hd
  by_cases hc0 : c = 0
  · by_cases hd0 : d = 0
    · obtain ⟨h1, h2⟩ := l3 hc0 hd0
      by_cases hxb : (x.1 : Int) < b
      · exact findLater_ahead hXb P ns v s hs a b w hX hN wN hE h0 hab' c d x y hca hcb hc0 hd0 h1 hxb
      · exact findLater_same hXb P ns v s hs a b w hX hN wN hE h0 hab' c d x y hca hcb hc0 hd0 (h2.resolve_left hxb) hxb
    · by_cases hd4 : d = 4
      · exact findLater_none hXb P ns v s hs a b w hX hN wN hE h0 hab' c d x y hca hcb hc0 hd0 hd4 (l2 hc0 hd4)
      · exact findLater_bad hXb P ns v s hs a b w hX hN wN hE h0 hab' c d x y hca hcb hc0 hd0 hd4
  · by_cases hc4 : c = 4
    · exact findLater_gone hXb P ns v s hs a b w hX hN wN hE h0 hab' c d x y hca hcb hc0 hc4 (l1 hc4)
    · exact findLater_wrong hXb P ns v s hs a b w hX hN wN hE h0 hab' c d x y hca hcb hc0 hc4
end Go.Proofs.YteobcgajaebabaaDoor
namespace Go.Proofs.YteobcgajaebabaaDoor
set_option linter.unusedSimpArgs false
set_option linter.unusedVariables false
set_option maxRecDepth 100000
open Go.RowKit

/-- A step. -/
structure St where
  op : Int
  c : C4
  x : Int
  y : Int
/-- The steps ss lie from an address on. -/
def SsAt (w : World) (b off : Nat) (ss : List St) : Prop := ∀ i n, ss[i]? = some n →
  w.cell? ⟨b, off + i * 7, none⟩ = some (.int .i64 n.op) ∧ w.cell? ⟨b, off + i * 7 + 1, none⟩ = some (.int .u64 n.c.a) ∧ w.cell? ⟨b, off + i * 7 + 2, none⟩ = some (.int .u64 n.c.b) ∧ w.cell? ⟨b, off + i * 7 + 3, none⟩ = some (.int .u64 n.c.c) ∧ w.cell? ⟨b, off + i * 7 + 4, none⟩ = some (.int .u64 n.c.d) ∧ w.cell? ⟨b, off + i * 7 + 5, none⟩ = some (.int .i64 n.x) ∧ w.cell? ⟨b, off + i * 7 + 6, none⟩ = some (.int .i64 n.y)
/-- A slice that reads as the steps ss. -/
def SsIn (w : World) (v : Value) (ss : List St) : Prop := ∃ a cap, v = .slice a ss.length cap ∧ ss.length ≤ maxLen ∧ (ss = [] ∨ ∃ b off, a = some ⟨b, off, none⟩ ∧ b < w.heap.size ∧ SsAt w b off ss)
theorem SsAt.below {w w' : World} {B b off : Nat} {ss : List St} (h : SsAt w b off ss) (hb : Below B w w') (hlt : b < B) : SsAt w' b off ss := by
  intro i n hn
  obtain ⟨h0, h1, h2, h3, h4, h5, h6⟩ := h i n hn
  exact ⟨(hb.cell (p := ⟨b, _, none⟩) hlt).trans h0, (hb.cell (p := ⟨b, _, none⟩) hlt).trans h1, (hb.cell (p := ⟨b, _, none⟩) hlt).trans h2, (hb.cell (p := ⟨b, _, none⟩) hlt).trans h3, (hb.cell (p := ⟨b, _, none⟩) hlt).trans h4, (hb.cell (p := ⟨b, _, none⟩) hlt).trans h5, (hb.cell (p := ⟨b, _, none⟩) hlt).trans h6⟩
theorem SsIn.below {w w' : World} {v : Value} {ss : List St} (h : SsIn w v ss) (hb : Below w.heap.size w w') : SsIn w' v ss := by
  obtain ⟨a, cap, rfl, hm, h | ⟨b, off, rfl, hlt, hn⟩⟩ := h
  · exact ⟨a, cap, rfl, hm, Or.inl h⟩
  · exact ⟨_, cap, rfl, hm, Or.inr ⟨b, off, rfl, Nat.lt_of_lt_of_le hlt hb.size, hn.below hb hlt⟩⟩
theorem ssIn_form {w : World} {v : Value} {ss : List St} (h : SsIn w v ss) : ∃ a cap, v = .slice a ss.length cap ∧ ss.length ≤ maxLen := by
  obtain ⟨a, cap, h1, h2, _⟩ := h
  exact ⟨a, cap, h1, h2⟩
theorem ssIn_nil (w : World) : SsIn w (.slice none 0 0) [] := ⟨none, 0, rfl, by simp, Or.inl rfl⟩
/-- A number is none that may be, of a step of a program of N. -/
abbrev stRange (N : Nat) (s : St) : Prop := s.op < 1 ∨ 5 < s.op ∨ (s.op ≠ 5 ∧ (s.x < 0 ∨ (N : Int) ≤ s.x)) ∨ (s.op = 2 ∧ (s.y < 0 ∨ (N : Int) ≤ s.y))
/-- A field that its Op has not is not 0. -/
abbrev stShape (s : St) : Prop := (s.op ≠ 1 ∧ ¬ s.c.eqb z4 = true) ∨ (s.op ≠ 2 ∧ s.y ≠ 0) ∨ (s.op = 5 ∧ s.x ≠ 0)
def stBad (N : Nat) (s : St) : Int := if stRange N s then 1 else if stShape s then 2 else 0
def stScan (N : Nat) : List St → Int
  | [] => 0
  | s :: r => if stBad N s = 0 then stScan N r else stBad N s
/-- What is wrong with a program. -/
def stepsF (ss : List St) : Int := if 200 < ss.length then 3 else if ss.length = 0 then 4 else stScan ss.length ss
theorem stBad_range {N : Nat} {s : St} (h : stRange N s) : stBad N s = 1 := by unfold stBad; rw [if_pos h]
theorem stBad_shape {N : Nat} {s : St} (h : ¬ stRange N s) (h2 : stShape s) : stBad N s = 2 := by unfold stBad; rw [if_neg h, if_pos h2]
theorem stBad_ok {N : Nat} {s : St} (h : ¬ stRange N s) (h2 : ¬ stShape s) : stBad N s = 0 := by unfold stBad; rw [if_neg h, if_neg h2]
theorem stBad_zero {N : Nat} {s : St} (h : stBad N s = 0) : ¬ stRange N s ∧ ¬ stShape s := by
  unfold stBad at h
  by_cases h1 : stRange N s
  · rw [if_pos h1] at h; cases h
  · rw [if_neg h1] at h
    by_cases h2 : stShape s
    · rw [if_pos h2] at h; cases h
    · exact ⟨h1, h2⟩
theorem stScan_drop (N : Nat) : ∀ (ss : List St) (i : Nat) (n : St), ss[i]? = some n → stScan N (ss.drop i) = if stBad N n = 0 then stScan N (ss.drop (i + 1)) else stBad N n
  | [], i, n, h => by simp at h
  | s :: r, 0, n, h => by
    simp at h
    subst h
    rfl
  | s :: r, i + 1, n, h => by
    rw [List.drop_succ_cons, List.drop_succ_cons]
    exact stScan_drop N r i n (by simpa using h)
theorem stScan_all (N : Nat) : ∀ (ss : List St), stScan N ss = 0 → ∀ s ∈ ss, stBad N s = 0
  | [], _, s, hs => by cases hs
  | a :: r, h, s, hs => by
    unfold stScan at h
    by_cases h0 : stBad N a = 0
    · rw [if_pos h0] at h
      rcases List.mem_cons.1 hs with rfl | hs
      · exact h0
      · exact stScan_all N r h s hs
    · rw [if_neg h0] at h
      exact absurd h h0
theorem stepsF_zero {ss : List St} (h : stepsF ss = 0) : ss.length ≤ 200 ∧ 0 < ss.length ∧ ∀ s ∈ ss, ¬ stRange ss.length s ∧ ¬ stShape s := by
  unfold stepsF at h
  by_cases h1 : 200 < ss.length
  · rw [if_pos h1] at h; cases h
  · rw [if_neg h1] at h
    by_cases h2 : ss.length = 0
    · rw [if_pos h2] at h; cases h
    · rw [if_neg h2] at h
      exact ⟨by omega, by omega, fun s hs => stBad_zero (stScan_all _ _ h s hs)⟩
def SsOk (ss : List St) : Prop := ∀ s ∈ ss, s.c.ok
end Go.Proofs.YteobcgajaebabaaDoor
namespace Go.Proofs.YteobcgajaebabaaDoor
set_option linter.unusedSimpArgs false
set_option linter.unusedVariables false
set_option maxRecDepth 100000
open Go.RowKit
/-- A step that is not known yet. -/
abbrev stZ : St := ⟨0, z4, 0, 0⟩
/-- A fork. -/
abbrev stF (x y : Nat) : St := ⟨2, z4, x, y⟩
/-- The last step. -/
abbrev stD : St := ⟨5, z4, 0, 0⟩
/-- The steps of a tree, the first of them being step p. -/
def Rx.cod : Rx → Nat → List St
  | .leaf n, p => if n.op = 1 then [⟨1, n.c, ((p + 1 : Nat) : Int), 0⟩] else if n.op = 8 then [⟨3, z4, ((p + 1 : Nat) : Int), 0⟩] else if n.op = 9 then [⟨4, z4, ((p + 1 : Nat) : Int), 0⟩] else []
  | .one n a, p =>
    if n.op = 5 then stF (p + 1) (p + 1 + (a.cod (p + 1)).length + 1) :: (a.cod (p + 1) ++ [stF (p + 1) (p + 1 + (a.cod (p + 1)).length + 1)])
    else if n.op = 6 then a.cod p ++ [stF p (p + (a.cod p).length + 1)]
    else stF (p + 1) (p + 1 + (a.cod (p + 1)).length) :: a.cod (p + 1)
  | .two n a b, p =>
    if n.op = 3 then a.cod p ++ b.cod (p + (a.cod p).length)
    else stF (p + 1) (p + 1 + (a.cod (p + 1)).length + 1) :: (a.cod (p + 1) ++ (stF (p + 1 + (a.cod (p + 1)).length + 1 + (b.cod (p + 1 + (a.cod (p + 1)).length + 1)).length) (p + 1 + (a.cod (p + 1)).length + 1 + (b.cod (p + 1 + (a.cod (p + 1)).length + 1)).length) :: b.cod (p + 1 + (a.cod (p + 1)).length + 1)))
theorem Rx.cod_len : ∀ (t : Rx) (p : Nat), (t.cod p).length ≤ 2 * t.flat.length
  | .leaf n, p => by
    simp only [Rx.cod, Rx.flat]
    repeat' split
    all_goals simp
  | .one n a, p => by
    have h1 := a.cod_len p
    have h2 := a.cod_len (p + 1)
    simp only [Rx.cod, Rx.flat]
    repeat' split
    all_goals simp
    all_goals omega
  | .two n a b, p => by
    have h1 := a.cod_len p
    have h2 := a.cod_len (p + 1)
    have h3 := b.cod_len (p + (a.cod p).length)
    have h4 := b.cod_len (p + 1 + (a.cod (p + 1)).length + 1)
    simp only [Rx.cod, Rx.flat]
    repeat' split
    all_goals simp
    all_goals omega
/-- The program of a tree. -/
def Rx.prog (t : Rx) : List St := t.cod 0 ++ [stD]
end Go.Proofs.YteobcgajaebabaaDoor
