/- The law SynBack: from what package syn answers. -/
import Derived.Test.YtmdfdlljeggbbaaDoorY04
import Derived.Test.YtmdfdlljeggbbaaDoorY03
import Derived.Test.YtmdfdlljeggbbaaDoorY05
import Derived.Test.YtmdfdlljeggbbaaDoorY06
namespace Go.Proofs.YtmdfdlljeggbbaaDoor
set_option linter.unusedSimpArgs false
set_option linter.unusedVariables false
set_option maxRecDepth 100000
open Go.RowKit

theorem below_oneB (w : World) (o : Obj) : Below w.heap.size w (w.alloc o) := (Below.refl _ _).alloc (Nat.le_refl _) _
theorem wf_okW {x : Int} (h : okW x) : (Lit.int .u64 x).wf = true := by
  have e1 : IntKind.u64.min = 0 := by decide
  have e2 : IntKind.u64.max = 18446744073709551615 := by decide
  unfold okW at h
  show (decide (IntKind.u64.min ≤ x) && decide (x ≤ IntKind.u64.max)) = true
  rw [e1, e2]
  simp
  omega
theorem wf_op {x : Int} (h : 1 ≤ x ∧ x ≤ 9) : (Lit.int .i64 x).wf = true := by
  have h9 : x = 1 ∨ x = 2 ∨ x = 3 ∨ x = 4 ∨ x = 5 ∨ x = 6 ∨ x = 7 ∨ x = 8 ∨ x = 9 := by omega
  rcases h9 with rfl | rfl | rfl | rfl | rfl | rfl | rfl | rfl | rfl <;> rfl
theorem good_wf {n : Nd} (h : n.good) : n.wf := ⟨wf_op h.1, wf_okW h.2.2.1, wf_okW h.2.2.2.1, wf_okW h.2.2.2.2.1, wf_okW h.2.2.2.2.2⟩
def ownB : Rx := .one ⟨5, z4⟩ (.two ⟨4, z4⟩ (.leaf ⟨1, C4.ofL [97]⟩) (.leaf ⟨2, z4⟩))
theorem ownB_txt : ownB.txt = [40, 97, 124, 41, 42] := by decide +kernel
theorem ownB_fault : faultL ownB.flat = 0 := by decide +kernel
theorem ownB_ok : ownB.Ok := ⟨rfl, rfl, rfl, rfl⟩
theorem ownB_good : ownB.Good := fault_good ownB ownB_ok ownB_fault (by
  intro n hn
  simp [ownB, Rx.flat] at hn
  rcases hn with rfl | rfl | rfl | rfl
  · exact z4_ok
  · exact z4_ok
  · exact ofL_ok _
  · exact z4_ok)
theorem ns_newB (w : World) (ns : List Nd) (hm : ns.length ≤ maxLen) : NsIn (w.alloc (.cells (nsCells ns).toArray 56 (0, 0))) (.slice (some ⟨w.heap.size, 0, none⟩) ns.length ns.length) ns := by
  have e : (w.alloc (.cells (nsCells ns).toArray 56 (0, 0))).heap[w.heap.size]? = some (.cells (nsCells ns).toArray 56 (0, 0)) := by
    show (w.heap.push _)[w.heap.size]? = _
    simp
  have h : NsOwn (w.alloc (.cells (nsCells ns).toArray 56 (0, 0))) w.heap.size (.slice (some ⟨w.heap.size, 0, none⟩) ns.length ns.length) ns :=
    ⟨nsCells_len ns, Or.inr ⟨w.heap.size, ns.length, _, rfl, Nat.le_refl _, e, Nat.le_refl _, hm, by simp [nsCells_len], by simp [← nsCells_len]⟩⟩
  exact h.isIn hm
/-- What Print answers to some nodes. -/
inductive PrR (ns : List Nd) : ByteArray → Int → Prop
  | bad (S : ByteArray) (E : Int) : ¬ E = 0 → PrR ns S E
  | ok (t : Rx) : t.Good → ns = t.flat → t.flat.length ≤ 60 → ¬ 200 < t.txt.length → PrR ns ⟨t.txt.toArray⟩ 0
theorem print_any (P : SynP) (ns : List Nd) (hw : ∀ n ∈ ns, n.wf) : ∃ S E, PrR ns S E ∧ ∀ v w, NsIn w v ns → Calls Tryd.prog 30 #[v] w fun e w' => e = .returned (.tuple #[.string S, errV E]) ∧ Below w.heap.size w w' := by
  by_cases hf : faultL ns = 0
  · obtain ⟨hl, _, hv⟩ := (faultL_zero ns).1 hf
    obtain ⟨t, ht, rfl⟩ := tree_of ns hv
    have hg := fault_good t ht hf (fun n hn => C4.wf_ok (hw n hn).2)
    by_cases h200 : 200 < t.txt.length
    · refine ⟨_, prtE t, .bad ⟨(prtL t).toArray⟩ _ (by unfold prtE; rw [if_pos h200]; decide), fun v w hN => P.ok t v w ht hN hw hf⟩
    · refine ⟨_, 0, .ok t hg rfl hl h200, fun v w hN => ?_⟩
      have := P.ok t v w ht hN hw hf
      unfold prtL prtE at this
      rw [if_neg h200, if_neg h200] at this
      exact this
  · exact ⟨_, _, .bad _ _ hf, fun v w hN => P.bad ns v w hN hw hf⟩
/-- A text that was printed is read as what it was. -/
theorem psR_print (t : Rx) (hg : t.Good) (hl : t.flat.length ≤ 60) (h200 : ¬ 200 < t.txt.length) : PsR ⟨t.txt.toArray⟩ t.flat 0 0 := by
  refine PsR.ok t (by rw [size_str]; omega) ?_ (by omega)
  have := read_txt t hg
  simpa using this
theorem error_three (w : World) (hE : w.cell? ⟨0, 0, none⟩ = some (rty 28)) : Calls Tryd.prog 8 #[.iface 25 (.int .i64 3), .int .i64 3] w fun e w' => e = .returned (.bool true) ∧ Below w.heap.size w w' := error_self 3 w hE
set_option maxHeartbeats 8000000 in
theorem back_A_1 (x y : List UInt8) (ka : C4) (ns os ms : List Nd) (v o : Value) (s S So Sx : ByteArray) (E Eo er k : Int) (w : World) (HN : Hid (NsIn w v ns)) (HM : Hid (NsIn w o os)) (S0 : Hid (Stay w w)) (H0 : Hid (0 < w.heap.size))
    (OF : Hid (∀ w, Calls Tryd.prog 9 #[.string ⟨#[97]⟩] w fun e w' => e = .returned ka.v ∧ Below w.heap.size w w'))
    (CO : Hid (∀ v w, NsIn w v [⟨5, z4⟩, ⟨4, z4⟩, ⟨1, ka⟩, ⟨2, z4⟩] → Calls Tryd.prog 30 #[v] w fun e w' => e = .returned (.tuple #[.string ⟨#[40, 97, 124, 41, 42]⟩, .nilIface]) ∧ Below w.heap.size w w'))
    (PR : Hid (∀ v w, NsIn w v ns → Calls Tryd.prog 30 #[v] w fun e w' => e = .returned (.tuple #[.string S, .iface 25 (.int .i64 E)]) ∧ Below w.heap.size w w')) (PS : Hid (∀ w, Calls Tryd.prog 31 #[.string s] w fun x w' => ∃ u, x = .returned (.tuple #[u, .int .i64 k, .iface 25 (.int .i64 er)]) ∧ Below w.heap.size w w' ∧ NsIn w' u ms)) :
    Calls Tryd.prog 5 #[v, o, .string s] w fun e w' => e = .returned (.bool true) ∧ Below w.heap.size w w' := by
  obtain ⟨va, vc, rfl, hm1⟩ := nsIn_form HN.out
  obtain ⟨oa, oc, rfl, hm2⟩ := nsIn_form HM.out
  go_enter Tryd.func5, Tryd.ntmps5
  go_wp2_with fail
  refine Calls.mono (OF.out _) ?_
  rintro e x1 ⟨rfl, hb⟩
  have S1 : Hid (Stay w x1) := S0.out.more H0.out hb
  clear hb
  have CO1 : Hid _ := CO.out _ _ (ns_newB x1 [⟨5, z4⟩, ⟨4, z4⟩, ⟨1, ka⟩, ⟨2, z4⟩] (by simp [maxLen]))
  go_wp2_with fail
  refine Calls.mono (CO1.out) ?_
  rintro e x2 ⟨rfl, hb⟩
  have S2 : Hid (Stay w x2) := S1.out.more H0.out ((below_oneB _ _).trans (hb.mono (by simp)))
  clear hb CO1
  go_wp2_with fail
  refine Calls.mono (PR.out _ _ (NsIn.below HN.out S2.out.b)) ?_
  rintro e x3 ⟨rfl, hb⟩
  have S3 : Hid (Stay w x3) := S2.out.more H0.out hb
  clear hb
  go_wp2_with fail
  refine Calls.mono (PS.out _) ?_
  rintro e z1 ⟨zv, rfl, hb, hz⟩
  have Z1 : Hid (Stay w z1) := S3.out.more H0.out hb
  have V1 : Hid (NsIn z1 zv ms) := hz
  clear hb hz
  obtain ⟨za, zc, rfl, _⟩ := nsIn_form V1.out
  go_wp2
  go_ret
  exact ⟨rfl, Z1.out.b⟩
set_option maxHeartbeats 8000000 in
theorem back_A_2a (x y : List UInt8) (ka : C4) (ns os ms : List Nd) (v o : Value) (s S So Sx : ByteArray) (E Eo er k : Int) (w : World) (HN : Hid (NsIn w v ns)) (HM : Hid (NsIn w o os)) (S0 : Hid (Stay w w)) (H0 : Hid (0 < w.heap.size))
    (OF : Hid (∀ w, Calls Tryd.prog 9 #[.string ⟨#[97]⟩] w fun e w' => e = .returned ka.v ∧ Below w.heap.size w w'))
    (CO : Hid (∀ v w, NsIn w v [⟨5, z4⟩, ⟨4, z4⟩, ⟨1, ka⟩, ⟨2, z4⟩] → Calls Tryd.prog 30 #[v] w fun e w' => e = .returned (.tuple #[.string ⟨#[40, 97, 124, 41, 42]⟩, .nilIface]) ∧ Below w.heap.size w w'))
    (PR : Hid (∀ v w, NsIn w v ns → Calls Tryd.prog 30 #[v] w fun e w' => e = .returned (.tuple #[.string S, .iface 25 (.int .i64 E)]) ∧ Below w.heap.size w w')) (PS : Hid (∀ w, Calls Tryd.prog 31 #[.string s] w fun x w' => ∃ u, x = .returned (.tuple #[u, .int .i64 k, .nilIface]) ∧ Below w.heap.size w w' ∧ NsIn w' u ms)) (PX : Hid (∀ v w, NsIn w v ms → Calls Tryd.prog 30 #[v] w fun e w' => e = .returned (.tuple #[.string Sx, .iface 25 (.int .i64 3)]) ∧ Below w.heap.size w w')) :
    Calls Tryd.prog 5 #[v, o, .string s] w fun e w' => e = .returned (.bool true) ∧ Below w.heap.size w w' := by
  obtain ⟨va, vc, rfl, hm1⟩ := nsIn_form HN.out
  obtain ⟨oa, oc, rfl, hm2⟩ := nsIn_form HM.out
  go_enter Tryd.func5, Tryd.ntmps5
  go_wp2_with fail
  refine Calls.mono (OF.out _) ?_
  rintro e x1 ⟨rfl, hb⟩
  have S1 : Hid (Stay w x1) := S0.out.more H0.out hb
  clear hb
  have CO1 : Hid _ := CO.out _ _ (ns_newB x1 [⟨5, z4⟩, ⟨4, z4⟩, ⟨1, ka⟩, ⟨2, z4⟩] (by simp [maxLen]))
  go_wp2_with fail
  refine Calls.mono (CO1.out) ?_
  rintro e x2 ⟨rfl, hb⟩
  have S2 : Hid (Stay w x2) := S1.out.more H0.out ((below_oneB _ _).trans (hb.mono (by simp)))
  clear hb CO1
  go_wp2_with fail
  refine Calls.mono (PR.out _ _ (NsIn.below HN.out S2.out.b)) ?_
  rintro e x3 ⟨rfl, hb⟩
  have S3 : Hid (Stay w x3) := S2.out.more H0.out hb
  clear hb
  go_wp2_with fail
  refine Calls.mono (PS.out _) ?_
  rintro e z1 ⟨zv, rfl, hb, hz⟩
  have Z1 : Hid (Stay w z1) := S3.out.more H0.out hb
  have V1 : Hid (NsIn z1 zv ms) := hz
  clear hb hz
  obtain ⟨za, zc, rfl, _⟩ := nsIn_form V1.out
  go_wp2_with fail
  refine Calls.mono (PX.out _ _ V1.out) ?_
  rintro e z2 ⟨rfl, hb⟩
  have Z2 : Hid (Stay w z2) := Z1.out.more H0.out hb
  have V2 : Hid (NsIn z2 (.slice za ms.length zc) ms) := NsIn.below V1.out hb
  clear hb
  go_wp2_with fail
  refine Calls.mono (error_three _ Z2.out.e) ?_
  rintro e z3 ⟨rfl, hb⟩
  have Z3 : Hid (Stay w z3) := Z2.out.more H0.out hb
  clear hb
  go_wp2
  go_ret
  exact ⟨rfl, Z3.out.b⟩
set_option maxHeartbeats 8000000 in
theorem back_A_2b (x y : List UInt8) (ka : C4) (ns os ms : List Nd) (v o : Value) (s S So Sx : ByteArray) (E Eo er k : Int) (w : World) (HN : Hid (NsIn w v ns)) (HM : Hid (NsIn w o os)) (S0 : Hid (Stay w w)) (H0 : Hid (0 < w.heap.size))
    (OF : Hid (∀ w, Calls Tryd.prog 9 #[.string ⟨#[97]⟩] w fun e w' => e = .returned ka.v ∧ Below w.heap.size w w'))
    (CO : Hid (∀ v w, NsIn w v [⟨5, z4⟩, ⟨4, z4⟩, ⟨1, ka⟩, ⟨2, z4⟩] → Calls Tryd.prog 30 #[v] w fun e w' => e = .returned (.tuple #[.string ⟨#[40, 97, 124, 41, 42]⟩, .nilIface]) ∧ Below w.heap.size w w'))
    (PR : Hid (∀ v w, NsIn w v ns → Calls Tryd.prog 30 #[v] w fun e w' => e = .returned (.tuple #[.string S, .iface 25 (.int .i64 E)]) ∧ Below w.heap.size w w')) (PS : Hid (∀ w, Calls Tryd.prog 31 #[.string s] w fun x w' => ∃ u, x = .returned (.tuple #[u, .int .i64 k, .nilIface]) ∧ Below w.heap.size w w' ∧ NsIn w' u ms)) (PX : Hid (∀ v w, NsIn w v ms → Calls Tryd.prog 30 #[v] w fun e w' => e = .returned (.tuple #[.string Sx, .nilIface]) ∧ Below w.heap.size w w')) (PY : Hid (∀ w, Calls Tryd.prog 31 #[.string Sx] w fun x w' => ∃ u, x = .returned (.tuple #[u, .int .i64 0, .nilIface]) ∧ Below w.heap.size w w' ∧ NsIn w' u ms)) :
    Calls Tryd.prog 5 #[v, o, .string s] w fun e w' => e = .returned (.bool true) ∧ Below w.heap.size w w' := by
  obtain ⟨va, vc, rfl, hm1⟩ := nsIn_form HN.out
  obtain ⟨oa, oc, rfl, hm2⟩ := nsIn_form HM.out
  go_enter Tryd.func5, Tryd.ntmps5
  go_wp2_with fail
  refine Calls.mono (OF.out _) ?_
  rintro e x1 ⟨rfl, hb⟩
  have S1 : Hid (Stay w x1) := S0.out.more H0.out hb
  clear hb
  have CO1 : Hid _ := CO.out _ _ (ns_newB x1 [⟨5, z4⟩, ⟨4, z4⟩, ⟨1, ka⟩, ⟨2, z4⟩] (by simp [maxLen]))
  go_wp2_with fail
  refine Calls.mono (CO1.out) ?_
  rintro e x2 ⟨rfl, hb⟩
  have S2 : Hid (Stay w x2) := S1.out.more H0.out ((below_oneB _ _).trans (hb.mono (by simp)))
  clear hb CO1
  go_wp2_with fail
  refine Calls.mono (PR.out _ _ (NsIn.below HN.out S2.out.b)) ?_
  rintro e x3 ⟨rfl, hb⟩
  have S3 : Hid (Stay w x3) := S2.out.more H0.out hb
  clear hb
  go_wp2_with fail
  refine Calls.mono (PS.out _) ?_
  rintro e z1 ⟨zv, rfl, hb, hz⟩
  have Z1 : Hid (Stay w z1) := S3.out.more H0.out hb
  have V1 : Hid (NsIn z1 zv ms) := hz
  clear hb hz
  obtain ⟨za, zc, rfl, _⟩ := nsIn_form V1.out
  go_wp2_with fail
  refine Calls.mono (PX.out _ _ V1.out) ?_
  rintro e z2 ⟨rfl, hb⟩
  have Z2 : Hid (Stay w z2) := Z1.out.more H0.out hb
  have V2 : Hid (NsIn z2 (.slice za ms.length zc) ms) := NsIn.below V1.out hb
  clear hb
  go_wp2_with fail
  refine Calls.mono (PY.out _) ?_
  rintro e z3 ⟨yv, rfl, hb, hy⟩
  have Z3 : Hid (Stay w z3) := Z2.out.more H0.out hb
  have V3 : Hid (NsIn z3 (.slice za ms.length zc) ms) := NsIn.below V2.out hb
  have Y3 : Hid (NsIn z3 yv ms) := hy
  clear hb hy
  obtain ⟨ya, yc, rfl, _⟩ := nsIn_form Y3.out
  have CN3 : Hid _ := nodes_any ms ms _ _ z3 Y3.out V3.out
  rw [nsEq_refl] at CN3
  go_wp2_with fail
  refine Calls.mono (CN3.out) ?_
  rintro e z4' ⟨rfl, hb⟩
  have Z4 : Hid (Stay w z4') := Z3.out.more H0.out hb
  clear hb CN3
  go_wp2
  go_ret
  exact ⟨rfl, Z4.out.b⟩
set_option maxHeartbeats 8000000 in
theorem back_Bi_1 (x y : List UInt8) (ka : C4) (ns os ms : List Nd) (v o : Value) (s S So Sx : ByteArray) (E Eo er k : Int) (w : World) (HN : Hid (NsIn w v ns)) (HM : Hid (NsIn w o os)) (S0 : Hid (Stay w w)) (H0 : Hid (0 < w.heap.size))
    (OF : Hid (∀ w, Calls Tryd.prog 9 #[.string ⟨#[97]⟩] w fun e w' => e = .returned ka.v ∧ Below w.heap.size w w'))
    (CO : Hid (∀ v w, NsIn w v [⟨5, z4⟩, ⟨4, z4⟩, ⟨1, ka⟩, ⟨2, z4⟩] → Calls Tryd.prog 30 #[v] w fun e w' => e = .returned (.tuple #[.string ⟨#[40, 97, 124, 41, 42]⟩, .nilIface]) ∧ Below w.heap.size w w'))
    (PR : Hid (∀ v w, NsIn w v ns → Calls Tryd.prog 30 #[v] w fun e w' => e = .returned (.tuple #[.string S, .nilIface]) ∧ Below w.heap.size w w')) (PB : Hid (∀ w, Calls Tryd.prog 31 #[.string S] w fun x w' => ∃ u, x = .returned (.tuple #[u, .int .i64 0, .nilIface]) ∧ Below w.heap.size w w' ∧ NsIn w' u ns)) (PO : Hid (∀ v w, NsIn w v os → Calls Tryd.prog 30 #[v] w fun e w' => e = .returned (.tuple #[.string So, .iface 25 (.int .i64 Eo)]) ∧ Below w.heap.size w w')) (PS : Hid (∀ w, Calls Tryd.prog 31 #[.string s] w fun x w' => ∃ u, x = .returned (.tuple #[u, .int .i64 k, .iface 25 (.int .i64 er)]) ∧ Below w.heap.size w w' ∧ NsIn w' u ms)) :
    Calls Tryd.prog 5 #[v, o, .string s] w fun e w' => e = .returned (.bool true) ∧ Below w.heap.size w w' := by
  obtain ⟨va, vc, rfl, hm1⟩ := nsIn_form HN.out
  obtain ⟨oa, oc, rfl, hm2⟩ := nsIn_form HM.out
  go_enter Tryd.func5, Tryd.ntmps5
  go_wp2_with fail
  refine Calls.mono (OF.out _) ?_
  rintro e x1 ⟨rfl, hb⟩
  have S1 : Hid (Stay w x1) := S0.out.more H0.out hb
  clear hb
  have CO1 : Hid _ := CO.out _ _ (ns_newB x1 [⟨5, z4⟩, ⟨4, z4⟩, ⟨1, ka⟩, ⟨2, z4⟩] (by simp [maxLen]))
  go_wp2_with fail
  refine Calls.mono (CO1.out) ?_
  rintro e x2 ⟨rfl, hb⟩
  have S2 : Hid (Stay w x2) := S1.out.more H0.out ((below_oneB _ _).trans (hb.mono (by simp)))
  clear hb CO1
  go_wp2_with fail
  refine Calls.mono (PR.out _ _ (NsIn.below HN.out S2.out.b)) ?_
  rintro e x3 ⟨rfl, hb⟩
  have S3 : Hid (Stay w x3) := S2.out.more H0.out hb
  clear hb
  go_wp2_with fail
  refine Calls.mono (PB.out _) ?_
  rintro e y1 ⟨xv, rfl, hb, hx⟩
  have T1 : Hid (Stay w y1) := S3.out.more H0.out hb
  have X1 : Hid (NsIn y1 xv ns) := hx
  clear hb hx
  obtain ⟨xa, xc, rfl, _⟩ := nsIn_form X1.out
  have CN1 : Hid _ := nodes_any ns ns _ _ y1 X1.out (NsIn.below HN.out T1.out.b)
  rw [nsEq_refl] at CN1
  go_wp2_with fail
  refine Calls.mono (CN1.out) ?_
  rintro e y2 ⟨rfl, hb⟩
  have T2 : Hid (Stay w y2) := T1.out.more H0.out hb
  clear hb CN1
  go_wp2_with fail
  refine Calls.mono (PO.out _ _ (NsIn.below HM.out T2.out.b)) ?_
  rintro e y3 ⟨rfl, hb⟩
  have T3 : Hid (Stay w y3) := T2.out.more H0.out hb
  clear hb
  have CN2 : Hid _ := nodes_any ns os _ _ y3 (NsIn.below HN.out T3.out.b) (NsIn.below HM.out T3.out.b)
  generalize nsEq ns os = lk at *
  go_wp2_with fail
  refine Calls.mono (CN2.out) ?_
  rintro e y4 ⟨rfl, hb⟩
  have S3 : Hid (Stay w y4) := T3.out.more H0.out hb
  clear hb CN2
  go_wp2_with fail
  refine Calls.mono (PS.out _) ?_
  rintro e z1 ⟨zv, rfl, hb, hz⟩
  have Z1 : Hid (Stay w z1) := S3.out.more H0.out hb
  have V1 : Hid (NsIn z1 zv ms) := hz
  clear hb hz
  obtain ⟨za, zc, rfl, _⟩ := nsIn_form V1.out
  go_wp2
  go_ret
  exact ⟨rfl, Z1.out.b⟩
set_option maxHeartbeats 8000000 in
theorem back_Bi_2a (x y : List UInt8) (ka : C4) (ns os ms : List Nd) (v o : Value) (s S So Sx : ByteArray) (E Eo er k : Int) (w : World) (HN : Hid (NsIn w v ns)) (HM : Hid (NsIn w o os)) (S0 : Hid (Stay w w)) (H0 : Hid (0 < w.heap.size))
    (OF : Hid (∀ w, Calls Tryd.prog 9 #[.string ⟨#[97]⟩] w fun e w' => e = .returned ka.v ∧ Below w.heap.size w w'))
    (CO : Hid (∀ v w, NsIn w v [⟨5, z4⟩, ⟨4, z4⟩, ⟨1, ka⟩, ⟨2, z4⟩] → Calls Tryd.prog 30 #[v] w fun e w' => e = .returned (.tuple #[.string ⟨#[40, 97, 124, 41, 42]⟩, .nilIface]) ∧ Below w.heap.size w w'))
    (PR : Hid (∀ v w, NsIn w v ns → Calls Tryd.prog 30 #[v] w fun e w' => e = .returned (.tuple #[.string S, .nilIface]) ∧ Below w.heap.size w w')) (PB : Hid (∀ w, Calls Tryd.prog 31 #[.string S] w fun x w' => ∃ u, x = .returned (.tuple #[u, .int .i64 0, .nilIface]) ∧ Below w.heap.size w w' ∧ NsIn w' u ns)) (PO : Hid (∀ v w, NsIn w v os → Calls Tryd.prog 30 #[v] w fun e w' => e = .returned (.tuple #[.string So, .iface 25 (.int .i64 Eo)]) ∧ Below w.heap.size w w')) (PS : Hid (∀ w, Calls Tryd.prog 31 #[.string s] w fun x w' => ∃ u, x = .returned (.tuple #[u, .int .i64 k, .nilIface]) ∧ Below w.heap.size w w' ∧ NsIn w' u ms)) (PX : Hid (∀ v w, NsIn w v ms → Calls Tryd.prog 30 #[v] w fun e w' => e = .returned (.tuple #[.string Sx, .iface 25 (.int .i64 3)]) ∧ Below w.heap.size w w')) :
    Calls Tryd.prog 5 #[v, o, .string s] w fun e w' => e = .returned (.bool true) ∧ Below w.heap.size w w' := by
  obtain ⟨va, vc, rfl, hm1⟩ := nsIn_form HN.out
  obtain ⟨oa, oc, rfl, hm2⟩ := nsIn_form HM.out
  go_enter Tryd.func5, Tryd.ntmps5
  go_wp2_with fail
  refine Calls.mono (OF.out _) ?_
  rintro e x1 ⟨rfl, hb⟩
  have S1 : Hid (Stay w x1) := S0.out.more H0.out hb
  clear hb
  have CO1 : Hid _ := CO.out _ _ (ns_newB x1 [⟨5, z4⟩, ⟨4, z4⟩, ⟨1, ka⟩, ⟨2, z4⟩] (by simp [maxLen]))
  go_wp2_with fail
  refine Calls.mono (CO1.out) ?_
  rintro e x2 ⟨rfl, hb⟩
  have S2 : Hid (Stay w x2) := S1.out.more H0.out ((below_oneB _ _).trans (hb.mono (by simp)))
  clear hb CO1
  go_wp2_with fail
  refine Calls.mono (PR.out _ _ (NsIn.below HN.out S2.out.b)) ?_
  rintro e x3 ⟨rfl, hb⟩
  have S3 : Hid (Stay w x3) := S2.out.more H0.out hb
  clear hb
  go_wp2_with fail
  refine Calls.mono (PB.out _) ?_
  rintro e y1 ⟨xv, rfl, hb, hx⟩
  have T1 : Hid (Stay w y1) := S3.out.more H0.out hb
  have X1 : Hid (NsIn y1 xv ns) := hx
  clear hb hx
  obtain ⟨xa, xc, rfl, _⟩ := nsIn_form X1.out
  have CN1 : Hid _ := nodes_any ns ns _ _ y1 X1.out (NsIn.below HN.out T1.out.b)
  rw [nsEq_refl] at CN1
  go_wp2_with fail
  refine Calls.mono (CN1.out) ?_
  rintro e y2 ⟨rfl, hb⟩
  have T2 : Hid (Stay w y2) := T1.out.more H0.out hb
  clear hb CN1
  go_wp2_with fail
  refine Calls.mono (PO.out _ _ (NsIn.below HM.out T2.out.b)) ?_
  rintro e y3 ⟨rfl, hb⟩
  have T3 : Hid (Stay w y3) := T2.out.more H0.out hb
  clear hb
  have CN2 : Hid _ := nodes_any ns os _ _ y3 (NsIn.below HN.out T3.out.b) (NsIn.below HM.out T3.out.b)
  generalize nsEq ns os = lk at *
  go_wp2_with fail
  refine Calls.mono (CN2.out) ?_
  rintro e y4 ⟨rfl, hb⟩
  have S3 : Hid (Stay w y4) := T3.out.more H0.out hb
  clear hb CN2
  go_wp2_with fail
  refine Calls.mono (PS.out _) ?_
  rintro e z1 ⟨zv, rfl, hb, hz⟩
  have Z1 : Hid (Stay w z1) := S3.out.more H0.out hb
  have V1 : Hid (NsIn z1 zv ms) := hz
  clear hb hz
  obtain ⟨za, zc, rfl, _⟩ := nsIn_form V1.out
  go_wp2_with fail
  refine Calls.mono (PX.out _ _ V1.out) ?_
  rintro e z2 ⟨rfl, hb⟩
  have Z2 : Hid (Stay w z2) := Z1.out.more H0.out hb
  have V2 : Hid (NsIn z2 (.slice za ms.length zc) ms) := NsIn.below V1.out hb
  clear hb
  go_wp2_with fail
  refine Calls.mono (error_three _ Z2.out.e) ?_
  rintro e z3 ⟨rfl, hb⟩
  have Z3 : Hid (Stay w z3) := Z2.out.more H0.out hb
  clear hb
  go_wp2
  go_ret
  exact ⟨rfl, Z3.out.b⟩
set_option maxHeartbeats 8000000 in
theorem back_Bi_2b (x y : List UInt8) (ka : C4) (ns os ms : List Nd) (v o : Value) (s S So Sx : ByteArray) (E Eo er k : Int) (w : World) (HN : Hid (NsIn w v ns)) (HM : Hid (NsIn w o os)) (S0 : Hid (Stay w w)) (H0 : Hid (0 < w.heap.size))
    (OF : Hid (∀ w, Calls Tryd.prog 9 #[.string ⟨#[97]⟩] w fun e w' => e = .returned ka.v ∧ Below w.heap.size w w'))
    (CO : Hid (∀ v w, NsIn w v [⟨5, z4⟩, ⟨4, z4⟩, ⟨1, ka⟩, ⟨2, z4⟩] → Calls Tryd.prog 30 #[v] w fun e w' => e = .returned (.tuple #[.string ⟨#[40, 97, 124, 41, 42]⟩, .nilIface]) ∧ Below w.heap.size w w'))
    (PR : Hid (∀ v w, NsIn w v ns → Calls Tryd.prog 30 #[v] w fun e w' => e = .returned (.tuple #[.string S, .nilIface]) ∧ Below w.heap.size w w')) (PB : Hid (∀ w, Calls Tryd.prog 31 #[.string S] w fun x w' => ∃ u, x = .returned (.tuple #[u, .int .i64 0, .nilIface]) ∧ Below w.heap.size w w' ∧ NsIn w' u ns)) (PO : Hid (∀ v w, NsIn w v os → Calls Tryd.prog 30 #[v] w fun e w' => e = .returned (.tuple #[.string So, .iface 25 (.int .i64 Eo)]) ∧ Below w.heap.size w w')) (PS : Hid (∀ w, Calls Tryd.prog 31 #[.string s] w fun x w' => ∃ u, x = .returned (.tuple #[u, .int .i64 k, .nilIface]) ∧ Below w.heap.size w w' ∧ NsIn w' u ms)) (PX : Hid (∀ v w, NsIn w v ms → Calls Tryd.prog 30 #[v] w fun e w' => e = .returned (.tuple #[.string Sx, .nilIface]) ∧ Below w.heap.size w w')) (PY : Hid (∀ w, Calls Tryd.prog 31 #[.string Sx] w fun x w' => ∃ u, x = .returned (.tuple #[u, .int .i64 0, .nilIface]) ∧ Below w.heap.size w w' ∧ NsIn w' u ms)) :
    Calls Tryd.prog 5 #[v, o, .string s] w fun e w' => e = .returned (.bool true) ∧ Below w.heap.size w w' := by
  obtain ⟨va, vc, rfl, hm1⟩ := nsIn_form HN.out
  obtain ⟨oa, oc, rfl, hm2⟩ := nsIn_form HM.out
  go_enter Tryd.func5, Tryd.ntmps5
  go_wp2_with fail
  refine Calls.mono (OF.out _) ?_
  rintro e x1 ⟨rfl, hb⟩
  have S1 : Hid (Stay w x1) := S0.out.more H0.out hb
  clear hb
  have CO1 : Hid _ := CO.out _ _ (ns_newB x1 [⟨5, z4⟩, ⟨4, z4⟩, ⟨1, ka⟩, ⟨2, z4⟩] (by simp [maxLen]))
  go_wp2_with fail
  refine Calls.mono (CO1.out) ?_
  rintro e x2 ⟨rfl, hb⟩
  have S2 : Hid (Stay w x2) := S1.out.more H0.out ((below_oneB _ _).trans (hb.mono (by simp)))
  clear hb CO1
  go_wp2_with fail
  refine Calls.mono (PR.out _ _ (NsIn.below HN.out S2.out.b)) ?_
  rintro e x3 ⟨rfl, hb⟩
  have S3 : Hid (Stay w x3) := S2.out.more H0.out hb
  clear hb
  go_wp2_with fail
  refine Calls.mono (PB.out _) ?_
  rintro e y1 ⟨xv, rfl, hb, hx⟩
  have T1 : Hid (Stay w y1) := S3.out.more H0.out hb
  have X1 : Hid (NsIn y1 xv ns) := hx
  clear hb hx
  obtain ⟨xa, xc, rfl, _⟩ := nsIn_form X1.out
  have CN1 : Hid _ := nodes_any ns ns _ _ y1 X1.out (NsIn.below HN.out T1.out.b)
  rw [nsEq_refl] at CN1
  go_wp2_with fail
  refine Calls.mono (CN1.out) ?_
  rintro e y2 ⟨rfl, hb⟩
  have T2 : Hid (Stay w y2) := T1.out.more H0.out hb
  clear hb CN1
  go_wp2_with fail
  refine Calls.mono (PO.out _ _ (NsIn.below HM.out T2.out.b)) ?_
  rintro e y3 ⟨rfl, hb⟩
  have T3 : Hid (Stay w y3) := T2.out.more H0.out hb
  clear hb
  have CN2 : Hid _ := nodes_any ns os _ _ y3 (NsIn.below HN.out T3.out.b) (NsIn.below HM.out T3.out.b)
  generalize nsEq ns os = lk at *
  go_wp2_with fail
  refine Calls.mono (CN2.out) ?_
  rintro e y4 ⟨rfl, hb⟩
  have S3 : Hid (Stay w y4) := T3.out.more H0.out hb
  clear hb CN2
  go_wp2_with fail
  refine Calls.mono (PS.out _) ?_
  rintro e z1 ⟨zv, rfl, hb, hz⟩
  have Z1 : Hid (Stay w z1) := S3.out.more H0.out hb
  have V1 : Hid (NsIn z1 zv ms) := hz
  clear hb hz
  obtain ⟨za, zc, rfl, _⟩ := nsIn_form V1.out
  go_wp2_with fail
  refine Calls.mono (PX.out _ _ V1.out) ?_
  rintro e z2 ⟨rfl, hb⟩
  have Z2 : Hid (Stay w z2) := Z1.out.more H0.out hb
  have V2 : Hid (NsIn z2 (.slice za ms.length zc) ms) := NsIn.below V1.out hb
  clear hb
  go_wp2_with fail
  refine Calls.mono (PY.out _) ?_
  rintro e z3 ⟨yv, rfl, hb, hy⟩
  have Z3 : Hid (Stay w z3) := Z2.out.more H0.out hb
  have V3 : Hid (NsIn z3 (.slice za ms.length zc) ms) := NsIn.below V2.out hb
  have Y3 : Hid (NsIn z3 yv ms) := hy
  clear hb hy
  obtain ⟨ya, yc, rfl, _⟩ := nsIn_form Y3.out
  have CN3 : Hid _ := nodes_any ms ms _ _ z3 Y3.out V3.out
  rw [nsEq_refl] at CN3
  go_wp2_with fail
  refine Calls.mono (CN3.out) ?_
  rintro e z4' ⟨rfl, hb⟩
  have Z4 : Hid (Stay w z4') := Z3.out.more H0.out hb
  clear hb CN3
  go_wp2
  go_ret
  exact ⟨rfl, Z4.out.b⟩
set_option maxHeartbeats 8000000 in
theorem back_Bii_1 (x y : List UInt8) (ka : C4) (ns os ms : List Nd) (v o : Value) (s S So Sx : ByteArray) (E Eo er k : Int) (w : World) (HN : Hid (NsIn w v ns)) (HM : Hid (NsIn w o os)) (S0 : Hid (Stay w w)) (H0 : Hid (0 < w.heap.size))
    (OF : Hid (∀ w, Calls Tryd.prog 9 #[.string ⟨#[97]⟩] w fun e w' => e = .returned ka.v ∧ Below w.heap.size w w'))
    (CO : Hid (∀ v w, NsIn w v [⟨5, z4⟩, ⟨4, z4⟩, ⟨1, ka⟩, ⟨2, z4⟩] → Calls Tryd.prog 30 #[v] w fun e w' => e = .returned (.tuple #[.string ⟨#[40, 97, 124, 41, 42]⟩, .nilIface]) ∧ Below w.heap.size w w'))
    (PR : Hid (∀ v w, NsIn w v ns → Calls Tryd.prog 30 #[v] w fun e w' => e = .returned (.tuple #[.string ⟨x.toArray⟩, .nilIface]) ∧ Below w.heap.size w w')) (PB : Hid (∀ w, Calls Tryd.prog 31 #[.string ⟨x.toArray⟩] w fun x w' => ∃ u, x = .returned (.tuple #[u, .int .i64 0, .nilIface]) ∧ Below w.heap.size w w' ∧ NsIn w' u ns)) (PO : Hid (∀ v w, NsIn w v os → Calls Tryd.prog 30 #[v] w fun e w' => e = .returned (.tuple #[.string ⟨y.toArray⟩, .nilIface]) ∧ Below w.heap.size w w')) (b : Bool) (hcmp : (x == y) = b) (HLK : Hid (nsEq ns os = b)) (PS : Hid (∀ w, Calls Tryd.prog 31 #[.string s] w fun x w' => ∃ u, x = .returned (.tuple #[u, .int .i64 k, .iface 25 (.int .i64 er)]) ∧ Below w.heap.size w w' ∧ NsIn w' u ms)) :
    Calls Tryd.prog 5 #[v, o, .string s] w fun e w' => e = .returned (.bool true) ∧ Below w.heap.size w w' := by
  obtain ⟨va, vc, rfl, hm1⟩ := nsIn_form HN.out
  obtain ⟨oa, oc, rfl, hm2⟩ := nsIn_form HM.out
  cases b
  all_goals
    go_enter Tryd.func5, Tryd.ntmps5
    go_wp2_with fail
    refine Calls.mono (OF.out _) ?_
    rintro e x1 ⟨rfl, hb⟩
    have S1 : Hid (Stay w x1) := S0.out.more H0.out hb
    clear hb
    have CO1 : Hid _ := CO.out _ _ (ns_newB x1 [⟨5, z4⟩, ⟨4, z4⟩, ⟨1, ka⟩, ⟨2, z4⟩] (by simp [maxLen]))
    go_wp2_with fail
    refine Calls.mono (CO1.out) ?_
    rintro e x2 ⟨rfl, hb⟩
    have S2 : Hid (Stay w x2) := S1.out.more H0.out ((below_oneB _ _).trans (hb.mono (by simp)))
    clear hb CO1
    go_wp2_with fail
    refine Calls.mono (PR.out _ _ (NsIn.below HN.out S2.out.b)) ?_
    rintro e x3 ⟨rfl, hb⟩
    have S3 : Hid (Stay w x3) := S2.out.more H0.out hb
    clear hb
    go_wp2_with fail
    refine Calls.mono (PB.out _) ?_
    rintro e y1 ⟨xv, rfl, hb, hx⟩
    have T1 : Hid (Stay w y1) := S3.out.more H0.out hb
    have X1 : Hid (NsIn y1 xv ns) := hx
    clear hb hx
    obtain ⟨xa, xc, rfl, _⟩ := nsIn_form X1.out
    have CN1 : Hid _ := nodes_any ns ns _ _ y1 X1.out (NsIn.below HN.out T1.out.b)
    rw [nsEq_refl] at CN1
    go_wp2_with fail
    refine Calls.mono (CN1.out) ?_
    rintro e y2 ⟨rfl, hb⟩
    have T2 : Hid (Stay w y2) := T1.out.more H0.out hb
    clear hb CN1
    go_wp2_with fail
    refine Calls.mono (PO.out _ _ (NsIn.below HM.out T2.out.b)) ?_
    rintro e y3 ⟨rfl, hb⟩
    have T3 : Hid (Stay w y3) := T2.out.more H0.out hb
    clear hb
    have CN2 : Hid _ := nodes_any ns os _ _ y3 (NsIn.below HN.out T3.out.b) (NsIn.below HM.out T3.out.b)
    rw [HLK.out] at CN2
    go_wp2_with fail
    refine Calls.mono (CN2.out) ?_
    rintro e y4 ⟨rfl, hb⟩
    have S3 : Hid (Stay w y4) := T3.out.more H0.out hb
    clear hb CN2
    go_wp2_with fail
    refine Calls.mono (PS.out _) ?_
    rintro e z1 ⟨zv, rfl, hb, hz⟩
    have Z1 : Hid (Stay w z1) := S3.out.more H0.out hb
    have V1 : Hid (NsIn z1 zv ms) := hz
    clear hb hz
    obtain ⟨za, zc, rfl, _⟩ := nsIn_form V1.out
    go_wp2
    go_ret
    exact ⟨rfl, Z1.out.b⟩
set_option maxHeartbeats 8000000 in
theorem back_Bii_2a (x y : List UInt8) (ka : C4) (ns os ms : List Nd) (v o : Value) (s S So Sx : ByteArray) (E Eo er k : Int) (w : World) (HN : Hid (NsIn w v ns)) (HM : Hid (NsIn w o os)) (S0 : Hid (Stay w w)) (H0 : Hid (0 < w.heap.size))
    (OF : Hid (∀ w, Calls Tryd.prog 9 #[.string ⟨#[97]⟩] w fun e w' => e = .returned ka.v ∧ Below w.heap.size w w'))
    (CO : Hid (∀ v w, NsIn w v [⟨5, z4⟩, ⟨4, z4⟩, ⟨1, ka⟩, ⟨2, z4⟩] → Calls Tryd.prog 30 #[v] w fun e w' => e = .returned (.tuple #[.string ⟨#[40, 97, 124, 41, 42]⟩, .nilIface]) ∧ Below w.heap.size w w'))
    (PR : Hid (∀ v w, NsIn w v ns → Calls Tryd.prog 30 #[v] w fun e w' => e = .returned (.tuple #[.string ⟨x.toArray⟩, .nilIface]) ∧ Below w.heap.size w w')) (PB : Hid (∀ w, Calls Tryd.prog 31 #[.string ⟨x.toArray⟩] w fun x w' => ∃ u, x = .returned (.tuple #[u, .int .i64 0, .nilIface]) ∧ Below w.heap.size w w' ∧ NsIn w' u ns)) (PO : Hid (∀ v w, NsIn w v os → Calls Tryd.prog 30 #[v] w fun e w' => e = .returned (.tuple #[.string ⟨y.toArray⟩, .nilIface]) ∧ Below w.heap.size w w')) (b : Bool) (hcmp : (x == y) = b) (HLK : Hid (nsEq ns os = b)) (PS : Hid (∀ w, Calls Tryd.prog 31 #[.string s] w fun x w' => ∃ u, x = .returned (.tuple #[u, .int .i64 k, .nilIface]) ∧ Below w.heap.size w w' ∧ NsIn w' u ms)) (PX : Hid (∀ v w, NsIn w v ms → Calls Tryd.prog 30 #[v] w fun e w' => e = .returned (.tuple #[.string Sx, .iface 25 (.int .i64 3)]) ∧ Below w.heap.size w w')) :
    Calls Tryd.prog 5 #[v, o, .string s] w fun e w' => e = .returned (.bool true) ∧ Below w.heap.size w w' := by
  obtain ⟨va, vc, rfl, hm1⟩ := nsIn_form HN.out
  obtain ⟨oa, oc, rfl, hm2⟩ := nsIn_form HM.out
  cases b
  all_goals
    go_enter Tryd.func5, Tryd.ntmps5
    go_wp2_with fail
    refine Calls.mono (OF.out _) ?_
    rintro e x1 ⟨rfl, hb⟩
    have S1 : Hid (Stay w x1) := S0.out.more H0.out hb
    clear hb
    have CO1 : Hid _ := CO.out _ _ (ns_newB x1 [⟨5, z4⟩, ⟨4, z4⟩, ⟨1, ka⟩, ⟨2, z4⟩] (by simp [maxLen]))
    go_wp2_with fail
    refine Calls.mono (CO1.out) ?_
    rintro e x2 ⟨rfl, hb⟩
    have S2 : Hid (Stay w x2) := S1.out.more H0.out ((below_oneB _ _).trans (hb.mono (by simp)))
    clear hb CO1
    go_wp2_with fail
    refine Calls.mono (PR.out _ _ (NsIn.below HN.out S2.out.b)) ?_
    rintro e x3 ⟨rfl, hb⟩
    have S3 : Hid (Stay w x3) := S2.out.more H0.out hb
    clear hb
    go_wp2_with fail
    refine Calls.mono (PB.out _) ?_
    rintro e y1 ⟨xv, rfl, hb, hx⟩
    have T1 : Hid (Stay w y1) := S3.out.more H0.out hb
    have X1 : Hid (NsIn y1 xv ns) := hx
    clear hb hx
    obtain ⟨xa, xc, rfl, _⟩ := nsIn_form X1.out
    have CN1 : Hid _ := nodes_any ns ns _ _ y1 X1.out (NsIn.below HN.out T1.out.b)
    rw [nsEq_refl] at CN1
    go_wp2_with fail
    refine Calls.mono (CN1.out) ?_
    rintro e y2 ⟨rfl, hb⟩
    have T2 : Hid (Stay w y2) := T1.out.more H0.out hb
    clear hb CN1
    go_wp2_with fail
    refine Calls.mono (PO.out _ _ (NsIn.below HM.out T2.out.b)) ?_
    rintro e y3 ⟨rfl, hb⟩
    have T3 : Hid (Stay w y3) := T2.out.more H0.out hb
    clear hb
    have CN2 : Hid _ := nodes_any ns os _ _ y3 (NsIn.below HN.out T3.out.b) (NsIn.below HM.out T3.out.b)
    rw [HLK.out] at CN2
    go_wp2_with fail
    refine Calls.mono (CN2.out) ?_
    rintro e y4 ⟨rfl, hb⟩
    have S3 : Hid (Stay w y4) := T3.out.more H0.out hb
    clear hb CN2
    go_wp2_with fail
    refine Calls.mono (PS.out _) ?_
    rintro e z1 ⟨zv, rfl, hb, hz⟩
    have Z1 : Hid (Stay w z1) := S3.out.more H0.out hb
    have V1 : Hid (NsIn z1 zv ms) := hz
    clear hb hz
    obtain ⟨za, zc, rfl, _⟩ := nsIn_form V1.out
    go_wp2_with fail
    refine Calls.mono (PX.out _ _ V1.out) ?_
    rintro e z2 ⟨rfl, hb⟩
    have Z2 : Hid (Stay w z2) := Z1.out.more H0.out hb
    have V2 : Hid (NsIn z2 (.slice za ms.length zc) ms) := NsIn.below V1.out hb
    clear hb
    go_wp2_with fail
    refine Calls.mono (error_three _ Z2.out.e) ?_
    rintro e z3 ⟨rfl, hb⟩
    have Z3 : Hid (Stay w z3) := Z2.out.more H0.out hb
    clear hb
    go_wp2
    go_ret
    exact ⟨rfl, Z3.out.b⟩
set_option maxHeartbeats 8000000 in
theorem back_Bii_2b (x y : List UInt8) (ka : C4) (ns os ms : List Nd) (v o : Value) (s S So Sx : ByteArray) (E Eo er k : Int) (w : World) (HN : Hid (NsIn w v ns)) (HM : Hid (NsIn w o os)) (S0 : Hid (Stay w w)) (H0 : Hid (0 < w.heap.size))
    (OF : Hid (∀ w, Calls Tryd.prog 9 #[.string ⟨#[97]⟩] w fun e w' => e = .returned ka.v ∧ Below w.heap.size w w'))
    (CO : Hid (∀ v w, NsIn w v [⟨5, z4⟩, ⟨4, z4⟩, ⟨1, ka⟩, ⟨2, z4⟩] → Calls Tryd.prog 30 #[v] w fun e w' => e = .returned (.tuple #[.string ⟨#[40, 97, 124, 41, 42]⟩, .nilIface]) ∧ Below w.heap.size w w'))
    (PR : Hid (∀ v w, NsIn w v ns → Calls Tryd.prog 30 #[v] w fun e w' => e = .returned (.tuple #[.string ⟨x.toArray⟩, .nilIface]) ∧ Below w.heap.size w w')) (PB : Hid (∀ w, Calls Tryd.prog 31 #[.string ⟨x.toArray⟩] w fun x w' => ∃ u, x = .returned (.tuple #[u, .int .i64 0, .nilIface]) ∧ Below w.heap.size w w' ∧ NsIn w' u ns)) (PO : Hid (∀ v w, NsIn w v os → Calls Tryd.prog 30 #[v] w fun e w' => e = .returned (.tuple #[.string ⟨y.toArray⟩, .nilIface]) ∧ Below w.heap.size w w')) (b : Bool) (hcmp : (x == y) = b) (HLK : Hid (nsEq ns os = b)) (PS : Hid (∀ w, Calls Tryd.prog 31 #[.string s] w fun x w' => ∃ u, x = .returned (.tuple #[u, .int .i64 k, .nilIface]) ∧ Below w.heap.size w w' ∧ NsIn w' u ms)) (PX : Hid (∀ v w, NsIn w v ms → Calls Tryd.prog 30 #[v] w fun e w' => e = .returned (.tuple #[.string Sx, .nilIface]) ∧ Below w.heap.size w w')) (PY : Hid (∀ w, Calls Tryd.prog 31 #[.string Sx] w fun x w' => ∃ u, x = .returned (.tuple #[u, .int .i64 0, .nilIface]) ∧ Below w.heap.size w w' ∧ NsIn w' u ms)) :
    Calls Tryd.prog 5 #[v, o, .string s] w fun e w' => e = .returned (.bool true) ∧ Below w.heap.size w w' := by
  obtain ⟨va, vc, rfl, hm1⟩ := nsIn_form HN.out
  obtain ⟨oa, oc, rfl, hm2⟩ := nsIn_form HM.out
  cases b
  all_goals
    go_enter Tryd.func5, Tryd.ntmps5
    go_wp2_with fail
    refine Calls.mono (OF.out _) ?_
    rintro e x1 ⟨rfl, hb⟩
    have S1 : Hid (Stay w x1) := S0.out.more H0.out hb
    clear hb
    have CO1 : Hid _ := CO.out _ _ (ns_newB x1 [⟨5, z4⟩, ⟨4, z4⟩, ⟨1, ka⟩, ⟨2, z4⟩] (by simp [maxLen]))
    go_wp2_with fail
    refine Calls.mono (CO1.out) ?_
    rintro e x2 ⟨rfl, hb⟩
    have S2 : Hid (Stay w x2) := S1.out.more H0.out ((below_oneB _ _).trans (hb.mono (by simp)))
    clear hb CO1
    go_wp2_with fail
    refine Calls.mono (PR.out _ _ (NsIn.below HN.out S2.out.b)) ?_
    rintro e x3 ⟨rfl, hb⟩
    have S3 : Hid (Stay w x3) := S2.out.more H0.out hb
    clear hb
    go_wp2_with fail
    refine Calls.mono (PB.out _) ?_
    rintro e y1 ⟨xv, rfl, hb, hx⟩
    have T1 : Hid (Stay w y1) := S3.out.more H0.out hb
    have X1 : Hid (NsIn y1 xv ns) := hx
    clear hb hx
    obtain ⟨xa, xc, rfl, _⟩ := nsIn_form X1.out
    have CN1 : Hid _ := nodes_any ns ns _ _ y1 X1.out (NsIn.below HN.out T1.out.b)
    rw [nsEq_refl] at CN1
    go_wp2_with fail
    refine Calls.mono (CN1.out) ?_
    rintro e y2 ⟨rfl, hb⟩
    have T2 : Hid (Stay w y2) := T1.out.more H0.out hb
    clear hb CN1
    go_wp2_with fail
    refine Calls.mono (PO.out _ _ (NsIn.below HM.out T2.out.b)) ?_
    rintro e y3 ⟨rfl, hb⟩
    have T3 : Hid (Stay w y3) := T2.out.more H0.out hb
    clear hb
    have CN2 : Hid _ := nodes_any ns os _ _ y3 (NsIn.below HN.out T3.out.b) (NsIn.below HM.out T3.out.b)
    rw [HLK.out] at CN2
    go_wp2_with fail
    refine Calls.mono (CN2.out) ?_
    rintro e y4 ⟨rfl, hb⟩
    have S3 : Hid (Stay w y4) := T3.out.more H0.out hb
    clear hb CN2
    go_wp2_with fail
    refine Calls.mono (PS.out _) ?_
    rintro e z1 ⟨zv, rfl, hb, hz⟩
    have Z1 : Hid (Stay w z1) := S3.out.more H0.out hb
    have V1 : Hid (NsIn z1 zv ms) := hz
    clear hb hz
    obtain ⟨za, zc, rfl, _⟩ := nsIn_form V1.out
    go_wp2_with fail
    refine Calls.mono (PX.out _ _ V1.out) ?_
    rintro e z2 ⟨rfl, hb⟩
    have Z2 : Hid (Stay w z2) := Z1.out.more H0.out hb
    have V2 : Hid (NsIn z2 (.slice za ms.length zc) ms) := NsIn.below V1.out hb
    clear hb
    go_wp2_with fail
    refine Calls.mono (PY.out _) ?_
    rintro e z3 ⟨yv, rfl, hb, hy⟩
    have Z3 : Hid (Stay w z3) := Z2.out.more H0.out hb
    have V3 : Hid (NsIn z3 (.slice za ms.length zc) ms) := NsIn.below V2.out hb
    have Y3 : Hid (NsIn z3 yv ms) := hy
    clear hb hy
    obtain ⟨ya, yc, rfl, _⟩ := nsIn_form Y3.out
    have CN3 : Hid _ := nodes_any ms ms _ _ z3 Y3.out V3.out
    rw [nsEq_refl] at CN3
    go_wp2_with fail
    refine Calls.mono (CN3.out) ?_
    rintro e z4' ⟨rfl, hb⟩
    have Z4 : Hid (Stay w z4') := Z3.out.more H0.out hb
    clear hb CN3
    go_wp2
    go_ret
    exact ⟨rfl, Z4.out.b⟩
theorem txt_cmp (t u : Rx) (ht : t.Good) (hu : u.Good) : (t.txt == u.txt) = nsEq t.flat u.flat := by
  rw [Bool.eq_iff_iff, beq_iff_eq, nsEq_iff]
  constructor
  · intro h; rw [txt_inj t u ht hu h]
  · intro h; rw [tree_inj t u ht.isOk hu.isOk h]
theorem synBack_any (P : SynP) (Q : SynR) (ns os : List Nd) (v o : Value) (s : ByteArray) (hs : s.size ≤ maxLen) (w : World) (hN : NsIn w v ns) (hM : NsIn w o os) (hw : ∀ n ∈ ns, n.wf) (hwo : ∀ n ∈ os, n.wf) (hE : w.cell? ⟨0, 0, none⟩ = some (rty 28)) (h0 : 0 < w.heap.size) :
    Calls Tryd.prog 5 #[v, o, .string s] w fun e w' => e = .returned (.bool true) ∧ Below w.heap.size w w' := by
  have S0 : Stay w w := ⟨Below.refl _ _, hE⟩
  obtain ⟨ka, hka⟩ : ∃ ka, C4.ofL [97] = ka := ⟨_, rfl⟩
  have OF : ∀ w, Calls Tryd.prog 9 #[.string ⟨#[97]⟩] w fun e w' => e = .returned ka.v ∧ Below w.heap.size w w' := fun w => by
    rw [← hka]
    exact of_any ⟨#[97]⟩ w (by decide)
  have CO : ∀ v w, NsIn w v [⟨5, z4⟩, ⟨4, z4⟩, ⟨1, ka⟩, ⟨2, z4⟩] → Calls Tryd.prog 30 #[v] w fun e w' => e = .returned (.tuple #[.string ⟨#[40, 97, 124, 41, 42]⟩, .nilIface]) ∧ Below w.heap.size w w' := fun v w h => by
    rw [← hka] at h
    have := P.ok ownB v w ownB_ok h (fun n hn => good_wf (ownB_good.all n hn)) ownB_fault
    unfold prtL prtE at this
    rw [ownB_txt] at this
    exact this
  obtain ⟨S, E, hS, PR⟩ := print_any P ns hw
  obtain ⟨So, Eo, hSo, PO⟩ := print_any P os hwo
  obtain ⟨ms, k, er, hps⟩ := psR_total s
  have PS := fun w => Q.parse s w ms k er hs hps
  have hsec : (¬ er = 0) ∨ (er = 0 ∧ ∃ t : Rx, t.Good ∧ t.flat.length ≤ 60 ∧ ms = t.flat) := by
    cases hps with
    | full _ => exact Or.inl (by decide)
    | bad _ _ _ => exact Or.inl (by decide)
    | many _ _ _ _ => exact Or.inl (by decide)
    | ok t _ h1 h2 => exact Or.inr ⟨rfl, t, whole_good _ t h1, by omega, rfl⟩
  clear hps
  have F1 : ¬ E = 0 → ∀ v w, NsIn w v ns → Calls Tryd.prog 30 #[v] w fun e w' => e = .returned (.tuple #[.string S, .iface 25 (.int .i64 E)]) ∧ Below w.heap.size w w' := fun h v w hn => by
    have := PR v w hn
    rw [errV, if_neg h] at this
    exact this
  have F2 : ¬ Eo = 0 → ∀ v w, NsIn w v os → Calls Tryd.prog 30 #[v] w fun e w' => e = .returned (.tuple #[.string So, .iface 25 (.int .i64 Eo)]) ∧ Below w.heap.size w w' := fun h v w hn => by
    have := PO v w hn
    rw [errV, if_neg h] at this
    exact this
  have FB : ∀ t : Rx, t.Good → t.flat.length ≤ 60 → ¬ 200 < t.txt.length → ∀ w, Calls Tryd.prog 31 #[.string ⟨t.txt.toArray⟩] w fun x w' => ∃ u, x = .returned (.tuple #[u, .int .i64 0, .nilIface]) ∧ Below w.heap.size w w' ∧ NsIn w' u t.flat := fun t hg hl h2 w => by
    exact Q.parse ⟨t.txt.toArray⟩ w t.flat 0 0 (by rw [size_str]; unfold maxLen; omega) (psR_print t hg hl h2)
  rcases hsec with her | ⟨rfl, t3, hg3, hl3, rfl⟩
  · have PS1 : ∀ w, Calls Tryd.prog 31 #[.string s] w fun x w' => ∃ u, x = .returned (.tuple #[u, .int .i64 k, .iface 25 (.int .i64 er)]) ∧ Below w.heap.size w w' ∧ NsIn w' u ms := fun w => by
      have := PS w
      rw [errV, if_neg her] at this
      exact this
    cases hS with
    | bad _ _ hE1 => exact back_A_1 [] [] ka ns os ms v o s S ⟨#[]⟩ ⟨#[]⟩ E 0 er k w hN hM S0 h0 OF CO (F1 hE1) PS1
    | ok t1 hg1 hns hl1 h21 =>
      subst hns
      cases hSo with
      | bad _ _ hE2 => exact back_Bi_1 [] [] ka t1.flat os ms v o s _ So ⟨#[]⟩ 0 Eo er k w hN hM S0 h0 OF CO PR (FB t1 hg1 hl1 h21) (F2 hE2) PS1
      | ok t2 hg2 hos hl2 h22 =>
        subst hos
        exact back_Bii_1 t1.txt t2.txt ka t1.flat t2.flat ms v o s ⟨#[]⟩ ⟨#[]⟩ ⟨#[]⟩ 0 0 er k w hN hM S0 h0 OF CO PR (FB t1 hg1 hl1 h21) PO _ (txt_cmp t1 t2 hg1 hg2) rfl PS1
  · have hwx : ∀ n ∈ t3.flat, n.wf := fun n hn => good_wf (hg3.all n hn)
    have PX := fun v w (h : NsIn w v t3.flat) => P.ok t3 v w hg3.isOk h hwx (good_fault t3 hg3 hl3)
    by_cases h23 : 200 < t3.txt.length
    · have PX1 : ∀ v w, NsIn w v t3.flat → Calls Tryd.prog 30 #[v] w fun e w' => e = .returned (.tuple #[.string ⟨[].toArray⟩, .iface 25 (.int .i64 3)]) ∧ Below w.heap.size w w' := fun v w h => by
        have := PX v w h
        unfold prtL prtE at this
        rw [if_pos h23, if_pos h23] at this
        exact this
      cases hS with
      | bad _ _ hE1 => exact back_A_2a [] [] ka ns os t3.flat v o s S ⟨#[]⟩ _ E 0 0 k w hN hM S0 h0 OF CO (F1 hE1) PS PX1
      | ok t1 hg1 hns hl1 h21 =>
        subst hns
        cases hSo with
        | bad _ _ hE2 => exact back_Bi_2a [] [] ka t1.flat os t3.flat v o s _ So _ 0 Eo 0 k w hN hM S0 h0 OF CO PR (FB t1 hg1 hl1 h21) (F2 hE2) PS PX1
        | ok t2 hg2 hos hl2 h22 =>
          subst hos
          exact back_Bii_2a t1.txt t2.txt ka t1.flat t2.flat t3.flat v o s ⟨#[]⟩ ⟨#[]⟩ _ 0 0 0 k w hN hM S0 h0 OF CO PR (FB t1 hg1 hl1 h21) PO _ (txt_cmp t1 t2 hg1 hg2) rfl PS PX1
    · have PX1 : ∀ v w, NsIn w v t3.flat → Calls Tryd.prog 30 #[v] w fun e w' => e = .returned (.tuple #[.string ⟨t3.txt.toArray⟩, .nilIface]) ∧ Below w.heap.size w w' := fun v w h => by
        have := PX v w h
        unfold prtL prtE at this
        rw [if_neg h23, if_neg h23] at this
        exact this
      cases hS with
      | bad _ _ hE1 => exact back_A_2b [] [] ka ns os t3.flat v o s S ⟨#[]⟩ _ E 0 0 k w hN hM S0 h0 OF CO (F1 hE1) PS PX1 (FB t3 hg3 hl3 h23)
      | ok t1 hg1 hns hl1 h21 =>
        subst hns
        cases hSo with
        | bad _ _ hE2 => exact back_Bi_2b [] [] ka t1.flat os t3.flat v o s _ So _ 0 Eo 0 k w hN hM S0 h0 OF CO PR (FB t1 hg1 hl1 h21) (F2 hE2) PS PX1 (FB t3 hg3 hl3 h23)
        | ok t2 hg2 hos hl2 h22 =>
          subst hos
          exact back_Bii_2b t1.txt t2.txt ka t1.flat t2.flat t3.flat v o s ⟨#[]⟩ ⟨#[]⟩ _ 0 0 0 k w hN hM S0 h0 OF CO PR (FB t1 hg1 hl1 h21) PO _ (txt_cmp t1 t2 hg1 hg2) rfl PS PX1 (FB t3 hg3 hl3 h23)
end Go.Proofs.YtmdfdlljeggbbaaDoor
