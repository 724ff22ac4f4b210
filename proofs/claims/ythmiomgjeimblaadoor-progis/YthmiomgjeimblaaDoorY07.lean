/- The law ProgIs, from what package prog is asked. (Made by wip/tools/genpgi.py.) The landed prog: what is a step, what a step's Op has. What each call of package class does, function by function, over the loaded program: first part: bits, join, Both, Either, Not, Has, with, Of, Many. What each call of package class does: second part: Not, Many, Of. -/
import Derived.Test.YthmiomgjeimblaaDoorY03
import Derived.Test.YthmiomgjeimblaaDoorY04
import Derived.Test.YthmiomgjeimblaaDoorY05
import Derived.Test.YthmiomgjeimblaaDoorY06
import Derived.Test.YthmiomgjeimblaaDoorY02
import Derived.Deep.RegionHeld3
import Derived.BigQuiet
import Derived.Lib.QuietBelow
import Derived.Test.YthmiomgjeimblaaDoorY01
namespace Go.Proofs.YthmiomgjeimblaaDoor
set_option linter.unusedSimpArgs false
set_option linter.unusedVariables false
set_option maxRecDepth 100000
open Go.RowKit
set_option maxHeartbeats 16000000 in
theorem progIs_bad_bad (P : ProgC) (ss : List St) (ns : List Nd) (v u : Value) (w : World) (hT : Pow w) (hS : SsIn w v ss) (hN : NsIn w u ns) (wS : ∀ s ∈ ss, s.wf) (wN : ∀ n ∈ ns, n.wf) (hE : w.cell? ⟨0, 0, none⟩ = some (rty 28)) (h0 : 0 < w.heap.size) (he : ¬ stepsF ss = 0) (hf : ¬ faultL ns = 0) :
    Calls Tryd.prog 3 #[v, u] w fun e w' => e = .returned (.bool true) ∧ Below w.heap.size w w' := by
  have HOS : SsOk ss := fun s hs => C4.wf_ok (wS s hs).2.1
  have HON : NdOk ns := fun n hn => C4.wf_ok (wN n hn).2
  have HSF : Hid (∀ w', Below w.heap.size w w' → _) := fun w' hb => stepsFault_any ss HOS v w' (hS.below hb)
  have HCK : Hid (∀ w', Below w.heap.size w w' → _) := fun w' hb => P.check ss v w' (hS.below hb) wS
  have HTX : Hid (∀ w', Below w.heap.size w w' → _) := fun w' hb => P.textBad ss v w' (hS.below hb) wS he
  clear hT
  have HFA : Hid (∀ w', Below w.heap.size w w' → _) := fun w' hb => fault_any ns HON u w' (hN.below hb)
  have HOF : Hid (∀ w', Below w.heap.size w w' → _) := fun w' hb => P.ofBad ns u w' (hN.below hb) wN hf
  have HE1 : Hid (∀ w', Below w.heap.size w w' → _) := fun w' hb => error_any (stepsF ss) (stepsF ss) w' ((hb.cell (p := ⟨0, 0, none⟩) h0).trans hE)
  have HE2 : Hid (∀ w', Below w.heap.size w w' → _) := fun w' hb => error_any (faultL ns) (faultL ns) w' ((hb.cell (p := ⟨0, 0, none⟩) h0).trans hE)
  rw [beq_self_eq_true] at HE1 HE2
  have B := hid (Below.refl w.heap.size w)
  rw [show errV (stepsF ss) = .iface 24 (.int .i64 (stepsF ss)) by unfold errV; rw [if_neg he]] at HCK HTX HE1
  have ez : (stepsF ss == 0) = false := by rw [beq_eq_false_iff_ne]; exact he
  rw [show errV (faultL ns) = .iface 24 (.int .i64 (faultL ns)) by unfold errV; rw [if_neg hf]] at HOF HE2
  have fz : (faultL ns == 0) = false := by rw [beq_eq_false_iff_ne]; exact hf
  obtain ⟨ua, uc, rfl, um⟩ := nsIn_form hN
  obtain ⟨va, vc, rfl, vm⟩ := ssIn_form hS
  clear hN hS P
  go_enter Tryd.func3, Tryd.ntmps3
  go_wp2_with fail
  refine Calls.mono (HSF.out _ B.out) ?_
  rintro e w1 ⟨rfl, hb⟩
  replace B := hid (B.out.trans (hb.mono B.out.size))
  clear hb
  go_wp2_with fail
  refine Calls.mono (HCK.out _ B.out) ?_
  rintro e w2 ⟨rfl, hb⟩
  replace B := hid (B.out.trans (hb.mono B.out.size))
  clear hb
  go_wp2_with fail
  refine Calls.mono (HE1.out _ B.out) ?_
  rintro e w3 ⟨rfl, hb⟩
  replace B := hid (B.out.trans (hb.mono B.out.size))
  clear hb
  go_wp2_with fail
  refine Calls.mono (HTX.out _ B.out) ?_
  rintro e w4 ⟨rfl, hb⟩
  replace B := hid (B.out.trans (hb.mono B.out.size))
  clear hb
  go_wp2_with fail
  refine Calls.mono (HE1.out _ B.out) ?_
  rintro e w5 ⟨rfl, hb⟩
  replace B := hid (B.out.trans (hb.mono B.out.size))
  clear hb
  go_wp2_with fail
  refine Calls.mono (HFA.out _ B.out) ?_
  rintro e w6 ⟨rfl, hb⟩
  replace B := hid (B.out.trans (hb.mono B.out.size))
  clear hb
  go_wp2_with fail
  refine Calls.mono (HOF.out _ B.out) ?_
  rintro e w7 ⟨qa, qc, rfl, hb⟩
  replace B := hid (B.out.trans (hb.mono B.out.size))
  clear hb
  go_wp2_with fail
  refine Calls.mono (HE2.out _ B.out) ?_
  rintro e w8 ⟨rfl, hb⟩
  replace B := hid (B.out.trans (hb.mono B.out.size))
  clear hb
  go_wp2
  go_ret
  exact ⟨rfl, B.out⟩
set_option maxHeartbeats 16000000 in
theorem progIs_bad_ok (P : ProgC) (ss : List St) (ns : List Nd) (v u : Value) (w : World) (hT : Pow w) (hS : SsIn w v ss) (hN : NsIn w u ns) (wS : ∀ s ∈ ss, s.wf) (wN : ∀ n ∈ ns, n.wf) (hE : w.cell? ⟨0, 0, none⟩ = some (rty 28)) (h0 : 0 < w.heap.size) (he : ¬ stepsF ss = 0) (hf : faultL ns = 0) :
    Calls Tryd.prog 3 #[v, u] w fun e w' => e = .returned (.bool true) ∧ Below w.heap.size w w' := by
  have HOS : SsOk ss := fun s hs => C4.wf_ok (wS s hs).2.1
  have HON : NdOk ns := fun n hn => C4.wf_ok (wN n hn).2
  have HSF : Hid (∀ w', Below w.heap.size w w' → _) := fun w' hb => stepsFault_any ss HOS v w' (hS.below hb)
  have HCK : Hid (∀ w', Below w.heap.size w w' → _) := fun w' hb => P.check ss v w' (hS.below hb) wS
  have HTX : Hid (∀ w', Below w.heap.size w w' → _) := fun w' hb => P.textBad ss v w' (hS.below hb) wS he
  clear hT
  have HFA : Hid (∀ w', Below w.heap.size w w' → _) := fun w' hb => fault_any ns HON u w' (hN.below hb)
  have HOF : Hid (∀ w', Below w.heap.size w w' → _) := fun w' hb => P.of ns u w' (hN.below hb) wN hf
  have HE1 : Hid (∀ w', Below w.heap.size w w' → _) := fun w' hb => error_any (stepsF ss) (stepsF ss) w' ((hb.cell (p := ⟨0, 0, none⟩) h0).trans hE)
  have HE2 : Hid (∀ w', Below w.heap.size w w' → _) := fun w' hb => error_any (faultL ns) (faultL ns) w' ((hb.cell (p := ⟨0, 0, none⟩) h0).trans hE)
  rw [beq_self_eq_true] at HE1 HE2
  have B := hid (Below.refl w.heap.size w)
  rw [show errV (stepsF ss) = .iface 24 (.int .i64 (stepsF ss)) by unfold errV; rw [if_neg he]] at HCK HTX HE1
  have ez : (stepsF ss == 0) = false := by rw [beq_eq_false_iff_ne]; exact he
  rw [hf, show errV 0 = .nilIface from rfl] at HE2
  rw [hf] at HFA
  obtain ⟨ua, uc, rfl, um⟩ := nsIn_form hN
  obtain ⟨va, vc, rfl, vm⟩ := ssIn_form hS
  clear hN hS P
  go_enter Tryd.func3, Tryd.ntmps3
  go_wp2_with fail
  refine Calls.mono (HSF.out _ B.out) ?_
  rintro e w1 ⟨rfl, hb⟩
  replace B := hid (B.out.trans (hb.mono B.out.size))
  clear hb
  go_wp2_with fail
  refine Calls.mono (HCK.out _ B.out) ?_
  rintro e w2 ⟨rfl, hb⟩
  replace B := hid (B.out.trans (hb.mono B.out.size))
  clear hb
  go_wp2_with fail
  refine Calls.mono (HE1.out _ B.out) ?_
  rintro e w3 ⟨rfl, hb⟩
  replace B := hid (B.out.trans (hb.mono B.out.size))
  clear hb
  go_wp2_with fail
  refine Calls.mono (HTX.out _ B.out) ?_
  rintro e w4 ⟨rfl, hb⟩
  replace B := hid (B.out.trans (hb.mono B.out.size))
  clear hb
  go_wp2_with fail
  refine Calls.mono (HE1.out _ B.out) ?_
  rintro e w5 ⟨rfl, hb⟩
  replace B := hid (B.out.trans (hb.mono B.out.size))
  clear hb
  go_wp2_with fail
  refine Calls.mono (HFA.out _ B.out) ?_
  rintro e w6 ⟨rfl, hb⟩
  replace B := hid (B.out.trans (hb.mono B.out.size))
  clear hb
  go_wp2_with fail
  refine Calls.mono (HOF.out _ B.out) ?_
  rintro e w7 ⟨qa, ql, qc, rfl, hb⟩
  replace B := hid (B.out.trans (hb.mono B.out.size))
  clear hb
  go_wp2_with fail
  refine Calls.mono (HE2.out _ B.out) ?_
  rintro e w8 ⟨rfl, hb⟩
  replace B := hid (B.out.trans (hb.mono B.out.size))
  clear hb
  go_wp2
  go_ret
  exact ⟨rfl, B.out⟩
set_option maxHeartbeats 16000000 in
theorem progIs_ok_bad (P : ProgC) (ss : List St) (ns : List Nd) (v u : Value) (w : World) (hT : Pow w) (hS : SsIn w v ss) (hN : NsIn w u ns) (wS : ∀ s ∈ ss, s.wf) (wN : ∀ n ∈ ns, n.wf) (hE : w.cell? ⟨0, 0, none⟩ = some (rty 28)) (h0 : 0 < w.heap.size) (he : stepsF ss = 0) (hf : ¬ faultL ns = 0) :
    Calls Tryd.prog 3 #[v, u] w fun e w' => e = .returned (.bool true) ∧ Below w.heap.size w w' := by
  have HOS : SsOk ss := fun s hs => C4.wf_ok (wS s hs).2.1
  have HON : NdOk ns := fun n hn => C4.wf_ok (wN n hn).2
  have HSF : Hid (∀ w', Below w.heap.size w w' → _) := fun w' hb => stepsFault_any ss HOS v w' (hS.below hb)
  have HCK : Hid (∀ w', Below w.heap.size w w' → _) := fun w' hb => P.check ss v w' (hS.below hb) wS
  have HTX : Hid (∀ w', Below w.heap.size w w' → _) := fun w' hb => P.text ss v w' (hT.below hb) (hS.below hb) wS he
  clear hT
  have HFA : Hid (∀ w', Below w.heap.size w w' → _) := fun w' hb => fault_any ns HON u w' (hN.below hb)
  have HOF : Hid (∀ w', Below w.heap.size w w' → _) := fun w' hb => P.ofBad ns u w' (hN.below hb) wN hf
  have HE1 : Hid (∀ w', Below w.heap.size w w' → _) := fun w' hb => error_any (stepsF ss) (stepsF ss) w' ((hb.cell (p := ⟨0, 0, none⟩) h0).trans hE)
  have HE2 : Hid (∀ w', Below w.heap.size w w' → _) := fun w' hb => error_any (faultL ns) (faultL ns) w' ((hb.cell (p := ⟨0, 0, none⟩) h0).trans hE)
  rw [beq_self_eq_true] at HE1 HE2
  have B := hid (Below.refl w.heap.size w)
  rw [he, show errV 0 = .nilIface from rfl] at HCK HE1
  rw [he] at HSF
  rw [show errV (faultL ns) = .iface 24 (.int .i64 (faultL ns)) by unfold errV; rw [if_neg hf]] at HOF HE2
  have fz : (faultL ns == 0) = false := by rw [beq_eq_false_iff_ne]; exact hf
  obtain ⟨l200, lpos, hall⟩ := stepsF_zero he
  obtain ⟨ua, uc, rfl, um⟩ := nsIn_form hN
  obtain ⟨va, vc, rfl, vm, hv | ⟨b, off, rfl, hlt, hSn⟩⟩ := hS
  · rw [hv] at lpos; simp at lpos
  clear hN P
  go_enter Tryd.func3, Tryd.ntmps3
  go_wp2_with fail
  refine Calls.mono (HSF.out _ B.out) ?_
  rintro e w1 ⟨rfl, hb⟩
  replace B := hid (B.out.trans (hb.mono B.out.size))
  clear hb
  go_wp2_with fail
  refine Calls.mono (HCK.out _ B.out) ?_
  rintro e w2 ⟨rfl, hb⟩
  replace B := hid (B.out.trans (hb.mono B.out.size))
  clear hb
  go_wp2_with fail
  refine Calls.mono (HE1.out _ B.out) ?_
  rintro e w3 ⟨rfl, hb⟩
  replace B := hid (B.out.trans (hb.mono B.out.size))
  clear hb
  go_wp2_with fail
  go_loopw [7, 8] (fun s v wr => ∃ i : Nat, i ≤ ss.length ∧ v = .int .i64 (i : Int) ∧ s = .string ⟨(progT (ss.take i)).toArray⟩ ∧ (progT (ss.take i)).length ≤ i * 3000 ∧ Below w.heap.size w wr) (fun _ v _ => ss.length - (intOf v).toNat)
  case atStart => exact ⟨0, by omega, rfl, rfl, by simp [progT], B.out⟩
  case round =>
    obtain ⟨i, hi, rfl, rfl, hpl, hB⟩ := hrel
    replace B := hid hB
    by_cases hil : i < ss.length
    · obtain ⟨n, hn⟩ : ∃ n, ss[i]? = some n := ⟨ss[i], List.getElem?_eq_getElem hil⟩
      have hmem := List.mem_of_getElem? hn
      obtain ⟨nr, nsh⟩ := hall n hmem
      have HPT := hid (progT_take ss i n hn)
      obtain ⟨c0, c1, c2, c3, c4, c5, c6⟩ := hSn.below hB hlt i n hn
      have hno : n.c.ok := HOS n hmem
      have nrr := nr
      have s2 : ¬ (n.op ≠ 2 ∧ n.y ≠ 0) := fun h => nsh (Or.inr (Or.inl h))
      have s3 : ¬ (n.op = 5 ∧ n.x ≠ 0) := fun h => nsh (Or.inr (Or.inr h))
      obtain ⟨xn, hxn, hx2⟩ : ∃ xn : Nat, n.x = (xn : Int) ∧ xn ≤ 200 := ⟨n.x.toNat, by omega, by omega⟩
      obtain ⟨yn, hyn, hy2⟩ : ∃ yn : Nat, n.y = (yn : Int) ∧ yn ≤ 200 := ⟨n.y.toNat, by omega, by omega⟩
      have h15 : n.op = 1 ∨ n.op = 2 ∨ n.op = 3 ∨ n.op = 4 ∨ n.op = 5 := by omega
      have hdx := decT_200 xn (by omega)
      have hdy := decT_200 yn (by omega)
      rw [Int.toNat_natCast] at hdx hdy
      have htl := textL_len n.c
      have hcs := cat_str
      have hss := size_str
      have HI := hid hil
      have hpl2 : (progT (ss.take i)).length ≤ 600000 := by omega
      have i0 : (0 : Int) ≤ (i : Int) := by omega
      have i1 : (i : Int) < (ss.length : Int) := by omega
      rw [hxn] at c5
      rw [hyn] at c6
      have HX := hid hxn
      have HY := hid hyn
      have HPL := hid hpl
      clear hn hmem nr nrr nsh s2 s3 hxn hyn hB hpl
      rcases h15 with hop | hop | hop | hop | hop
      · have HLN : Hid (lineL n = [116, 97, 107, 101, 32] ++ textL n.c ++ [32] ++ decT xn ++ [10]) := by
          show _ = _
          simp [lineL, hop, HX.out, HY.out]
        rw [hop] at c0
        clear hop
        go_wp2_with fail
        refine Calls.mono (dec_any xn (by omega) _) ?_
        rintro e w' ⟨rfl, rfl⟩
        go_wp2_with fail
        refine Calls.mono (dec_any yn (by omega) _) ?_
        rintro e w' ⟨rfl, rfl⟩
        go_wp2_with fail
        refine Calls.mono (classText_any n.c hno _) ?_
        rintro e w9 ⟨rfl, hb⟩
        replace B := hid (B.out.trans (hb.mono B.out.size))
        clear hb
        go_wp2
        refine ⟨⟨i + 1, HI.out, by go_num, by first | (rw [HPT.out, HLN.out]; done) | (rw [HPT.out, HLN.out]; simp [List.append_assoc]), ?_, B.out⟩, by simp [intOf]; have := HI.out; omega⟩
        rw [HPT.out, HLN.out]
        have := HPL.out
        simp
        omega
      · have HLN : Hid (lineL n = [102, 111, 114, 107, 32] ++ decT xn ++ [32] ++ decT yn ++ [10]) := by
          show _ = _
          simp [lineL, hop, HX.out, HY.out]
        rw [hop] at c0
        clear hop
        go_wp2_with fail
        refine Calls.mono (dec_any xn (by omega) _) ?_
        rintro e w' ⟨rfl, rfl⟩
        go_wp2_with fail
        refine Calls.mono (dec_any yn (by omega) _) ?_
        rintro e w' ⟨rfl, rfl⟩
        go_wp2
        refine ⟨⟨i + 1, HI.out, by go_num, by first | (rw [HPT.out, HLN.out]; done) | (rw [HPT.out, HLN.out]; simp [List.append_assoc]), ?_, B.out⟩, by simp [intOf]; have := HI.out; omega⟩
        rw [HPT.out, HLN.out]
        have := HPL.out
        simp
        omega
      · have HLN : Hid (lineL n = [102, 105, 114, 115, 116, 32] ++ decT xn ++ [10]) := by
          show _ = _
          simp [lineL, hop, HX.out, HY.out]
        rw [hop] at c0
        clear hop
        go_wp2_with fail
        refine Calls.mono (dec_any xn (by omega) _) ?_
        rintro e w' ⟨rfl, rfl⟩
        go_wp2_with fail
        refine Calls.mono (dec_any yn (by omega) _) ?_
        rintro e w' ⟨rfl, rfl⟩
        go_wp2
        refine ⟨⟨i + 1, HI.out, by go_num, by first | (rw [HPT.out, HLN.out]; done) | (rw [HPT.out, HLN.out]; simp [List.append_assoc]), ?_, B.out⟩, by simp [intOf]; have := HI.out; omega⟩
        rw [HPT.out, HLN.out]
        have := HPL.out
        simp
        omega
      · have HLN : Hid (lineL n = [108, 97, 115, 116, 32] ++ decT xn ++ [10]) := by
          show _ = _
          simp [lineL, hop, HX.out, HY.out]
        rw [hop] at c0
        clear hop
        go_wp2_with fail
        refine Calls.mono (dec_any xn (by omega) _) ?_
        rintro e w' ⟨rfl, rfl⟩
        go_wp2_with fail
        refine Calls.mono (dec_any yn (by omega) _) ?_
        rintro e w' ⟨rfl, rfl⟩
        go_wp2
        refine ⟨⟨i + 1, HI.out, by go_num, by first | (rw [HPT.out, HLN.out]; done) | (rw [HPT.out, HLN.out]; simp [List.append_assoc]), ?_, B.out⟩, by simp [intOf]; have := HI.out; omega⟩
        rw [HPT.out, HLN.out]
        have := HPL.out
        simp
        omega
      · have HLN : Hid (lineL n = [100, 111, 110, 101, 10]) := by
          show _ = _
          simp [lineL, hop, HX.out, HY.out]
        rw [hop] at c0
        clear hop
        go_wp2_with fail
        refine Calls.mono (dec_any xn (by omega) _) ?_
        rintro e w' ⟨rfl, rfl⟩
        go_wp2_with fail
        refine Calls.mono (dec_any yn (by omega) _) ?_
        rintro e w' ⟨rfl, rfl⟩
        go_wp2
        refine ⟨⟨i + 1, HI.out, by go_num, by first | (rw [HPT.out, HLN.out]; done) | (rw [HPT.out, HLN.out]; simp [List.append_assoc]), ?_, B.out⟩, by simp [intOf]; have := HI.out; omega⟩
        rw [HPT.out, HLN.out]
        have := HPL.out
        simp
        omega
    · obtain rfl : i = ss.length := by omega
      rw [List.take_length] at *
      clear hSn
      go_wp2_with fail
      refine Calls.mono (HTX.out _ B.out) ?_
      rintro e w4 ⟨rfl, hb⟩
      replace B := hid (B.out.trans (hb.mono B.out.size))
      clear hb
      go_wp2_with fail
      refine Calls.mono (HE1.out _ B.out) ?_
      rintro e w5 ⟨rfl, hb⟩
      replace B := hid (B.out.trans (hb.mono B.out.size))
      clear hb
      go_wp2_with fail
      refine Calls.mono (HFA.out _ B.out) ?_
      rintro e w6 ⟨rfl, hb⟩
      replace B := hid (B.out.trans (hb.mono B.out.size))
      clear hb
      go_wp2_with fail
      refine Calls.mono (HOF.out _ B.out) ?_
      rintro e w7 ⟨qa, qc, rfl, hb⟩
      replace B := hid (B.out.trans (hb.mono B.out.size))
      clear hb
      go_wp2_with fail
      refine Calls.mono (HE2.out _ B.out) ?_
      rintro e w8 ⟨rfl, hb⟩
      replace B := hid (B.out.trans (hb.mono B.out.size))
      clear hb
      go_wp2
      go_ret
      exact ⟨rfl, B.out⟩
set_option maxHeartbeats 16000000 in
theorem progIs_ok_ok (P : ProgC) (ss : List St) (ns : List Nd) (v u : Value) (w : World) (hT : Pow w) (hS : SsIn w v ss) (hN : NsIn w u ns) (wS : ∀ s ∈ ss, s.wf) (wN : ∀ n ∈ ns, n.wf) (hE : w.cell? ⟨0, 0, none⟩ = some (rty 28)) (h0 : 0 < w.heap.size) (he : stepsF ss = 0) (hf : faultL ns = 0) :
    Calls Tryd.prog 3 #[v, u] w fun e w' => e = .returned (.bool true) ∧ Below w.heap.size w w' := by
  have HOS : SsOk ss := fun s hs => C4.wf_ok (wS s hs).2.1
  have HON : NdOk ns := fun n hn => C4.wf_ok (wN n hn).2
  have HSF : Hid (∀ w', Below w.heap.size w w' → _) := fun w' hb => stepsFault_any ss HOS v w' (hS.below hb)
  have HCK : Hid (∀ w', Below w.heap.size w w' → _) := fun w' hb => P.check ss v w' (hS.below hb) wS
  have HTX : Hid (∀ w', Below w.heap.size w w' → _) := fun w' hb => P.text ss v w' (hT.below hb) (hS.below hb) wS he
  clear hT
  have HFA : Hid (∀ w', Below w.heap.size w w' → _) := fun w' hb => fault_any ns HON u w' (hN.below hb)
  have HOF : Hid (∀ w', Below w.heap.size w w' → _) := fun w' hb => P.of ns u w' (hN.below hb) wN hf
  have HE1 : Hid (∀ w', Below w.heap.size w w' → _) := fun w' hb => error_any (stepsF ss) (stepsF ss) w' ((hb.cell (p := ⟨0, 0, none⟩) h0).trans hE)
  have HE2 : Hid (∀ w', Below w.heap.size w w' → _) := fun w' hb => error_any (faultL ns) (faultL ns) w' ((hb.cell (p := ⟨0, 0, none⟩) h0).trans hE)
  rw [beq_self_eq_true] at HE1 HE2
  have B := hid (Below.refl w.heap.size w)
  rw [he, show errV 0 = .nilIface from rfl] at HCK HE1
  rw [he] at HSF
  rw [hf, show errV 0 = .nilIface from rfl] at HE2
  rw [hf] at HFA
  obtain ⟨l200, lpos, hall⟩ := stepsF_zero he
  obtain ⟨ua, uc, rfl, um⟩ := nsIn_form hN
  obtain ⟨va, vc, rfl, vm, hv | ⟨b, off, rfl, hlt, hSn⟩⟩ := hS
  · rw [hv] at lpos; simp at lpos
  clear hN P
  go_enter Tryd.func3, Tryd.ntmps3
  go_wp2_with fail
  refine Calls.mono (HSF.out _ B.out) ?_
  rintro e w1 ⟨rfl, hb⟩
  replace B := hid (B.out.trans (hb.mono B.out.size))
  clear hb
  go_wp2_with fail
  refine Calls.mono (HCK.out _ B.out) ?_
  rintro e w2 ⟨rfl, hb⟩
  replace B := hid (B.out.trans (hb.mono B.out.size))
  clear hb
  go_wp2_with fail
  refine Calls.mono (HE1.out _ B.out) ?_
  rintro e w3 ⟨rfl, hb⟩
  replace B := hid (B.out.trans (hb.mono B.out.size))
  clear hb
  go_wp2_with fail
  go_loopw [7, 8] (fun s v wr => ∃ i : Nat, i ≤ ss.length ∧ v = .int .i64 (i : Int) ∧ s = .string ⟨(progT (ss.take i)).toArray⟩ ∧ (progT (ss.take i)).length ≤ i * 3000 ∧ Below w.heap.size w wr) (fun _ v _ => ss.length - (intOf v).toNat)
  case atStart => exact ⟨0, by omega, rfl, rfl, by simp [progT], B.out⟩
  case round =>
    obtain ⟨i, hi, rfl, rfl, hpl, hB⟩ := hrel
    replace B := hid hB
    by_cases hil : i < ss.length
    · obtain ⟨n, hn⟩ : ∃ n, ss[i]? = some n := ⟨ss[i], List.getElem?_eq_getElem hil⟩
      have hmem := List.mem_of_getElem? hn
      obtain ⟨nr, nsh⟩ := hall n hmem
      have HPT := hid (progT_take ss i n hn)
      obtain ⟨c0, c1, c2, c3, c4, c5, c6⟩ := hSn.below hB hlt i n hn
      have hno : n.c.ok := HOS n hmem
      have nrr := nr
      have s2 : ¬ (n.op ≠ 2 ∧ n.y ≠ 0) := fun h => nsh (Or.inr (Or.inl h))
      have s3 : ¬ (n.op = 5 ∧ n.x ≠ 0) := fun h => nsh (Or.inr (Or.inr h))
      obtain ⟨xn, hxn, hx2⟩ : ∃ xn : Nat, n.x = (xn : Int) ∧ xn ≤ 200 := ⟨n.x.toNat, by omega, by omega⟩
      obtain ⟨yn, hyn, hy2⟩ : ∃ yn : Nat, n.y = (yn : Int) ∧ yn ≤ 200 := ⟨n.y.toNat, by omega, by omega⟩
      have h15 : n.op = 1 ∨ n.op = 2 ∨ n.op = 3 ∨ n.op = 4 ∨ n.op = 5 := by omega
      have hdx := decT_200 xn (by omega)
      have hdy := decT_200 yn (by omega)
      rw [Int.toNat_natCast] at hdx hdy
      have htl := textL_len n.c
      have hcs := cat_str
      have hss := size_str
      have HI := hid hil
      have hpl2 : (progT (ss.take i)).length ≤ 600000 := by omega
      have i0 : (0 : Int) ≤ (i : Int) := by omega
      have i1 : (i : Int) < (ss.length : Int) := by omega
      rw [hxn] at c5
      rw [hyn] at c6
      have HX := hid hxn
      have HY := hid hyn
      have HPL := hid hpl
      clear hn hmem nr nrr nsh s2 s3 hxn hyn hB hpl
      rcases h15 with hop | hop | hop | hop | hop
      · have HLN : Hid (lineL n = [116, 97, 107, 101, 32] ++ textL n.c ++ [32] ++ decT xn ++ [10]) := by
          show _ = _
          simp [lineL, hop, HX.out, HY.out]
        rw [hop] at c0
        clear hop
        go_wp2_with fail
        refine Calls.mono (dec_any xn (by omega) _) ?_
        rintro e w' ⟨rfl, rfl⟩
        go_wp2_with fail
        refine Calls.mono (dec_any yn (by omega) _) ?_
        rintro e w' ⟨rfl, rfl⟩
        go_wp2_with fail
        refine Calls.mono (classText_any n.c hno _) ?_
        rintro e w9 ⟨rfl, hb⟩
        replace B := hid (B.out.trans (hb.mono B.out.size))
        clear hb
        go_wp2
        refine ⟨⟨i + 1, HI.out, by go_num, by first | (rw [HPT.out, HLN.out]; done) | (rw [HPT.out, HLN.out]; simp [List.append_assoc]), ?_, B.out⟩, by simp [intOf]; have := HI.out; omega⟩
        rw [HPT.out, HLN.out]
        have := HPL.out
        simp
        omega
      · have HLN : Hid (lineL n = [102, 111, 114, 107, 32] ++ decT xn ++ [32] ++ decT yn ++ [10]) := by
          show _ = _
          simp [lineL, hop, HX.out, HY.out]
        rw [hop] at c0
        clear hop
        go_wp2_with fail
        refine Calls.mono (dec_any xn (by omega) _) ?_
        rintro e w' ⟨rfl, rfl⟩
        go_wp2_with fail
        refine Calls.mono (dec_any yn (by omega) _) ?_
        rintro e w' ⟨rfl, rfl⟩
        go_wp2
        refine ⟨⟨i + 1, HI.out, by go_num, by first | (rw [HPT.out, HLN.out]; done) | (rw [HPT.out, HLN.out]; simp [List.append_assoc]), ?_, B.out⟩, by simp [intOf]; have := HI.out; omega⟩
        rw [HPT.out, HLN.out]
        have := HPL.out
        simp
        omega
      · have HLN : Hid (lineL n = [102, 105, 114, 115, 116, 32] ++ decT xn ++ [10]) := by
          show _ = _
          simp [lineL, hop, HX.out, HY.out]
        rw [hop] at c0
        clear hop
        go_wp2_with fail
        refine Calls.mono (dec_any xn (by omega) _) ?_
        rintro e w' ⟨rfl, rfl⟩
        go_wp2_with fail
        refine Calls.mono (dec_any yn (by omega) _) ?_
        rintro e w' ⟨rfl, rfl⟩
        go_wp2
        refine ⟨⟨i + 1, HI.out, by go_num, by first | (rw [HPT.out, HLN.out]; done) | (rw [HPT.out, HLN.out]; simp [List.append_assoc]), ?_, B.out⟩, by simp [intOf]; have := HI.out; omega⟩
        rw [HPT.out, HLN.out]
        have := HPL.out
        simp
        omega
      · have HLN : Hid (lineL n = [108, 97, 115, 116, 32] ++ decT xn ++ [10]) := by
          show _ = _
          simp [lineL, hop, HX.out, HY.out]
        rw [hop] at c0
        clear hop
        go_wp2_with fail
        refine Calls.mono (dec_any xn (by omega) _) ?_
        rintro e w' ⟨rfl, rfl⟩
        go_wp2_with fail
        refine Calls.mono (dec_any yn (by omega) _) ?_
        rintro e w' ⟨rfl, rfl⟩
        go_wp2
        refine ⟨⟨i + 1, HI.out, by go_num, by first | (rw [HPT.out, HLN.out]; done) | (rw [HPT.out, HLN.out]; simp [List.append_assoc]), ?_, B.out⟩, by simp [intOf]; have := HI.out; omega⟩
        rw [HPT.out, HLN.out]
        have := HPL.out
        simp
        omega
      · have HLN : Hid (lineL n = [100, 111, 110, 101, 10]) := by
          show _ = _
          simp [lineL, hop, HX.out, HY.out]
        rw [hop] at c0
        clear hop
        go_wp2_with fail
        refine Calls.mono (dec_any xn (by omega) _) ?_
        rintro e w' ⟨rfl, rfl⟩
        go_wp2_with fail
        refine Calls.mono (dec_any yn (by omega) _) ?_
        rintro e w' ⟨rfl, rfl⟩
        go_wp2
        refine ⟨⟨i + 1, HI.out, by go_num, by first | (rw [HPT.out, HLN.out]; done) | (rw [HPT.out, HLN.out]; simp [List.append_assoc]), ?_, B.out⟩, by simp [intOf]; have := HI.out; omega⟩
        rw [HPT.out, HLN.out]
        have := HPL.out
        simp
        omega
    · obtain rfl : i = ss.length := by omega
      rw [List.take_length] at *
      clear hSn
      go_wp2_with fail
      refine Calls.mono (HTX.out _ B.out) ?_
      rintro e w4 ⟨rfl, hb⟩
      replace B := hid (B.out.trans (hb.mono B.out.size))
      clear hb
      go_wp2_with fail
      refine Calls.mono (HE1.out _ B.out) ?_
      rintro e w5 ⟨rfl, hb⟩
      replace B := hid (B.out.trans (hb.mono B.out.size))
      clear hb
      go_wp2_with fail
      refine Calls.mono (HFA.out _ B.out) ?_
      rintro e w6 ⟨rfl, hb⟩
      replace B := hid (B.out.trans (hb.mono B.out.size))
      clear hb
      go_wp2_with fail
      refine Calls.mono (HOF.out _ B.out) ?_
      rintro e w7 ⟨qa, ql, qc, rfl, hb⟩
      replace B := hid (B.out.trans (hb.mono B.out.size))
      clear hb
      go_wp2_with fail
      refine Calls.mono (HE2.out _ B.out) ?_
      rintro e w8 ⟨rfl, hb⟩
      replace B := hid (B.out.trans (hb.mono B.out.size))
      clear hb
      go_wp2
      go_ret
      exact ⟨rfl, B.out⟩
theorem progIs_any (P : ProgC) (ss : List St) (ns : List Nd) (v u : Value) (w : World) (hT : Pow w) (hS : SsIn w v ss) (hN : NsIn w u ns) (wS : ∀ s ∈ ss, s.wf) (wN : ∀ n ∈ ns, n.wf) (hE : w.cell? ⟨0, 0, none⟩ = some (rty 28)) (h0 : 0 < w.heap.size) :
    Calls Tryd.prog 3 #[v, u] w fun e w' => e = .returned (.bool true) ∧ Below w.heap.size w w' := by
  by_cases he : stepsF ss = 0
  · by_cases hf : faultL ns = 0
    · exact progIs_ok_ok P ss ns v u w hT hS hN wS wN hE h0 he hf
    · exact progIs_ok_bad P ss ns v u w hT hS hN wS wN hE h0 he hf
  · by_cases hf : faultL ns = 0
    · exact progIs_bad_ok P ss ns v u w hT hS hN wS wN hE h0 he hf
    · exact progIs_bad_bad P ss ns v u w hT hS hN wS wN hE h0 he hf
end Go.Proofs.YthmiomgjeimblaaDoor
namespace Go.Proofs.YthmiomgjeimblaaDoor
set_option linter.unusedSimpArgs false
set_option linter.unusedVariables false
set_option maxRecDepth 100000
open Go.RowKit
/-- A step as a value. -/
abbrev St.v (n : St) : Value := .agg #[.int .i64 n.op, .int .u64 n.c.a, .int .u64 n.c.b, .int .u64 n.c.c, .int .u64 n.c.d, .int .i64 n.x, .int .i64 n.y]
abbrev St.arr (n : St) : Array Value := #[.int .i64 n.op, .int .u64 n.c.a, .int .u64 n.c.b, .int .u64 n.c.c, .int .u64 n.c.d, .int .i64 n.x, .int .i64 n.y]
def St.eqb (a b : St) : Bool := a.op == b.op && (a.c.eqb b.c && (a.x == b.x && a.y == b.y))
theorem list4st {α : Type} (l : List α) (h : l.length = 4) : ∃ a b c d, l = [a, b, c, d] := by
  match l, h with
  | [a, b, c, d], _ => exact ⟨a, b, c, d, rfl⟩
theorem eq7d (d : Nat) (x y : St) (w : World) : (Op.equalIn (d + 1 + 1 + 1) 35 x.v y.v).run Tryd.prog w = .ok (x.eqb y) w := by
  have hs : Tryd.prog.underlying 35 = some (.struct (Tryd.prog.fieldsOf 35)) := by kernel_rfl
  have hp : Tryd.prog.stoodInHeld 35 = false := by kernel_rfl
  rw [run_equalIn_struct w (d + 1 + 1) _ _ _ hs hp]
  have hf : (Tryd.prog.fieldsOf 35).toList.map (fun f => (f.type, f.offset, f.name == "_")) = [(3, 0, false), (33, 1, false), (3, 5, false), (3, 6, false)] := by kernel_rfl
  generalize (Tryd.prog.fieldsOf 35).toList = fs at hf
  obtain ⟨f0, f1, f2, f3, rfl⟩ := list4st fs (by have := congrArg List.length hf; simpa using this)
  · simp only [List.map_cons, List.map_nil, List.cons.injEq, Prod.mk.injEq, and_true] at hf
    obtain ⟨⟨t0, o0, n0⟩, ⟨t1, o1, n1⟩, ⟨t2, o2, n2⟩, ⟨t3, o3, n3⟩⟩ := hf
    have n0' : f0.name ≠ "_" := by simpa using n0
    have n1' : f1.name ≠ "_" := by simpa using n1
    have n2' : f2.name ≠ "_" := by simpa using n2
    have n3' : f3.name ≠ "_" := by simpa using n3
    have hi : ∀ (a b : Int) (w : World), (Op.equalIn (d + 1 + 1) 3 (.int .i64 a) (.int .i64 b)).run Tryd.prog w = .ok (a == b) w := fun a b w => run_equalIn_int w (d + 1) 3 .i64 .i64 a b Tryd.underlying3
    have hc : ∀ (x y : C4) (w : World), (Op.equalIn (d + 1 + 1) 33 x.v y.v).run Tryd.prog w = .ok (x.eqb y) w := fun x y w => eq4d d x y w
    have q0 : ∀ (z : St) (w : World), (part 3 z.arr 0).run Tryd.prog w = .ok (.int .i64 z.op) w := fun _ _ => by kernel_rfl
    have q1 : ∀ (z : St) (w : World), (part 33 z.arr 1).run Tryd.prog w = .ok z.c.v w := fun _ _ => by kernel_rfl
    have q2 : ∀ (z : St) (w : World), (part 3 z.arr 5).run Tryd.prog w = .ok (.int .i64 z.x) w := fun _ _ => by kernel_rfl
    have q3 : ∀ (z : St) (w : World), (part 3 z.arr 6).run Tryd.prog w = .ok (.int .i64 z.y) w := fun _ _ => by kernel_rfl
    simp only [Op.eqFields, t0, o0, t1, o1, t2, o2, t3, o3, ne_eq, n0', n1', n2', n3', not_false_eq_true, if_true, Sem.run_bind, q0, q1, q2, q3, Result.andThen_ok, hi, hc, Sem.run_ite, Sem.run_pure]
    unfold St.eqb
    cases h1 : x.op == y.op <;> cases h2 : x.c.eqb y.c <;> cases h3 : x.x == y.x <;> cases h4 : x.y == y.y <;> simp [q1, q2, q3, hc, hi, h2, h3, h4]
theorem eqS (x y : St) (w : World) : (Op.equalIn 10000 35 x.v y.v).run Tryd.prog w = .ok (x.eqb y) w := eq7d 9997 x y w
theorem isStep_any (N : Nat) (hN : N ≤ 9223372036854775807) (x : Int) (b : Nat) (a : Option Addr) (cap : Nat) (w : World) (hb : w.cell? ⟨b, 0, none⟩ = some (.slice a N cap)) :
    Calls Tryd.prog 14 #[.int .i64 x, .pointer (some ⟨b, 0, none⟩)] w fun e w' => e = .returned (.bool (decide (0 ≤ x ∧ x < (N : Int)))) ∧ w' = w := by
  by_cases h0 : 0 ≤ x
  · by_cases h1 : x < (N : Int)
    · go_enter Tryd.func14, Tryd.ntmps14
      go_wp2
      go_ret
      exact ⟨by first | (simp [h0, h1]; done) | (simp [h0]; omega), rfl⟩
    · go_enter Tryd.func14, Tryd.ntmps14
      go_wp2
      go_ret
      exact ⟨by first | (simp [h0, h1]; done) | (simp [h0]; omega), rfl⟩
  · go_enter Tryd.func14, Tryd.ntmps14
    go_wp2
    go_ret
    exact ⟨by first | (simp [h0]; done) | (simp; omega), rfl⟩
/-- A step with the fields alone that its Op has. -/
def bareS (s : St) : St := if s.op = 1 then ⟨s.op, s.c, s.x, 0⟩ else if s.op = 2 then ⟨s.op, z4, s.x, s.y⟩ else if s.op = 3 ∨ s.op = 4 then ⟨s.op, z4, s.x, 0⟩ else ⟨s.op, z4, 0, 0⟩
theorem bare_any (s : St) (w : World) : Calls Tryd.prog 28 #[s.v] w fun e w' => e = .returned (bareS s).v ∧ Below w.heap.size w w' := by
  obtain ⟨op, c, x, y⟩ := s
  have HB : Hid (∀ o1 o2, Below w.heap.size w ((w.alloc o1).alloc o2)) := fun o1 o2 => ((Below.refl _ _).alloc (Nat.le_refl _) _).alloc (by simp) _
  by_cases h1 : op = 1
  · subst h1
    have HF : Hid (bareS ⟨1, c, x, y⟩ = ⟨1, c, x, 0⟩) := by show _ = _; unfold bareS; rw [if_pos rfl]
    go_enter Tryd.func28, Tryd.ntmps28
    go_wp2
    rw [HF.out]
    refine bodyPost_ret (by simp [results, Tryd.results28, go_sem, z4]) rfl ⟨rfl, HB.out _ _⟩
  by_cases h2 : op = 2
  · subst h2
    have HF : Hid (bareS ⟨2, c, x, y⟩ = ⟨2, z4, x, y⟩) := by show _ = _; unfold bareS; rw [if_neg (by simp), if_pos rfl]
    go_enter Tryd.func28, Tryd.ntmps28
    go_wp2
    rw [HF.out]
    refine bodyPost_ret (by simp [results, Tryd.results28, go_sem, z4]) rfl ⟨rfl, HB.out _ _⟩
  by_cases h3 : op = 3
  · subst h3
    have HF : Hid (bareS ⟨3, c, x, y⟩ = ⟨3, z4, x, 0⟩) := by show _ = _; unfold bareS; rw [if_neg (by simp), if_neg (by simp), if_pos (by simp)]
    go_enter Tryd.func28, Tryd.ntmps28
    go_wp2
    rw [HF.out]
    refine bodyPost_ret (by simp [results, Tryd.results28, go_sem, z4]) rfl ⟨rfl, HB.out _ _⟩
  by_cases h4 : op = 4
  · subst h4
    have HF : Hid (bareS ⟨4, c, x, y⟩ = ⟨4, z4, x, 0⟩) := by show _ = _; unfold bareS; rw [if_neg (by simp), if_neg (by simp), if_pos (by simp)]
    go_enter Tryd.func28, Tryd.ntmps28
    go_wp2
    rw [HF.out]
    refine bodyPost_ret (by simp [results, Tryd.results28, go_sem, z4]) rfl ⟨rfl, HB.out _ _⟩
  have HF : Hid (bareS ⟨op, c, x, y⟩ = ⟨op, z4, 0, 0⟩) := by show _ = _; unfold bareS; rw [if_neg h1, if_neg h2, if_neg (by simp; omega)]
  have g1 : (op == 1) = false := by simp [h1]
  have g2 : (op == 2) = false := by simp [h2]
  have g3 : (op == 3) = false := by simp [h3]
  have g4 : (op == 4) = false := by simp [h4]
  clear h1 h2 h3 h4
  go_enter Tryd.func28, Tryd.ntmps28
  go_wp2
  rw [HF.out]
  refine bodyPost_ret (by simp [results, Tryd.results28, go_sem, z4]) rfl ⟨rfl, HB.out _ _⟩
end Go.Proofs.YthmiomgjeimblaaDoor
namespace Go.Proofs.YthmiomgjeimblaaDoor
set_option linter.unusedSimpArgs false
set_option linter.unusedVariables false
set_option maxRecDepth 100000
open Go.RowKit

theorem not1_any (x y : Int) (w : World) :
    Calls Tryd.prog 59 #[.int .u64 x, .int .u64 y] w fun e w' => e = .returned (.int .u64 (not64 x)) ∧ w' = w := by
  have hs : ¬ IntKind.u64.signed = true := by decide
  go_enter Tryd.func59, Tryd.ntmps59
  go_wp2
  all_goals first | (exfalso; exact hs ‹_›) | skip
  all_goals (go_ret; exact ⟨rfl, rfl⟩)
set_option maxHeartbeats 400000 in
theorem ones_any (x : Int) (w : World) :
    Calls Tryd.prog 61 #[.int .u64 x] w fun e w' => e = .returned (.int .i64 (ones x)) ∧ w' = w := by
  go_enter Tryd.func61, Tryd.ntmps61
  go_wp2
  go_ret
  exact ⟨rfl, rfl⟩
set_option maxHeartbeats 400000 in
theorem has_any (k : C4) (x : Int) (w : World) (h : 0 ≤ x) (h2 : x < 256) :
    Calls Tryd.prog 68 #[k.v, .int .u8 x] w fun e w' => e = .returned (.bool (k.hasI x)) ∧ Below w.heap.size w w' := by
  have hw := k.get (x/64).toNat (by omega)
  go_enter Tryd.func68, Tryd.ntmps68
  go_wp2
  go_ret
  exact ⟨rfl, (Below.refl _ _).alloc (Nat.le_refl _) _⟩
set_option maxHeartbeats 400000 in
theorem with_any (k : C4) (x : Int) (w : World) (h : 0 ≤ x) (h2 : x < 256) :
    Calls Tryd.prog 60 #[k.v, .int .u8 x] w fun e w' => e = .returned (k.add x).v ∧ Below w.heap.size w w' := by
  have hw := k.get (x/64).toNat (by omega)
  have hs := k.set (x/64).toNat (by omega)
  go_enter Tryd.func60, Tryd.ntmps60
  go_wp2
  refine bodyPost_ret (v := (k.add x).v) (by simp [results, Tryd.results60, go_sem]; exact ⟨rfl, rfl, rfl, rfl⟩) rfl ⟨rfl, ?_⟩
  exact ((Below.refl _ _).alloc (Nat.le_refl _) _).alloc (by simp) _

set_option maxHeartbeats 1000000 in
theorem join_any (g : Nat) (F : Int → Int → Int) (hg : ∀ (p q : Int) (w : World), Calls Tryd.prog g #[.int .u64 p, .int .u64 q] w fun e w' => e = .returned (.int .u64 (F p q)) ∧ w' = w)
    (he : ∀ args w, (callFunc g args).run Tryd.prog w = .ok (.enter g args) w) (x y : C4) (w : World) :
    Calls Tryd.prog 58 #[x.v, y.v, .func (.func g) #[] #[]] w fun e w' => e = .returned (jn F x y 4).v ∧ Below w.heap.size w w' := by
  have HG := (show Hid _ from hg)
  clear hg
  go_enter Tryd.func58, Tryd.ntmps58
  go_wp2
  go_loopw [9] (fun i wr => ∃ k : Nat, k ≤ 4 ∧ i = .int .i64 k ∧ Below w.heap.size w wr ∧ Hb wr w.heap.size x ∧ Hb wr (w.heap.size + 1) y ∧ Hb wr (w.heap.size + 1 + 1) z4 ∧ Hb wr (w.heap.size + 1 + 1 + 1) (jn F x y k)) (fun i _ => 4 - (intOf i).toNat)
  case atStart =>
    refine ⟨0, by omega, rfl, ?_, ?_, ?_, ?_, ?_⟩
    · exact ((((Below.refl _ _).alloc (Nat.le_refl _) _).alloc (by simp) _).alloc (by simp; omega) _).alloc (by simp; omega) _
    · exact (((Hb.new _ x _ rfl).alloc _).alloc _).alloc _
    · exact ((Hb.new _ y _ (by simp)).alloc _).alloc _
    · exact (Hb.new _ z4 _ (by simp)).alloc _
    · exact Hb.new _ (jn F x y 0) _ (by simp)
  case round =>
    obtain ⟨k, hk, rfl, hB, hX, hY, hZ, hJ⟩ := hrel
    by_cases hlt : k < 4
    · have cx := hX.cell k hlt
      have cy := hY.cell k hlt
      have cj := hJ.cell k hlt
      have fj := hJ.frozen k
      have i0 : (0 : Int) ≤ (k : Int) := by omega
      have i1 : (k : Int) < 4 := by omega
      have sx := fun v => (hX.other ⟨w.heap.size + 1 + 1 + 1, k, none⟩ v (by simp only; omega)).cell k hlt
      have sy := fun v => (hY.other ⟨w.heap.size + 1 + 1 + 1, k, none⟩ v (by simp only; omega)).cell k hlt
      go_wp2_with fail
      go_region_held3 (fun w' => w'.cell? ⟨w.heap.size, k, none⟩ = some (.int .u64 (x.w k)) ∧ w'.cell? ⟨w.heap.size + 1, k, none⟩ = some (.int .u64 (y.w k))) (go_keep)
        (first | (refine (HG.out _ _ _).mono ?_; rintro e w' ⟨rfl, rfl⟩))
      all_goals go_wp2
      refine ⟨⟨k + 1, by omega, by go_num, ?_, ?_, ?_, ?_, ?_⟩, by simp [intOf]; omega⟩
      · exact (hB.setCell (by simp; omega) _).drew
      · exact (hX.other _ _ (by simp only; omega)).drew
      · exact (hY.other _ _ (by simp only; omega)).drew
      · exact (hZ.other _ _ (by simp only; omega)).drew
      · rw [← jn_put F x y k hlt]
        exact (hJ.store k hlt _).drew
    · have hk4 : k = 4 := by omega
      subst hk4
      have c0 := hJ.c0
      have c1 := hJ.c1
      have c2 := hJ.c2
      have c3 := hJ.c3
      have d0 := hZ.c0
      have d1 := hZ.c1
      have d2 := hZ.c2
      have d3 := hZ.c3
      have f0 := hZ.frozen 0
      have f1 := hZ.frozen 1
      have f2 := hZ.frozen 2
      have f3 := hZ.frozen 3
      go_wp2
      have hq := hZ.put4 (jn F x y 4)
      refine bodyPost_ret (v := (jn F x y 4).v) (by simp [results, Tryd.results58, go_sem, hq.c0, hq.c1, hq.c2, hq.c3]) rfl ⟨rfl, ?_⟩
      exact (((hB.setCell (by simp; omega) _).setCell (by simp; omega) _).setCell (by simp; omega) _).setCell (by simp; omega) _

theorem enters_not1 : ∀ args w, (callFunc 59 args).run Tryd.prog w = .ok (.enter 59 args) w := fun _ _ => by kernel_rfl
end Go.Proofs.YthmiomgjeimblaaDoor
namespace Go.Proofs.YthmiomgjeimblaaDoor
set_option linter.unusedSimpArgs false
set_option linter.unusedVariables false
set_option maxRecDepth 100000
open Go.RowKit

set_option maxHeartbeats 400000 in
theorem not_any (x : C4) (w : World) :
    Calls Tryd.prog 47 #[x.v] w fun e w' => e = .returned (x.not).v ∧ Below w.heap.size w w' := by
  go_enter Tryd.func47, Tryd.ntmps47
  go_wp2_with fail
  refine (join_any 59 (fun p _ => not64 p) not1_any enters_not1 x x _).mono ?_
  rintro e w1 ⟨rfl, hb⟩
  have hB : Below w.heap.size w w1 := (((Below.refl _ _).alloc (Nat.le_refl _) _).alloc (by simp) _).trans (hb.mono (by simp; omega))
  have hZ : Hb w1 (w.heap.size + 1) z4 := (Hb.new _ z4 _ (by simp)).below hb (by simp)
  obtain ⟨d0, d1, d2, d3, f0, f1, f2, f3⟩ := hZ.all
  go_wp2
  have hq := hZ.put4 (x.not)
  refine bodyPost_ret (v := (x.not).v) (by have g0 := hq.c0; have g1 := hq.c1; have g2 := hq.c2; have g3 := hq.c3; simp [jn, C4.not] at g0 g1 g2 g3 ⊢; simp [results, Tryd.results47, go_sem, C4.not, g0, g1, g2, g3]) rfl ⟨rfl, ?_⟩
  exact below_put4 hB (by omega) _

theorem index4_0 (k : C4) (w : World) : (Instr.index 33 k.v (.int .i64 0)).run Tryd.prog w = .ok (.int .u64 k.a) w := by kernel_rfl
theorem index4_1 (k : C4) (w : World) : (Instr.index 33 k.v (.int .i64 1)).run Tryd.prog w = .ok (.int .u64 k.b) w := by kernel_rfl
theorem index4_2 (k : C4) (w : World) : (Instr.index 33 k.v (.int .i64 2)).run Tryd.prog w = .ok (.int .u64 k.c) w := by kernel_rfl
theorem index4_3 (k : C4) (w : World) : (Instr.index 33 k.v (.int .i64 3)).run Tryd.prog w = .ok (.int .u64 k.d) w := by kernel_rfl
theorem index4 (k : C4) (i : Nat) (h : i < 4) (w : World) : (Instr.index 33 k.v (.int .i64 i)).run Tryd.prog w = .ok (.int .u64 (k.w i)) w := by
  match i, h with
  | 0, _ => exact index4_0 k w
  | 1, _ => exact index4_1 k w
  | 2, _ => exact index4_2 k w
  | 3, _ => exact index4_3 k w

set_option maxHeartbeats 400000 in
theorem many_any (k : C4) (w : World) :
    Calls Tryd.prog 49 #[k.v] w fun e w' => e = .returned (.int .i64 (k.many 4)) ∧ Below w.heap.size w w' := by
  go_enter Tryd.func49, Tryd.ntmps49
  go_wp2
  go_loop [3, 7] (fun n i => ∃ j : Nat, j ≤ 4 ∧ i = .int .i64 j ∧ n = .int .i64 (k.many j)) (fun _ i => 4 - (intOf i).toNat)
  case atStart => exact ⟨0, by omega, rfl, rfl⟩
  case round =>
    obtain ⟨j, hj, rfl, rfl⟩ := hrel
    by_cases hlt : j < 4
    · have hi := index4 k j hlt
      go_wp2_with (first | (go_at_call 61; refine (ones_any _ _).mono ?_; rintro e w' ⟨rfl, rfl⟩))
      go_round
      case rel => exact ⟨j + 1, by omega, by go_num, rfl⟩
      case measure => simp [intOf]; omega
    · have hj4 : j = 4 := by omega
      subst hj4
      go_wp2
      go_ret
      exact ⟨rfl, (Below.refl _ _).alloc (Nat.le_refl _) _⟩

set_option maxHeartbeats 1000000 in
theorem of_any (s : ByteArray) (w : World) (hs : s.size ≤ maxLen) :
    Calls Tryd.prog 48 #[.string s] w fun e w' => e = .returned (C4.ofL s.data.toList).v ∧ Below w.heap.size w w' := by
  unfold maxLen at hs
  go_enter Tryd.func48, Tryd.ntmps48
  go_wp2
  go_loopw [7] (fun i wr => ∃ k : Nat, k ≤ s.size ∧ i = .int .i64 k ∧ Below w.heap.size w wr ∧ Hb wr w.heap.size z4 ∧ Hb wr (w.heap.size + 1) (C4.ofL (s.data.toList.take k))) (fun i _ => s.size - (intOf i).toNat)
  case atStart =>
    refine ⟨0, by omega, rfl, ?_, ?_, ?_⟩
    · exact ((Below.refl _ _).alloc (Nat.le_refl _) _).alloc (by simp) _
    · exact (Hb.new _ z4 _ rfl).alloc _
    · exact Hb.new _ z4 _ (by simp)
  case round =>
    obtain ⟨k, hk, rfl, hB, hZ, hC⟩ := hrel
    by_cases hlt : k < s.size
    · obtain ⟨c0, c1, c2, c3, e0, e1, e2, e3⟩ := hC.all
      have i0 : (0 : Int) ≤ (k : Int) := by omega
      have i1 : (k : Int) < (s.size : Int) := by omega
      have hg : s.data.toList[k]? = some s[k] := by
        rw [List.getElem?_eq_getElem (by simpa using hlt)]; rfl
      have hts : s.data.toList.take (k + 1) = s.data.toList.take k ++ [s[k]] := by
        rw [List.take_succ_eq_append_getElem (by simpa using hlt)]; rfl
      have HT : Hid (C4.ofL (s.data.toList.take (k + 1)) = (C4.ofL (s.data.toList.take k)).add (s[k].toNat : Int)) := by rw [hts, C4.ofL_snoc]; exact rfl
      clear hts hg
      have hlb : (s[k].toNat : Int) < 256 := by have := s[k].toNat_lt; omega
      have hl0 : (0 : Int) ≤ (s[k].toNat : Int) := by omega
      go_wp2_with fail
      go_region_with (first | (go_at_call 60; refine (with_any (C4.ofL (s.data.toList.take k)) _ _ hl0 hlb).mono ?_; rintro e w' ⟨rfl, hb⟩; have hC1 := Hb.below hC.drew hb hC.lt; obtain ⟨g0, g1, g2, g3, q0, q1, q2, q3⟩ := hC1.all))
      all_goals
        go_wp2
        refine ⟨⟨k + 1, by omega, by go_num, ?_, ?_, ?_⟩, by simp [intOf]; omega⟩
        · exact below_put4 (hB.drew.trans (hb.mono hB.size)) (by omega) _
        · exact Hb.other4 (Hb.below hZ.drew hb hZ.lt) _ (by omega)
        · rw [HT.out]; exact hC1.put4 _
    · have hk4 : k = s.size := by omega
      subst hk4
      have ht : s.data.toList.take s.size = s.data.toList := List.take_of_length_le (by simp)
      rw [ht] at hC
      clear ht
      obtain ⟨c0, c1, c2, c3, e0, e1, e2, e3⟩ := hC.all
      obtain ⟨d0, d1, d2, d3, f0, f1, f2, f3⟩ := hZ.all
      go_wp2
      have hq := hZ.put4 (C4.ofL s.data.toList)
      refine bodyPost_ret (v := (C4.ofL s.data.toList).v) (by simp [results, Tryd.results48, go_sem, hq.c0, hq.c1, hq.c2, hq.c3]) rfl ⟨rfl, ?_⟩
      exact below_put4 hB (by omega) _
end Go.Proofs.YthmiomgjeimblaaDoor
