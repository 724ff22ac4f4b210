/- class.Of. class.Of at one letter. The laws' own patterns: the letter a, once, as often as one likes, once at least; what is found of them. No pattern's fault is that nothing is found: plain words. The law FindFirst, walked from what the document asks of packages find and mean. (Made by wip/tools/genfnf.py.) Sets of places in memory: of no Go function. -/
import Derived.Test.YtphcncgdodhlbaaDoorY04
import Derived.Test.YtphcncgdodhlbaaDoorY02
import Derived.Test.YtphcncgdodhlbaaDoorY03
import Derived.Deep.RegionHeld3
import Derived.BigQuiet
import Derived.Lib.QuietBelow
import Derived.Test.YtphcncgdodhlbaaDoorY01
import Derived.Maps.AppendAt
namespace Go.Proofs.YtphcncgdodhlbaaDoor
set_option linter.unusedSimpArgs false
set_option linter.unusedVariables false
set_option maxRecDepth 100000
open Go.RowKit
set_option maxHeartbeats 1000000 in
theorem of_any (s : ByteArray) (w : World) (hs : s.size ≤ maxLen) :
    Calls Tryd.prog 14 #[.string s] w fun e w' => e = .returned (C4.ofL s.data.toList).v ∧ Below w.heap.size w w' := by
  unfold maxLen at hs
  go_enter Tryd.func14, Tryd.ntmps14
  go_wp2
  go_loopw [7] (fun i wr => ∃ k : Nat, k ≤ s.size ∧ i = .int .i64 k ∧ Below w.heap.size w wr ∧ Hb wr w.heap.size z4 ∧ Hb wr (w.heap.size + 1) (C4.ofL (s.data.toList.take k))) (fun i _ => s.size - (intOf i).toNat)
  case atStart =>
    refine ⟨0, by omega, rfl, ?_, ?_, ?_⟩
    · exact ((Below.refl _ _).alloc (Nat.le_refl _) _).alloc (by simp) _
    · exact (Hb.new _ z4 _ rfl).alloc _
    · exact Hb.new _ z4 _ (by simp)
  case round =>
    obtain ⟨k, hk, rfl, hB, hZ, hC⟩ := hrel
    by_cases hlt : k < s.size
    · obtain ⟨c0, c1, c2, c3, e0, e1, e2, e3⟩ := hC.all
      have i0 : (0 : Int) ≤ (k : Int) := by omega
      have i1 : (k : Int) < (s.size : Int) := by omega
      have hg : s.data.toList[k]? = some s[k] := by
        rw [List.getElem?_eq_getElem (by simpa using hlt)]; rfl
      have hts : s.data.toList.take (k + 1) = s.data.toList.take k ++ [s[k]] := by
        rw [List.take_succ_eq_append_getElem (by simpa using hlt)]; rfl
      have HT : Hid (C4.ofL (s.data.toList.take (k + 1)) = (C4.ofL (s.data.toList.take k)).add (s[k].toNat : Int)) := by rw [hts, C4.ofL_snoc]; exact rfl
      clear hts hg
      have hlb : (s[k].toNat : Int) < 256 := by have := s[k].toNat_lt; omega
      have hl0 : (0 : Int) ≤ (s[k].toNat : Int) := by omega
      go_wp2_with fail
      go_region_with (first | (go_at_call 23; refine (with_any (C4.ofL (s.data.toList.take k)) _ _ hl0 hlb).mono ?_; rintro e w' ⟨rfl, hb⟩; have hC1 := Hb.below hC.drew hb hC.lt; obtain ⟨g0, g1, g2, g3, q0, q1, q2, q3⟩ := hC1.all))
      all_goals
        go_wp2
        refine ⟨⟨k + 1, by omega, by go_num, ?_, ?_, ?_⟩, by simp [intOf]; omega⟩
        · exact below_put4 (hB.drew.trans (hb.mono hB.size)) (by omega) _
        · exact Hb.other4 (Hb.below hZ.drew hb hZ.lt) _ (by omega)
        · rw [HT.out]; exact hC1.put4 _
    · have hk4 : k = s.size := by omega
      subst hk4
      have ht : s.data.toList.take s.size = s.data.toList := List.take_of_length_le (by simp)
      rw [ht] at hC
      clear ht
      obtain ⟨c0, c1, c2, c3, e0, e1, e2, e3⟩ := hC.all
      obtain ⟨d0, d1, d2, d3, f0, f1, f2, f3⟩ := hZ.all
      go_wp2
      have hq := hZ.put4 (C4.ofL s.data.toList)
      refine bodyPost_ret (v := (C4.ofL s.data.toList).v) (by simp [results, Tryd.results14, go_sem, hq.c0, hq.c1, hq.c2, hq.c3]) rfl ⟨rfl, ?_⟩
      exact below_put4 hB (by omega) _
end Go.Proofs.YtphcncgdodhlbaaDoor
namespace Go.Proofs.YtphcncgdodhlbaaDoor
set_option linter.unusedSimpArgs false
set_option linter.unusedVariables false
open Go.RowKit
def kA : C4 := C4.ofL [97]
def kB : C4 := C4.ofL [98]
theorem ofA : ∀ w, Calls Tryd.prog 14 #[.string ⟨#[97]⟩] w fun e w' => e = .returned kA.v ∧ Below w.heap.size w w' := fun w => of_any ⟨#[97]⟩ w (by decide)
theorem ofB : ∀ w, Calls Tryd.prog 14 #[.string ⟨#[98]⟩] w fun e w' => e = .returned kB.v ∧ Below w.heap.size w w' := fun w => of_any ⟨#[98]⟩ w (by decide)
theorem kA_ok : kA.ok ∧ kA.has 97 = true := ⟨ofL_ok _, by unfold kA; rw [ofL_has _ _ (by decide)]; decide⟩
theorem kB_ok : kB.ok ∧ kB.has 98 = true := ⟨ofL_ok _, by unfold kB; rw [ofL_has _ _ (by decide)]; decide⟩
theorem kA_not : kA.ok ∧ kA.has 97 = true ∧ kA.has 98 = false := ⟨ofL_ok _, kA_ok.2, by unfold kA; rw [ofL_has _ _ (by decide)]; decide⟩
end Go.Proofs.YtphcncgdodhlbaaDoor
namespace Go.Proofs.YtphcncgdodhlbaaDoor
set_option linter.unusedSimpArgs false
set_option linter.unusedVariables false
set_option maxRecDepth 100000
open Go.RowKit
theorem ns_newF (w : World) (ns : List Nd) (hm : ns.length ≤ maxLen) : NsIn (w.alloc (.cells (nsCells ns).toArray 44 (0, 0))) (.slice (some ⟨w.heap.size, 0, none⟩) ns.length ns.length) ns := by
  have e : (w.alloc (.cells (nsCells ns).toArray 44 (0, 0))).heap[w.heap.size]? = some (.cells (nsCells ns).toArray 44 (0, 0)) := by
    show (w.heap.push _)[w.heap.size]? = _
    simp
  have h : NsOwn (w.alloc (.cells (nsCells ns).toArray 44 (0, 0))) w.heap.size (.slice (some ⟨w.heap.size, 0, none⟩) ns.length ns.length) ns :=
    ⟨nsCells_len ns, Or.inr ⟨w.heap.size, ns.length, _, rfl, Nat.le_refl _, e, Nat.le_refl _, hm, by simp [nsCells_len], by simp [← nsCells_len]⟩⟩
  exact h.isIn hm
theorem kA_wfF : kA.wf := ⟨by decide, by decide, by decide, by decide⟩
theorem z4_wfF : z4.wf := ⟨by decide, by decide, by decide, by decide⟩
/-- The letter a. -/
abbrev tLa : Rx := .leaf ⟨1, kA⟩
/-- The letter a, as op says (5: as often as one likes, 6: once at least). -/
abbrev tOp (op : Int) : Rx := .one ⟨op, z4⟩ tLa
theorem tLa_ok : tLa.Ok := rfl
theorem tLa_wf : ∀ n ∈ tLa.flat, n.wf := by
  intro n hn
  simp [Rx.flat] at hn
  subst hn
  exact ⟨by decide, kA_wfF⟩
theorem tLa_fault : faultL tLa.flat = 0 := by
  rw [faultL_zero]
  refine ⟨by simp [Rx.flat], ?_, ?_⟩
  · intro n hn
    simp [Rx.flat] at hn
    subst hn
    exact ⟨by simp, Or.inl rfl⟩
  · have := endF_flat tLa tLa_ok [] [] (tLa.flat.length + 1) (by omega)
    simpa [endE] using this
theorem tOp_ok {op : Int} (h : op = 5 ∨ op = 6) : (tOp op).Ok := by
  refine ⟨?_, rfl⟩
  rcases h with rfl | rfl <;> rfl
theorem tOp_wf {op : Int} (h : op = 5 ∨ op = 6) : ∀ n ∈ (tOp op).flat, n.wf := by
  intro n hn
  simp [Rx.flat] at hn
  rcases hn with rfl | rfl
  · exact ⟨by rcases h with rfl | rfl <;> decide, z4_wfF⟩
  · exact ⟨by decide, kA_wfF⟩
theorem tOp_fault {op : Int} (h : op = 5 ∨ op = 6) : faultL (tOp op).flat = 0 := by
  rw [faultL_zero]
  refine ⟨by simp [Rx.flat], ?_, ?_⟩
  · intro n hn
    simp [Rx.flat] at hn
    rcases hn with rfl | rfl
    · exact ⟨by simp only; omega, Or.inr (show z4.eqb z4 = true by decide)⟩
    · exact ⟨by simp, Or.inl rfl⟩
  · have := endF_flat (tOp op) (tOp_ok h) [] [] ((tOp op).flat.length + 1) (by omega)
    simpa [endE] using this
theorem fitA (s : List UInt8) (i j : Nat) : Fit s tLa i j ↔ ∃ c, s[i]? = some c ∧ kA.has c.toNat = true ∧ j = i + 1 := by
  simp only [Fit, if_true]
theorem fitA_yes {s : List UInt8} {i : Nat} (h : s[i]? = some 97) : Fit s tLa i (i + 1) := (fitA s i _).2 ⟨97, h, kA_ok.2, rfl⟩
theorem fitA_no {s : List UInt8} {i j : Nat} (h : s[i]? = some 98) : ¬ Fit s tLa i j := fun hf => by
  obtain ⟨c, hc, hh, _⟩ := (fitA s i j).1 hf
  rw [h] at hc
  obtain rfl := Option.some.inj hc
  have := kA_not.2.2
  rw [show (98 : UInt8).toNat = 98 from rfl, this] at hh
  cases hh
theorem fitA_out {s : List UInt8} {i j : Nat} (h : s.length ≤ i) : ¬ Fit s tLa i j := fun hf => by
  obtain ⟨c, hc, _⟩ := (fitA s i j).1 hf
  rw [List.getElem?_eq_none h] at hc
  cases hc
theorem fit5 (s : List UInt8) (i j : Nat) : Fit s (tOp 5) i j ↔ Str s.length (Fit s tLa) i j := by
  simp only [Fit, if_true]
theorem fit6 (s : List UInt8) (i j : Nat) : Fit s (tOp 6) i j ↔ ∃ k, Fit s tLa i k ∧ Str s.length (Fit s tLa) k j := by
  show (if (6 : Int) = 5 then _ else if (6 : Int) = 6 then _ else _) ↔ _
  rw [if_neg (by decide), if_pos rfl]
/-- What goes on in steps that end at M at most, ends there at most. -/
theorem str_most {N M : Nat} {R : Nat → Nat → Prop} (h : ∀ i j, R i j → j ≤ M) {i j : Nat} (hs : Str N R i j) : i ≤ M → j ≤ M := by
  induction hs with
  | nil i hi => exact id
  | cons i k j h1 _ ih => exact fun _ => ih (h i k h1)
theorem found_aa : FndR [97, 97] tLa 1 (some (1, 2)) :=
  ⟨Nat.le_refl _, fun k h1 h2 => by omega, fitA_yes rfl, fun c hc => (fit_le _ _ _ _ hc).2⟩
theorem found_baab : FndR [98, 97, 97, 98] (tOp 6) 0 (some (1, 3)) := by
  refine ⟨by omega, fun k _ h2 j hj => ?_, ?_, fun c hc => ?_⟩
  · obtain rfl : k = 0 := by omega
    obtain ⟨m, hm, _⟩ := (fit6 _ _ _).1 hj
    exact fitA_no rfl hm
  · exact (fit6 _ _ _).2 ⟨2, fitA_yes rfl, .cons 2 3 3 (fitA_yes rfl) (.nil 3 (by decide))⟩
  · obtain ⟨m, hm, hs⟩ := (fit6 _ _ _).1 hc
    obtain ⟨_, _, _, rfl⟩ := (fitA _ _ _).1 hm
    refine str_most (M := 3) (fun i j hij => ?_) hs (by omega)
    obtain ⟨d, hd, _, rfl⟩ := (fitA _ _ _).1 hij
    rcases Nat.lt_or_ge i 3 with h1 | h1
    · omega
    · rcases Nat.eq_or_lt_of_le h1 with rfl | h1
      · exact absurd hij (fitA_no rfl)
      · exact absurd hij (fitA_out (by simp; omega))
theorem found_ba : AllR [98, 97] (tOp 5) 0 [(0, 0), (1, 2), (2, 2)] := by
  refine .cons 0 (0, 0) _ ⟨Nat.le_refl _, fun k h1 h2 => by omega, (fit5 _ _ _).2 (.nil 0 (by decide)), fun c hc => ?_⟩ (.cons 1 (1, 2) _ ⟨Nat.le_refl _, fun k h1 h2 => (by omega), (fit5 _ _ _).2 (.cons 1 2 2 (fitA_yes rfl) (.nil 2 (by decide))), fun c hc => (fit_le _ _ _ _ hc).2⟩ (.cons 2 (2, 2) _ ⟨Nat.le_refl _, fun k h1 h2 => (by omega), (fit5 _ _ _).2 (.nil 2 (by decide)), fun c hc => (fit_le _ _ _ _ hc).2⟩ (.nil 3 (FndR.out (by decide)))))
  have hs := (fit5 _ _ _).1 hc
  cases hs with
  | nil _ _ => exact Nat.le_refl _
  | cons _ k _ h1 _ => exact absurd h1 (fitA_no rfl)
end Go.Proofs.YtphcncgdodhlbaaDoor
namespace Go.Proofs.YtphcncgdodhlbaaDoor
set_option linter.unusedSimpArgs false
set_option linter.unusedVariables false
set_option maxRecDepth 100000
open Go.RowKit
theorem scanL_small : ∀ ns, scanL ns = 0 ∨ scanL ns = 1 ∨ scanL ns = 2
  | [] => Or.inl rfl
  | n :: r => by
    unfold scanL
    split
    · exact Or.inr (Or.inl rfl)
    · split
      · exact Or.inr (Or.inr rfl)
      · exact scanL_small r
theorem faultL_ne4 (ns : List Nd) : ¬ faultL ns = 4 := by
  have h := scanL_small ns
  unfold faultL
  split
  · decide
  · split
    · omega
    · split <;> decide
theorem meanE_ne4 (ns : List Nd) (n : Nat) (i : Int) : ¬ meanE ns n i = 4 := by
  have h := faultL_ne4 ns
  unfold meanE meanF
  repeat' split
  all_goals first | decide | omega
end Go.Proofs.YtphcncgdodhlbaaDoor
namespace Go.Proofs.YtphcncgdodhlbaaDoor
set_option linter.unusedSimpArgs false
set_option linter.unusedVariables false
set_option maxRecDepth 100000
open Go.RowKit
theorem NoFit.ends {s : List UInt8} {t : Rx} {k : Nat} (h : NoFit s t k) : EndsR s t k [] := ⟨List.Pairwise.nil, fun j => ⟨fun hj => (by cases hj), fun hj => absurd hj (h j)⟩⟩
theorem last_of {l : List Nat} (h : l.Pairwise (· < ·)) {b : Nat} (hb : b ∈ l) (hm : ∀ c ∈ l, c ≤ b) : l[l.length - 1]? = some b := by
  rw [← List.getLast?_eq_getElem?]
  cases hc : l.getLast? with
  | none =>
    rw [List.getLast?_eq_none_iff.1 hc] at hb
    cases hb
  | some c =>
    have h1 := rise_last h hc b hb
    have h2 := hm c (List.mem_of_getLast? hc)
    congr 1
    omega
theorem fact_baab {X : World → Prop} (hXb : ∀ w w', X w → Below w.heap.size w w' → X w') (P : FindC X) (w : World) (hX : X w) :
    Calls Tryd.prog 10 #[.slice (some ⟨w.heap.size, 0, none⟩) 2 2, .string ⟨#[98, 97, 97, 98]⟩, .int .i64 0] (w.alloc (.cells #[.int .i64 6, .int .u64 0, .int .u64 0, .int .u64 0, .int .u64 0, .int .i64 1, .int .u64 kA.a, .int .u64 kA.b, .int .u64 kA.c, .int .u64 kA.d] 44)) fun e w' => e = .returned (.tuple #[.agg #[.int .i64 1, .int .i64 3], .nilIface]) ∧ Below w.heap.size w w' := by
  have hb : Below w.heap.size w (w.alloc (.cells #[.int .i64 6, .int .u64 0, .int .u64 0, .int .u64 0, .int .u64 0, .int .i64 1, .int .u64 kA.a, .int .u64 kA.b, .int .u64 kA.c, .int .u64 kA.d] 44)) := (Below.refl _ _).alloc (Nat.le_refl _) _
  refine (P.find (tOp 6) _ ⟨#[98, 97, 97, 98]⟩ 0 (some (1, 3)) _ (hXb w _ hX hb) (tOp_ok (Or.inr rfl)) (ns_newF w (tOp 6).flat (by simp [Rx.flat, maxLen])) (tOp_wf (Or.inr rfl)) ((meanE_zero _ _ _).2 ⟨tOp_fault (Or.inr rfl), by decide, by decide, by decide⟩) found_baab).mono ?_
  rintro e w' ⟨rfl, h⟩
  exact ⟨rfl, hb.trans (h.mono hb.size)⟩
set_option maxHeartbeats 8000000 in
theorem findFirst_bad {X : World → Prop} (hXb : ∀ w w', X w → Below w.heap.size w w' → X w') (P : FindC X) (N : MeanN) (ns : List Nd) (v : Value) (s : ByteArray) (hs : s.size ≤ maxLen) (i : Int) (w : World) (hX : X w) (hT : Tab w) (hN : NsIn w v ns) (wN : ∀ n ∈ ns, n.wf) (hE : w.cell? ⟨0, 0, none⟩ = some (rty 32)) (h0 : 0 < w.heap.size) (hf : ¬ meanE ns s.size i = 0) :
    Calls Tryd.prog 4 #[v, .string s, .int .i64 i] w fun e w' => e = .returned (.bool true) ∧ Below w.heap.size w w' := by
  have HO : Hid (∀ w', Below w.heap.size w w' → _) := fun w' _ => ofA w'
  have HF1 : Hid (∀ w', Below w.heap.size w w' → _) := fun w' hb => fact_baab hXb P w' (hXb w w' hX hb)
  have HFD : Hid (∀ w', Below w.heap.size w w' → _) := fun w' hb => P.bad ns v s i w' (hN.below hb) wN hs hf
  have HER : Hid (∀ w', Below w.heap.size w w' → _) := fun w' hb => error_any (meanE ns s.size i) 4 w' ((hb.cell (p := ⟨0, 0, none⟩) h0).trans hE)
  have e4 : (meanE ns s.size i == 4) = false := by rw [beq_eq_false_iff_ne]; exact meanE_ne4 ns s.size i
  rw [show errV (meanE ns s.size i) = .iface 23 (.int .i64 (meanE ns s.size i)) by unfold errV; rw [if_neg hf]] at HFD HER
  rw [e4] at HER
  clear e4
  have B := hid (Below.refl w.heap.size w)
  obtain ⟨va, vc, rfl, vm⟩ := nsIn_form hN
  unfold maxLen at hs
  clear hN P N hX hXb hT
  go_enter Tryd.func4, Tryd.ntmps4
  go_wp2_with fail
  refine Calls.mono (HO.out _ B.out) ?_
  rintro e w1 ⟨rfl, hb⟩
  replace B := hid (B.out.trans (hb.mono B.out.size))
  clear hb
  go_wp2_with fail
  refine Calls.mono (HF1.out _ B.out) ?_
  rintro e w2 ⟨rfl, hb⟩
  replace B := hid (B.out.trans (hb.mono B.out.size))
  clear hb
  replace B := hid (B.out.alloc B.out.size (.cells #[.int .i64 1, .int .i64 3] 28))
  go_wp2_with fail
  refine Calls.mono (HFD.out _ B.out) ?_
  rintro e w3 ⟨rfl, hb⟩
  replace B := hid (B.out.trans (hb.mono B.out.size))
  clear hb
  have BW := B
  replace B := hid (B.out.alloc B.out.size (.cells #[.int .i64 0, .int .i64 0] 28))
  go_wp2_with fail
  refine Calls.mono (HER.out _ B.out) ?_
  rintro e w4 ⟨rfl, hb⟩
  replace B := hid (B.out.trans (hb.mono B.out.size))
  clear hb
  go_wp2
  go_ret
  exact ⟨rfl, B.out⟩
set_option maxHeartbeats 16000000 in
theorem findFirst_none {X : World → Prop} (hXb : ∀ w w', X w → Below w.heap.size w w' → X w') (P : FindC X) (N : MeanN) (t : Rx) (ht : t.Ok) (v : Value) (s : ByteArray) (hs : s.size ≤ maxLen) (ii : Nat) (w : World) (hX : X w) (hT : Tab w) (hN : NsIn w v t.flat) (wN : ∀ n ∈ t.flat, n.wf) (hE : w.cell? ⟨0, 0, none⟩ = some (rty 32)) (h0 : 0 < w.heap.size) (hf : faultL t.flat = 0) (h4 : s.size ≤ 400) (hi : ii ≤ s.size) (hr : FndR s.data.toList t ii none) :
    Calls Tryd.prog 4 #[v, .string s, .int .i64 (ii : Int)] w fun e w' => e = .returned (.bool true) ∧ Below w.heap.size w w' := by
  have HO : Hid (∀ w', Below w.heap.size w w' → _) := fun w' _ => ofA w'
  have HF1 : Hid (∀ w', Below w.heap.size w w' → _) := fun w' hb => fact_baab hXb P w' (hXb w w' hX hb)
  have hlen : s.data.toList.length = s.size := by simp
  have HFD : Hid (∀ w', Below w.heap.size w w' → _) := fun w' hb => P.find t v s ii none w' (hXb w w' hX hb) ht (hN.below hb) wN ((meanE_zero _ _ _).2 ⟨hf, h4, by omega, by omega⟩) hr
  simp only [fndX, fndE, show errV 4 = .iface 23 (.int .i64 4) from rfl] at HFD
  have HER : Hid (∀ w', Below w.heap.size w w' → _) := fun w' hb => error_self 4 w' ((hb.cell (p := ⟨0, 0, none⟩) h0).trans hE)
  rw [show errV 4 = .iface 23 (.int .i64 4) from rfl] at HER
  have HME : Hid (∀ (k : Nat) l, k ≤ s.size → EndsR s.data.toList t k l → ∀ w', Below w.heap.size w w' → _) := fun k l hk hl w' hb => N.ends t v s k l w' (hT.below hb (Nat.le_refl _)) ht (hN.below hb) wN ((meanE_zero _ _ _).2 ⟨hf, h4, by omega, by omega⟩) hl
  have HNO : Hid (∀ k, ii ≤ k → k < s.size + 1 → EndsR s.data.toList t k []) := fun k h1 h2 => (hr k h1 (by omega)).ends
  have hiM : ii ≤ s.size + 1 := by omega
  have hwr : IntKind.i64.wrap ((s.size : Int) + 1) = (s.size : Int) + 1 := by rw [IntKind.wrap_i64]; omega
  have B := hid (Below.refl w.heap.size w)
  obtain ⟨va, vc, rfl, vm⟩ := nsIn_form hN
  unfold maxLen at hs
  clear hN P N hX hXb hT hr hf
  go_enter Tryd.func4, Tryd.ntmps4
  go_wp2_with fail
  refine Calls.mono (HO.out _ B.out) ?_
  rintro e w1 ⟨rfl, hb⟩
  replace B := hid (B.out.trans (hb.mono B.out.size))
  clear hb
  go_wp2_with fail
  refine Calls.mono (HF1.out _ B.out) ?_
  rintro e w2 ⟨rfl, hb⟩
  replace B := hid (B.out.trans (hb.mono B.out.size))
  clear hb
  replace B := hid (B.out.alloc B.out.size (.cells #[.int .i64 1, .int .i64 3] 28))
  go_wp2_with fail
  refine Calls.mono (HFD.out _ B.out) ?_
  rintro e w3 ⟨rfl, hb⟩
  replace B := hid (B.out.trans (hb.mono B.out.size))
  clear hb
  have BW := B
  replace B := hid (B.out.alloc B.out.size (.cells #[.int .i64 0, .int .i64 0] 28))
  go_wp2_with fail
  refine Calls.mono (HER.out _ B.out) ?_
  rintro e w4 ⟨rfl, hb⟩
  have hz4 : w4.heap[w3.heap.size]? = some (.cells #[.int .i64 0, .int .i64 0] 28 (0, 0)) := by
    rw [hb.block w3.heap.size (by simp)]
    exact (show (w3.heap.push _)[w3.heap.size]? = _ by simp)
  have z0 : w4.cell? ⟨w3.heap.size, 0, none⟩ = some (.int .i64 0) := (Lib.cell_of_heap hz4 0).trans rfl
  have f0 := Lib.frozen_of_heap hz4 0
  have hw3 : w.heap.size ≤ w3.heap.size := by
    have := BW.out.size
    exact this
  replace B := hid (B.out.trans (hb.mono B.out.size))
  clear hb
  obtain ⟨w5, hw5⟩ : ∃ W, w4.setCell ⟨w3.heap.size, 0, none⟩ (.int .i64 ((s.size : Int) + 1)) = W := ⟨_, rfl⟩
  replace B := hid (B.out.setCell (p := ⟨w3.heap.size, 0, none⟩) hw3 (.int .i64 ((s.size : Int) + 1)))
  rw [hw5] at B
  have hz5 : w5.heap[w3.heap.size]? = some (.cells #[.int .i64 ((s.size : Int) + 1), .int .i64 0] 28 (0, 0)) := by
    rw [← hw5]
    simp [World.setCell, Array.getElem?_modify, hz4]
  have HX : Hid (∀ w', Below w5.heap.size w5 w' → w'.cell? ⟨w3.heap.size, 0, none⟩ = some (.int .i64 ((s.size : Int) + 1)) ∧ w'.cell? ⟨w3.heap.size, 1, none⟩ = some (.int .i64 0)) := by
    intro w' hb
    have hl : w3.heap.size < w5.heap.size := (Array.getElem?_eq_some_iff.1 hz5).1
    exact ⟨(hb.cell (p := ⟨w3.heap.size, 0, none⟩) hl).trans ((Lib.cell_of_heap hz5 0).trans rfl), (hb.cell (p := ⟨w3.heap.size, 1, none⟩) hl).trans ((Lib.cell_of_heap hz5 1).trans rfl)⟩
  clear hz4 hz5
  go_wp2_with fail
  clear z0 f0 hw5
  go_loopw [12] (fun v' wr => ∃ k : Nat, ii ≤ k ∧ k ≤ (s.size + 1) ∧ v' = .int .i64 (k : Int) ∧ Hid (Below w5.heap.size w5 wr)) (fun v' _ => (s.size + 1) - (intOf v').toNat)
  case atStart => exact ⟨ii, Nat.le_refl _, hiM, rfl, Below.refl _ _⟩
  case round =>
    obtain ⟨k, hik, hkM, rfl, HB⟩ := hrel
    have HBw := hid (B.out.trans (HB.out.mono B.out.size))
    obtain ⟨x0, x1⟩ := HX.out wr HB.out
    by_cases hk : k < (s.size + 1)
    · have g1 : (k : Int) < (s.size : Int) + 1 := by omega
      have C := hid (HME.out k [] (by omega) (HNO.out k hik hk) wr HBw.out)
      clear x1
      go_wp2_with fail
      refine Calls.mono C.out ?_
      rintro e w9 ⟨u, rfl, hb, hu⟩
      obtain ⟨ua, uc, rfl, um⟩ := isIn_form hu
      have HB9 := hid (HB.out.trans (hb.mono HB.out.size))
      simp only [List.length_nil]
      clear hb hu C x0
      go_wp2
      exact ⟨⟨k + 1, by omega, by omega, by go_num, HB9⟩, by simp [intOf]; omega⟩
    · have g1 : ¬ (k : Int) < (s.size : Int) + 1 := by omega
      go_wp2
      go_ret
      exact ⟨rfl, HBw.out⟩
set_option maxHeartbeats 16000000 in
theorem findFirst_some {X : World → Prop} (hXb : ∀ w w', X w → Below w.heap.size w w' → X w') (P : FindC X) (N : MeanN) (t : Rx) (ht : t.Ok) (v : Value) (s : ByteArray) (hs : s.size ≤ maxLen) (ii : Nat) (w : World) (hX : X w) (hT : Tab w) (hN : NsIn w v t.flat) (wN : ∀ n ∈ t.flat, n.wf) (hE : w.cell? ⟨0, 0, none⟩ = some (rty 32)) (h0 : 0 < w.heap.size) (hf : faultL t.flat = 0) (h4 : s.size ≤ 400) (hi : ii ≤ s.size) (xa xb : Nat) (hr : FndR s.data.toList t ii (some (xa, xb))) :
    Calls Tryd.prog 4 #[v, .string s, .int .i64 (ii : Int)] w fun e w' => e = .returned (.bool true) ∧ Below w.heap.size w w' := by
  have HO : Hid (∀ w', Below w.heap.size w w' → _) := fun w' _ => ofA w'
  have HF1 : Hid (∀ w', Below w.heap.size w w' → _) := fun w' hb => fact_baab hXb P w' (hXb w w' hX hb)
  have hlen : s.data.toList.length = s.size := by simp
  have HFD : Hid (∀ w', Below w.heap.size w w' → _) := fun w' hb => P.find t v s ii (some (xa, xb)) w' (hXb w w' hX hb) ht (hN.below hb) wN ((meanE_zero _ _ _).2 ⟨hf, h4, by omega, by omega⟩) hr
  simp only [fndX, fndE, show errV 0 = .nilIface from rfl] at HFD
  have HME : Hid (∀ (k : Nat) l, k ≤ s.size → EndsR s.data.toList t k l → ∀ w', Below w.heap.size w w' → _) := fun k l hk hl w' hb => N.ends t v s k l w' (hT.below hb (Nat.le_refl _)) ht (hN.below hb) wN ((meanE_zero _ _ _).2 ⟨hf, h4, by omega, by omega⟩) hl
  have hle := hr.le
  have HNO : Hid (∀ k, ii ≤ k → k < xa → EndsR s.data.toList t k []) := fun k h1 h2 => (hr.2.1 k h1 h2).ends
  obtain ⟨l, hl⟩ := ends_total s.data.toList t xa
  have hxl : xb ∈ l := (hl.2 xb).2 hr.2.2.1
  have hla := last_of hl.1 hxl (fun c hc => hr.2.2.2 c ((hl.2 c).1 hc))
  have hl0 : 0 < l.length := List.length_pos_of_mem hxl
  have hll := hl.len
  have HML : Hid (∀ w', Below w.heap.size w w' → _) := fun w' hb => HME.out xa l (by omega) hl w' hb
  have HLA := hid hla
  have hiM : ii ≤ xa := by omega
  have B := hid (Below.refl w.heap.size w)
  obtain ⟨va, vc, rfl, vm⟩ := nsIn_form hN
  unfold maxLen at hs
  clear hN P N hX hXb hT hr hf hl hxl hla
  go_enter Tryd.func4, Tryd.ntmps4
  go_wp2_with fail
  refine Calls.mono (HO.out _ B.out) ?_
  rintro e w1 ⟨rfl, hb⟩
  replace B := hid (B.out.trans (hb.mono B.out.size))
  clear hb
  go_wp2_with fail
  refine Calls.mono (HF1.out _ B.out) ?_
  rintro e w2 ⟨rfl, hb⟩
  replace B := hid (B.out.trans (hb.mono B.out.size))
  clear hb
  replace B := hid (B.out.alloc B.out.size (.cells #[.int .i64 1, .int .i64 3] 28))
  go_wp2_with fail
  refine Calls.mono (HFD.out _ B.out) ?_
  rintro e w3 ⟨rfl, hb⟩
  replace B := hid (B.out.trans (hb.mono B.out.size))
  clear hb
  have BW := B
  replace B := hid (B.out.alloc B.out.size (.cells #[.int .i64 (xa : Int), .int .i64 (xb : Int)] 28))
  obtain ⟨w5, hw5⟩ : ∃ W, w3.alloc (.cells #[.int .i64 (xa : Int), .int .i64 (xb : Int)] 28) = W := ⟨_, rfl⟩
  have HX : Hid (∀ w', Below w5.heap.size w5 w' → w'.cell? ⟨w3.heap.size, 0, none⟩ = some (.int .i64 (xa : Int)) ∧ w'.cell? ⟨w3.heap.size, 1, none⟩ = some (.int .i64 (xb : Int))) := by
    intro w' hb
    have hl : w3.heap.size < w5.heap.size := by rw [← hw5]; simp
    exact ⟨(hb.cell (p := ⟨w3.heap.size, 0, none⟩) hl).trans (by rw [← hw5]; simp), (hb.cell (p := ⟨w3.heap.size, 1, none⟩) hl).trans (by rw [← hw5]; simp)⟩
  rw [hw5] at B
  go_wp2_with fail
  clear hw5
  go_loopw [12] (fun v' wr => ∃ k : Nat, ii ≤ k ∧ k ≤ xa ∧ v' = .int .i64 (k : Int) ∧ Hid (Below w5.heap.size w5 wr)) (fun v' _ => xa - (intOf v').toNat)
  case atStart => exact ⟨ii, Nat.le_refl _, hiM, rfl, Below.refl _ _⟩
  case round =>
    obtain ⟨k, hik, hkM, rfl, HB⟩ := hrel
    have HBw := hid (B.out.trans (HB.out.mono B.out.size))
    obtain ⟨x0, x1⟩ := HX.out wr HB.out
    by_cases hk : k < xa
    · have g1 : (k : Int) < (xa : Int) := by omega
      have C := hid (HME.out k [] (by omega) (HNO.out k hik hk) wr HBw.out)
      clear x1
      go_wp2_with fail
      refine Calls.mono C.out ?_
      rintro e w9 ⟨u, rfl, hb, hu⟩
      obtain ⟨ua, uc, rfl, um⟩ := isIn_form hu
      have HB9 := hid (HB.out.trans (hb.mono HB.out.size))
      simp only [List.length_nil]
      clear hb hu C x0
      go_wp2
      exact ⟨⟨k + 1, by omega, by omega, by go_num, HB9⟩, by simp [intOf]; omega⟩
    · have g1 : ¬ (k : Int) < (xa : Int) := by omega
      obtain rfl : k = xa := by omega
      have C := hid (HML.out wr HBw.out)
      clear x1
      go_wp2_with fail
      refine Calls.mono C.out ?_
      rintro e w9 ⟨u, rfl, hb, hu⟩
      obtain ⟨ua, uc, rfl, um, hu0 | ⟨gb, go, rfl, glt, gat⟩⟩ := hu
      · rw [hu0] at hl0; simp at hl0
      have hg := gat (l.length - 1) xb HLA.out
      obtain ⟨y0, y1⟩ := HX.out w9 (HB.out.trans (hb.mono HB.out.size))
      have RC : Hid ((∀ d os, (Go.Sort.grow (redrawn w9 d) os).cell? ⟨w3.heap.size, 0, none⟩ = some (.int .i64 (k : Int))) ∧ (∀ d os, (Go.Sort.grow (redrawn w9 d) os).cell? ⟨w3.heap.size, 1, none⟩ = some (.int .i64 (xb : Int))) ∧ (∀ d os, (Go.Sort.grow (redrawn w9 d) os).cell? ⟨gb, go + (l.length - 1), none⟩ = some (.int .i64 (xb : Int)))) := ⟨cell_regrown y0, cell_regrown y1, cell_regrown hg⟩
      have HB9 := hid (HBw.out.trans (hb.mono HBw.out.size))
      have e2 : (0 : Int) < (l.length : Int) := by omega
      have d2 : decide ((0 : Int) < (l.length : Int)) = true := by simp only [e2, decide_true]
      have d3 : decide (0 < l.length) = true := by simp only [hl0, decide_true]
      have d4 : decide ((ii : Int) ≤ (k : Int)) = true := by simp; omega
      have d5 : decide (ii ≤ k) = true := by simp; omega
      have d6 : (ii : Int) ≤ (k : Int) := by omega
      have hw1 : IntKind.i64.wrap ((l.length : Int) - 1) = ((l.length - 1 : Nat) : Int) := by rw [IntKind.wrap_i64]; omega
      have e3 : ((l.length - 1 : Nat) : Int) < (l.length : Int) := by omega
      have e5 : (0 : Int) ≤ ((l.length - 1 : Nat) : Int) := by omega
      clear hb C x0 gat hg y0 y1
      go_wp2_with fail
      obtain ⟨r0, r1, r2⟩ := RC.out
      refine wp_region_quiet_below (by kernel_rfl) (by kernel_rfl) ?_
      repeat (go_big_quiet_step (fail))
      refine wpQuiet_nil ?_
      intro _ hw'
      obtain ⟨⟨dq, osq⟩, hw''⟩ := hw'
      have B2 : Hid (Below w.heap.size w (Go.Sort.grow (redrawn w9 dq) osq)) := HB9.out.trans ((below_regrown w9 dq osq).mono HB9.out.size)
      subst hw''
      generalize Go.Sort.grow (redrawn w9 dq) osq = W at *
      clear RC r0 r1 r2
      go_wp2
      go_ret
      exact ⟨rfl, B2.out⟩
theorem findFirst_any {X : World → Prop} (hXb : ∀ w w', X w → Below w.heap.size w w' → X w') (P : FindC X) (N : MeanN) (ns : List Nd) (v : Value) (s : ByteArray) (hs : s.size ≤ maxLen) (i : Int) (w : World) (hX : X w) (hT : Tab w) (hN : NsIn w v ns) (wN : ∀ n ∈ ns, n.wf) (hE : w.cell? ⟨0, 0, none⟩ = some (rty 32)) (h0 : 0 < w.heap.size) :
    Calls Tryd.prog 4 #[v, .string s, .int .i64 i] w fun e w' => e = .returned (.bool true) ∧ Below w.heap.size w w' := by
  by_cases hE' : meanE ns s.size i = 0
  · obtain ⟨hf, h4, hi0, hi1⟩ := (meanE_zero _ _ _).1 hE'
    obtain ⟨t, ht, rfl⟩ := tree_of ns ((faultL_zero ns).1 hf).2.2
    obtain ⟨ii, rfl⟩ : ∃ ii : Nat, i = (ii : Int) := ⟨i.toNat, by omega⟩
    obtain ⟨r, hr⟩ := fnd_total s.data.toList t _ ii (Nat.le_refl _)
    cases r with
    | none => exact findFirst_none hXb P N t ht v s hs ii w hX hT hN wN hE h0 hf h4 (by omega) hr
    | some x =>
      obtain ⟨x, y⟩ := x
      exact findFirst_some hXb P N t ht v s hs ii w hX hT hN wN hE h0 hf h4 (by omega) x y hr
  · exact findFirst_bad hXb P N ns v s hs i w hX hT hN wN hE h0 hE'
end Go.Proofs.YtphcncgdodhlbaaDoor
namespace Go.Proofs.YtphcncgdodhlbaaDoor
set_option linter.unusedSimpArgs false
set_option linter.unusedVariables false
open Go.RowKit

/-- Block b holds a set of places. -/
def Hp (w : World) (b : Nat) (p : Nat → Bool) : Prop := w.heap[b]? = some (.cells #[.int .u64 (wd p 0), .int .u64 (wd p 1), .int .u64 (wd p 2), .int .u64 (wd p 3), .int .u64 (wd p 4), .int .u64 (wd p 5), .int .u64 (wd p 6)] 68 (0, 0))
theorem Hp.cell {w : World} {b : Nat} {p : Nat → Bool} (h : Hp w b p) (i : Nat) (hi : i < 7) : w.cell? ⟨b, i, none⟩ = some (.int .u64 (wd p i)) := by
  rw [Lib.cell_of_heap h]
  have := cellsP_get p i hi
  simpa [cellsP] using this
theorem Hp.frozen {w : World} {b : Nat} {p : Nat → Bool} (h : Hp w b p) (i : Nat) : w.frozen? ⟨b, i, none⟩ = false := Lib.frozen_of_heap h i
theorem Hp.all {w : World} {b : Nat} {p : Nat → Bool} (h : Hp w b p) : w.cell? ⟨b, 0, none⟩ = some (.int .u64 (wd p 0)) ∧ w.cell? ⟨b, 1, none⟩ = some (.int .u64 (wd p 1)) ∧ w.cell? ⟨b, 2, none⟩ = some (.int .u64 (wd p 2)) ∧ w.cell? ⟨b, 3, none⟩ = some (.int .u64 (wd p 3)) ∧ w.cell? ⟨b, 4, none⟩ = some (.int .u64 (wd p 4)) ∧ w.cell? ⟨b, 5, none⟩ = some (.int .u64 (wd p 5)) ∧ w.cell? ⟨b, 6, none⟩ = some (.int .u64 (wd p 6)) :=
  ⟨h.cell 0 (by decide), h.cell 1 (by decide), h.cell 2 (by decide), h.cell 3 (by decide), h.cell 4 (by decide), h.cell 5 (by decide), h.cell 6 (by decide)⟩
theorem Hp.frz {w : World} {b : Nat} {p : Nat → Bool} (h : Hp w b p) : w.frozen? ⟨b, 0, none⟩ = false ∧ w.frozen? ⟨b, 1, none⟩ = false ∧ w.frozen? ⟨b, 2, none⟩ = false ∧ w.frozen? ⟨b, 3, none⟩ = false ∧ w.frozen? ⟨b, 4, none⟩ = false ∧ w.frozen? ⟨b, 5, none⟩ = false ∧ w.frozen? ⟨b, 6, none⟩ = false :=
  ⟨h.frozen 0, h.frozen 1, h.frozen 2, h.frozen 3, h.frozen 4, h.frozen 5, h.frozen 6⟩
theorem Hp.lt {w : World} {b : Nat} {p : Nat → Bool} (h : Hp w b p) : b < w.heap.size := by
  rcases Nat.lt_or_ge b w.heap.size with h' | h'
  · exact h'
  · simp [Hp, Array.getElem?_eq_none h'] at h
theorem Hp.drew {w : World} {b : Nat} {p : Nat → Bool} (h : Hp w b p) : Hp w.drew b p := h
theorem Hp.below {w w' : World} {B b : Nat} {p : Nat → Bool} (h : Hp w b p) (hb : Below B w w') (hlt : b < B) : Hp w' b p := (hb.block b hlt).trans h
theorem Hp.grown {w w' : World} {b : Nat} {p : Nat → Bool} {row : Option Nat} (h : Hp w b p) (hg : w.grownBy w' row) (hne : some b ≠ row) : Hp w' b p := (hg.block b h.lt hne).trans h
theorem Hp.alloc {w : World} {b : Nat} {p : Nat → Bool} (h : Hp w b p) (o : Obj) : Hp (w.alloc o) b p := (Below.heap_alloc w o b h.lt).trans h
theorem Hp.new (w : World) (p : Nat → Bool) (b : Nat) (hb : b = w.heap.size) : Hp (w.alloc (.cells #[.int .u64 (wd p 0), .int .u64 (wd p 1), .int .u64 (wd p 2), .int .u64 (wd p 3), .int .u64 (wd p 4), .int .u64 (wd p 5), .int .u64 (wd p 6)] 68)) b p := by subst hb; exact heap_alloc_new w _
theorem Hp.zero (w : World) (b : Nat) (hb : b = w.heap.size) : Hp (w.alloc (.cells #[.int .u64 0, .int .u64 0, .int .u64 0, .int .u64 0, .int .u64 0, .int .u64 0, .int .u64 0] 68)) b noP := by
  subst hb
  unfold Hp
  rw [wd_no, wd_no, wd_no, wd_no, wd_no, wd_no, wd_no]
  exact heap_alloc_new w _
theorem Hp.congr {w : World} {b : Nat} {p q : Nat → Bool} (h : Hp w b p) (hpq : ∀ j, j < 448 → p j = q j) : Hp w b q := by
  have e := cellsP_congr hpq
  unfold cellsP at e
  unfold Hp at h ⊢
  rw [h]
  simp only [Option.some.injEq, Obj.cells.injEq, and_true]
  simpa using e
theorem Hp.other {w : World} {b : Nat} {p : Nat → Bool} (h : Hp w b p) (a : Addr) (v : Value) (hp : b ≠ a.block) : Hp (w.setCell a v) b p := (Below.heap_setCell w a v b hp).trans h
/-- One word is set. -/
theorem Hp.store {w : World} {b : Nat} {p q : Nat → Bool} (h : Hp w b p) (i : Nat) (hi : i < 7) (z : Int) (hs : (cellsP p).set i (.int .u64 z) = cellsP q) : Hp (w.setCell ⟨b, i, none⟩ (.int .u64 z)) b q := by
  unfold cellsP at hs
  unfold Hp at h ⊢
  simp [World.setCell, Array.getElem?_modify, h, hs]
/-- All seven words are set. -/
abbrev put7 (w : World) (b : Nat) (q : Nat → Bool) : World := ((((((w.setCell ⟨b, 0, none⟩ (.int .u64 (wd q 0))).setCell ⟨b, 1, none⟩ (.int .u64 (wd q 1))).setCell ⟨b, 2, none⟩ (.int .u64 (wd q 2))).setCell ⟨b, 3, none⟩ (.int .u64 (wd q 3))).setCell ⟨b, 4, none⟩ (.int .u64 (wd q 4))).setCell ⟨b, 5, none⟩ (.int .u64 (wd q 5))).setCell ⟨b, 6, none⟩ (.int .u64 (wd q 6))
theorem Hp.put7 {w : World} {b : Nat} {p : Nat → Bool} (h : Hp w b p) (q : Nat → Bool) : Hp (put7 w b q) b q := by
  unfold Hp at h ⊢
  simp [World.setCell, Array.getElem?_modify, h]
theorem Hp.other7 {w : World} {b c : Nat} {p : Nat → Bool} (h : Hp w b p) (q : Nat → Bool) (hc : b ≠ c) : Hp (Go.Proofs.YtphcncgdodhlbaaDoor.put7 w c q) b p :=
  ((((((h.other _ _ hc).other _ _ hc).other _ _ hc).other _ _ hc).other _ _ hc).other _ _ hc).other _ _ hc
theorem below_put7 {w0 w : World} {B b : Nat} (h : Below B w0 w) (hb : B ≤ b) (q : Nat → Bool) : Below B w0 (put7 w b q) :=
  ((((((h.setCell hb _).setCell hb _).setCell hb _).setCell hb _).setCell hb _).setCell hb _).setCell hb _
theorem put7_size (w : World) (b : Nat) (q : Nat → Bool) : (put7 w b q).heap.size = w.heap.size := by simp [World.setCell]
theorem grown_set (w : World) (b i : Nat) (v : Value) : w.grownBy (w.setCell ⟨b, i, none⟩ v) (some b) :=
  ⟨rfl, rfl, rfl, by simp [World.setCell], fun k _ hk => Below.heap_setCell _ _ _ _ (fun e => hk (by rw [e]))⟩
theorem grown_put7 (w : World) (b : Nat) (q : Nat → Bool) : w.grownBy (put7 w b q) (some b) :=
  ((((((grown_set w b 0 _).trans (grown_set _ b 1 _)).trans (grown_set _ b 2 _)).trans (grown_set _ b 3 _)).trans (grown_set _ b 4 _)).trans (grown_set _ b 5 _)).trans (grown_set _ b 6 _)
theorem below_grown {w w' : World} (h : Below w.heap.size w w') (row : Option Nat) : w.grownBy w' row := ⟨h.1, h.2, h.3, h.size, fun i hi _ => h.block i hi⟩
theorem agg7 {p q : Nat → Bool} (h : p = q) : Ending.returned (plV p) = .returned (plV q) := by rw [h]
end Go.Proofs.YtphcncgdodhlbaaDoor
