/- class.Of. class.Of at one letter. The laws' own patterns: the letter a, once, as often as one likes, once at least; what is found of them. -/
import Derived.Test.YteobcgajaebabaaDoorY04
import Derived.Test.YteobcgajaebabaaDoorY02
namespace Go.Proofs.YteobcgajaebabaaDoor
set_option linter.unusedSimpArgs false
set_option linter.unusedVariables false
set_option maxRecDepth 100000
open Go.RowKit
set_option maxHeartbeats 1000000 in
theorem of_any (s : ByteArray) (w : World) (hs : s.size ≤ maxLen) :
    Calls Tryd.prog 14 #[.string s] w fun e w' => e = .returned (C4.ofL s.data.toList).v ∧ Below w.heap.size w w' := by
  unfold maxLen at hs
  go_enter Tryd.func14, Tryd.ntmps14
  go_wp2
  go_loopw [7] (fun i wr => ∃ k : Nat, k ≤ s.size ∧ i = .int .i64 k ∧ Below w.heap.size w wr ∧ Hb wr w.heap.size z4 ∧ Hb wr (w.heap.size + 1) (C4.ofL (s.data.toList.take k))) (fun i _ => s.size - (intOf i).toNat)
  case atStart =>
    refine ⟨0, by omega, rfl, ?_, ?_, ?_⟩
    · exact ((Below.refl _ _).alloc (Nat.le_refl _) _).alloc (by simp) _
    · exact (Hb.new _ z4 _ rfl).alloc _
    · exact Hb.new _ z4 _ (by simp)
  case round =>
    obtain ⟨k, hk, rfl, hB, hZ, hC⟩ := hrel
    by_cases hlt : k < s.size
    · obtain ⟨c0, c1, c2, c3, e0, e1, e2, e3⟩ := hC.all
      have i0 : (0 : Int) ≤ (k : Int) := by omega
      have i1 : (k : Int) < (s.size : Int) := by omega
      have hg : s.data.toList[k]? = some s[k] := by
        rw [List.getElem?_eq_getElem (by simpa using hlt)]; rfl
      have hts : s.data.toList.take (k + 1) = s.data.toList.take k ++ [s[k]] := by
        rw [List.take_succ_eq_append_getElem (by simpa using hlt)]; rfl
      have HT : Hid (C4.ofL (s.data.toList.take (k + 1)) = (C4.ofL (s.data.toList.take k)).add (s[k].toNat : Int)) := by rw [hts, C4.ofL_snoc]; exact rfl
      clear hts hg
      have hlb : (s[k].toNat : Int) < 256 := by have := s[k].toNat_lt; omega
      have hl0 : (0 : Int) ≤ (s[k].toNat : Int) := by omega
      go_wp2_with fail
      go_region_with (first | (go_at_call 23; refine (with_any (C4.ofL (s.data.toList.take k)) _ _ hl0 hlb).mono ?_; rintro e w' ⟨rfl, hb⟩; have hC1 := Hb.below hC.drew hb hC.lt; obtain ⟨g0, g1, g2, g3, q0, q1, q2, q3⟩ := hC1.all))
      all_goals
        go_wp2
        refine ⟨⟨k + 1, by omega, by go_num, ?_, ?_, ?_⟩, by simp [intOf]; omega⟩
        · exact below_put4 (hB.drew.trans (hb.mono hB.size)) (by omega) _
        · exact Hb.other4 (Hb.below hZ.drew hb hZ.lt) _ (by omega)
        · rw [HT.out]; exact hC1.put4 _
    · have hk4 : k = s.size := by omega
      subst hk4
      have ht : s.data.toList.take s.size = s.data.toList := List.take_of_length_le (by simp)
      rw [ht] at hC
      clear ht
      obtain ⟨c0, c1, c2, c3, e0, e1, e2, e3⟩ := hC.all
      obtain ⟨d0, d1, d2, d3, f0, f1, f2, f3⟩ := hZ.all
      go_wp2
      have hq := hZ.put4 (C4.ofL s.data.toList)
      refine bodyPost_ret (v := (C4.ofL s.data.toList).v) (by simp [results, Tryd.results14, go_sem, hq.c0, hq.c1, hq.c2, hq.c3]) rfl ⟨rfl, ?_⟩
      exact below_put4 hB (by omega) _
end Go.Proofs.YteobcgajaebabaaDoor
namespace Go.Proofs.YteobcgajaebabaaDoor
set_option linter.unusedSimpArgs false
set_option linter.unusedVariables false
open Go.RowKit
def kA : C4 := C4.ofL [97]
def kB : C4 := C4.ofL [98]
theorem ofA : ∀ w, Calls Tryd.prog 14 #[.string ⟨#[97]⟩] w fun e w' => e = .returned kA.v ∧ Below w.heap.size w w' := fun w => of_any ⟨#[97]⟩ w (by decide)
theorem ofB : ∀ w, Calls Tryd.prog 14 #[.string ⟨#[98]⟩] w fun e w' => e = .returned kB.v ∧ Below w.heap.size w w' := fun w => of_any ⟨#[98]⟩ w (by decide)
theorem kA_ok : kA.ok ∧ kA.has 97 = true := ⟨ofL_ok _, by unfold kA; rw [ofL_has _ _ (by decide)]; decide⟩
theorem kB_ok : kB.ok ∧ kB.has 98 = true := ⟨ofL_ok _, by unfold kB; rw [ofL_has _ _ (by decide)]; decide⟩
theorem kA_not : kA.ok ∧ kA.has 97 = true ∧ kA.has 98 = false := ⟨ofL_ok _, kA_ok.2, by unfold kA; rw [ofL_has _ _ (by decide)]; decide⟩
end Go.Proofs.YteobcgajaebabaaDoor
namespace Go.Proofs.YteobcgajaebabaaDoor
set_option linter.unusedSimpArgs false
set_option linter.unusedVariables false
set_option maxRecDepth 100000
open Go.RowKit
theorem ns_newF (w : World) (ns : List Nd) (hm : ns.length ≤ maxLen) : NsIn (w.alloc (.cells (nsCells ns).toArray 44 (0, 0))) (.slice (some ⟨w.heap.size, 0, none⟩) ns.length ns.length) ns := by
  have e : (w.alloc (.cells (nsCells ns).toArray 44 (0, 0))).heap[w.heap.size]? = some (.cells (nsCells ns).toArray 44 (0, 0)) := by
    show (w.heap.push _)[w.heap.size]? = _
    simp
  have h : NsOwn (w.alloc (.cells (nsCells ns).toArray 44 (0, 0))) w.heap.size (.slice (some ⟨w.heap.size, 0, none⟩) ns.length ns.length) ns :=
    ⟨nsCells_len ns, Or.inr ⟨w.heap.size, ns.length, _, rfl, Nat.le_refl _, e, Nat.le_refl _, hm, by simp [nsCells_len], by simp [← nsCells_len]⟩⟩
  exact h.isIn hm
theorem kA_wfF : kA.wf := ⟨by decide, by decide, by decide, by decide⟩
theorem z4_wfF : z4.wf := ⟨by decide, by decide, by decide, by decide⟩
/-- The letter a. -/
abbrev tLa : Rx := .leaf ⟨1, kA⟩
/-- The letter a, as op says (5: as often as one likes, 6: once at least). -/
abbrev tOp (op : Int) : Rx := .one ⟨op, z4⟩ tLa
theorem tLa_ok : tLa.Ok := rfl
theorem tLa_wf : ∀ n ∈ tLa.flat, n.wf := by
  intro n hn
  simp [Rx.flat] at hn
  subst hn
  exact ⟨by decide, kA_wfF⟩
theorem tLa_fault : faultL tLa.flat = 0 := by
  rw [faultL_zero]
  refine ⟨by simp [Rx.flat], ?_, ?_⟩
  · intro n hn
    simp [Rx.flat] at hn
    subst hn
    exact ⟨by simp, Or.inl rfl⟩
  · have := endF_flat tLa tLa_ok [] [] (tLa.flat.length + 1) (by omega)
    simpa [endE] using this
theorem tOp_ok {op : Int} (h : op = 5 ∨ op = 6) : (tOp op).Ok := by
  refine ⟨?_, rfl⟩
  rcases h with rfl | rfl <;> rfl
theorem tOp_wf {op : Int} (h : op = 5 ∨ op = 6) : ∀ n ∈ (tOp op).flat, n.wf := by
  intro n hn
  simp [Rx.flat] at hn
  rcases hn with rfl | rfl
  · exact ⟨by rcases h with rfl | rfl <;> decide, z4_wfF⟩
  · exact ⟨by decide, kA_wfF⟩
theorem tOp_fault {op : Int} (h : op = 5 ∨ op = 6) : faultL (tOp op).flat = 0 := by
  rw [faultL_zero]
  refine ⟨by simp [Rx.flat], ?_, ?_⟩
  · intro n hn
    simp [Rx.flat] at hn
    rcases hn with rfl | rfl
    · exact ⟨by simp only; omega, Or.inr (show z4.eqb z4 = true by decide)⟩
    · exact ⟨by simp, Or.inl rfl⟩
  · have := endF_flat (tOp op) (tOp_ok h) [] [] ((tOp op).flat.length + 1) (by omega)
    simpa [endE] using this
theorem fitA (s : List UInt8) (i j : Nat) : Fit s tLa i j ↔ ∃ c, s[i]? = some c ∧ kA.has c.toNat = true ∧ j = i + 1 := by
  simp only [Fit, if_true]
theorem fitA_yes {s : List UInt8} {i : Nat} (h : s[i]? = some 97) : Fit s tLa i (i + 1) := (fitA s i _).2 ⟨97, h, kA_ok.2, rfl⟩
theorem fitA_no {s : List UInt8} {i j : Nat} (h : s[i]? = some 98) : ¬ Fit s tLa i j := fun hf => by
  obtain ⟨c, hc, hh, _⟩ := (fitA s i j).1 hf
  rw [h] at hc
  obtain rfl := Option.some.inj hc
  have := kA_not.2.2
  rw [show (98 : UInt8).toNat = 98 from rfl, this] at hh
  cases hh
theorem fitA_out {s : List UInt8} {i j : Nat} (h : s.length ≤ i) : ¬ Fit s tLa i j := fun hf => by
  obtain ⟨c, hc, _⟩ := (fitA s i j).1 hf
  rw [List.getElem?_eq_none h] at hc
  cases hc
theorem fit5 (s : List UInt8) (i j : Nat) : Fit s (tOp 5) i j ↔ Str s.length (Fit s tLa) i j := by
  simp only [Fit, if_true]
theorem fit6 (s : List UInt8) (i j : Nat) : Fit s (tOp 6) i j ↔ ∃ k, Fit s tLa i k ∧ Str s.length (Fit s tLa) k j := by
  show (if (6 : Int) = 5 then _ else if (6 : Int) = 6 then _ else _) ↔ _
  rw [if_neg (by decide), if_pos rfl]
/-- What goes on in steps that end at M at most, ends there at most. -/
theorem str_most {N M : Nat} {R : Nat → Nat → Prop} (h : ∀ i j, R i j → j ≤ M) {i j : Nat} (hs : Str N R i j) : i ≤ M → j ≤ M := by
  induction hs with
  | nil i hi => exact id
  | cons i k j h1 _ ih => exact fun _ => ih (h i k h1)
theorem found_aa : FndR [97, 97] tLa 1 (some (1, 2)) :=
  ⟨Nat.le_refl _, fun k h1 h2 => by omega, fitA_yes rfl, fun c hc => (fit_le _ _ _ _ hc).2⟩
theorem found_baab : FndR [98, 97, 97, 98] (tOp 6) 0 (some (1, 3)) := by
  refine ⟨by omega, fun k _ h2 j hj => ?_, ?_, fun c hc => ?_⟩
  · obtain rfl : k = 0 := by omega
    obtain ⟨m, hm, _⟩ := (fit6 _ _ _).1 hj
    exact fitA_no rfl hm
  · exact (fit6 _ _ _).2 ⟨2, fitA_yes rfl, .cons 2 3 3 (fitA_yes rfl) (.nil 3 (by decide))⟩
  · obtain ⟨m, hm, hs⟩ := (fit6 _ _ _).1 hc
    obtain ⟨_, _, _, rfl⟩ := (fitA _ _ _).1 hm
    refine str_most (M := 3) (fun i j hij => ?_) hs (by omega)
    obtain ⟨d, hd, _, rfl⟩ := (fitA _ _ _).1 hij
    rcases Nat.lt_or_ge i 3 with h1 | h1
    · omega
    · rcases Nat.eq_or_lt_of_le h1 with rfl | h1
      · exact absurd hij (fitA_no rfl)
      · exact absurd hij (fitA_out (by simp; omega))
theorem found_ba : AllR [98, 97] (tOp 5) 0 [(0, 0), (1, 2), (2, 2)] := by
  refine .cons 0 (0, 0) _ ⟨Nat.le_refl _, fun k h1 h2 => by omega, (fit5 _ _ _).2 (.nil 0 (by decide)), fun c hc => ?_⟩ (.cons 1 (1, 2) _ ⟨Nat.le_refl _, fun k h1 h2 => (by omega), (fit5 _ _ _).2 (.cons 1 2 2 (fitA_yes rfl) (.nil 2 (by decide))), fun c hc => (fit_le _ _ _ _ hc).2⟩ (.cons 2 (2, 2) _ ⟨Nat.le_refl _, fun k h1 h2 => (by omega), (fit5 _ _ _).2 (.nil 2 (by decide)), fun c hc => (fit_le _ _ _ _ hc).2⟩ (.nil 3 (FndR.out (by decide)))))
  have hs := (fit5 _ _ _).1 hc
  cases hs with
  | nil _ _ => exact Nat.le_refl _
  | cons _ k _ h1 _ => exact absurd h1 (fitA_no rfl)
end Go.Proofs.YteobcgajaebabaaDoor
