/- class.Of. class.Of at one letter. The laws' own patterns: the letter a, once, as often as one likes, once at least; what is found of them. What winnowfansame.Spans answers. The law FindAll, walked from what the document asks of package find. (Made by wip/tools/genfnb.py.) Programs: lists of steps, in memory; their faults. No function of the program. The program of a tree, as the landed package prog lays it: plain mathematics. -/
import Derived.Test.YteobcgajaebabaaDoorY04
import Derived.Test.YteobcgajaebabaaDoorY02
import Derived.Test.YteobcgajaebabaaDoorY03
import Derived.Deep.RegionHeld3
import Derived.BigQuiet
import Derived.Lib.QuietBelow
namespace Go.Proofs.YteobcgajaebabaaDoor
set_option linter.unusedSimpArgs false
set_option linter.unusedVariables false
set_option maxRecDepth 100000
open Go.RowKit
set_option maxHeartbeats 1000000 in
theorem of_any (s : ByteArray) (w : World) (hs : s.size ≤ maxLen) :
    Calls Tryd.prog 14 #[.string s] w fun e w' => e = .returned (C4.ofL s.data.toList).v ∧ Below w.heap.size w w' := by
  unfold maxLen at hs
  go_enter Tryd.func14, Tryd.ntmps14
  go_wp2
  go_loopw [7] (fun i wr => ∃ k : Nat, k ≤ s.size ∧ i = .int .i64 k ∧ Below w.heap.size w wr ∧ Hb wr w.heap.size z4 ∧ Hb wr (w.heap.size + 1) (C4.ofL (s.data.toList.take k))) (fun i _ => s.size - (intOf i).toNat)
  case atStart =>
    refine ⟨0, by omega, rfl, ?_, ?_, ?_⟩
    · exact ((Below.refl _ _).alloc (Nat.le_refl _) _).alloc (by simp) _
    · exact (Hb.new _ z4 _ rfl).alloc _
    · exact Hb.new _ z4 _ (by simp)
  case round =>
    obtain ⟨k, hk, rfl, hB, hZ, hC⟩ := hrel
    by_cases hlt : k < s.size
    · obtain ⟨c0, c1, c2, c3, e0, e1, e2, e3⟩ := hC.all
      have i0 : (0 : Int) ≤ (k : Int) := by omega
      have i1 : (k : Int) < (s.size : Int) := by omega
      have hg : s.data.toList[k]? = some s[k] := by
        rw [List.getElem?_eq_getElem (by simpa using hlt)]; rfl
      have hts : s.data.toList.take (k + 1) = s.data.toList.take k ++ [s[k]] := by
        rw [List.take_succ_eq_append_getElem (by simpa using hlt)]; rfl
      have HT : Hid (C4.ofL (s.data.toList.take (k + 1)) = (C4.ofL (s.data.toList.take k)).add (s[k].toNat : Int)) := by rw [hts, C4.ofL_snoc]; exact rfl
      clear hts hg
      have hlb : (s[k].toNat : Int) < 256 := by have := s[k].toNat_lt; omega
      have hl0 : (0 : Int) ≤ (s[k].toNat : Int) := by omega
      go_wp2_with fail
      go_region_with (first | (go_at_call 23; refine (with_any (C4.ofL (s.data.toList.take k)) _ _ hl0 hlb).mono ?_; rintro e w' ⟨rfl, hb⟩; have hC1 := Hb.below hC.drew hb hC.lt; obtain ⟨g0, g1, g2, g3, q0, q1, q2, q3⟩ := hC1.all))
      all_goals
        go_wp2
        refine ⟨⟨k + 1, by omega, by go_num, ?_, ?_, ?_⟩, by simp [intOf]; omega⟩
        · exact below_put4 (hB.drew.trans (hb.mono hB.size)) (by omega) _
        · exact Hb.other4 (Hb.below hZ.drew hb hZ.lt) _ (by omega)
        · rw [HT.out]; exact hC1.put4 _
    · have hk4 : k = s.size := by omega
      subst hk4
      have ht : s.data.toList.take s.size = s.data.toList := List.take_of_length_le (by simp)
      rw [ht] at hC
      clear ht
      obtain ⟨c0, c1, c2, c3, e0, e1, e2, e3⟩ := hC.all
      obtain ⟨d0, d1, d2, d3, f0, f1, f2, f3⟩ := hZ.all
      go_wp2
      have hq := hZ.put4 (C4.ofL s.data.toList)
      refine bodyPost_ret (v := (C4.ofL s.data.toList).v) (by simp [results, Tryd.results14, go_sem, hq.c0, hq.c1, hq.c2, hq.c3]) rfl ⟨rfl, ?_⟩
      exact below_put4 hB (by omega) _
end Go.Proofs.YteobcgajaebabaaDoor
namespace Go.Proofs.YteobcgajaebabaaDoor
set_option linter.unusedSimpArgs false
set_option linter.unusedVariables false
open Go.RowKit
def kA : C4 := C4.ofL [97]
def kB : C4 := C4.ofL [98]
theorem ofA : ∀ w, Calls Tryd.prog 14 #[.string ⟨#[97]⟩] w fun e w' => e = .returned kA.v ∧ Below w.heap.size w w' := fun w => of_any ⟨#[97]⟩ w (by decide)
theorem ofB : ∀ w, Calls Tryd.prog 14 #[.string ⟨#[98]⟩] w fun e w' => e = .returned kB.v ∧ Below w.heap.size w w' := fun w => of_any ⟨#[98]⟩ w (by decide)
theorem kA_ok : kA.ok ∧ kA.has 97 = true := ⟨ofL_ok _, by unfold kA; rw [ofL_has _ _ (by decide)]; decide⟩
theorem kB_ok : kB.ok ∧ kB.has 98 = true := ⟨ofL_ok _, by unfold kB; rw [ofL_has _ _ (by decide)]; decide⟩
theorem kA_not : kA.ok ∧ kA.has 97 = true ∧ kA.has 98 = false := ⟨ofL_ok _, kA_ok.2, by unfold kA; rw [ofL_has _ _ (by decide)]; decide⟩
end Go.Proofs.YteobcgajaebabaaDoor
namespace Go.Proofs.YteobcgajaebabaaDoor
set_option linter.unusedSimpArgs false
set_option linter.unusedVariables false
set_option maxRecDepth 100000
open Go.RowKit
theorem ns_newF (w : World) (ns : List Nd) (hm : ns.length ≤ maxLen) : NsIn (w.alloc (.cells (nsCells ns).toArray 44 (0, 0))) (.slice (some ⟨w.heap.size, 0, none⟩) ns.length ns.length) ns := by
  have e : (w.alloc (.cells (nsCells ns).toArray 44 (0, 0))).heap[w.heap.size]? = some (.cells (nsCells ns).toArray 44 (0, 0)) := by
    show (w.heap.push _)[w.heap.size]? = _
    simp
  have h : NsOwn (w.alloc (.cells (nsCells ns).toArray 44 (0, 0))) w.heap.size (.slice (some ⟨w.heap.size, 0, none⟩) ns.length ns.length) ns :=
    ⟨nsCells_len ns, Or.inr ⟨w.heap.size, ns.length, _, rfl, Nat.le_refl _, e, Nat.le_refl _, hm, by simp [nsCells_len], by simp [← nsCells_len]⟩⟩
  exact h.isIn hm
theorem kA_wfF : kA.wf := ⟨by decide, by decide, by decide, by decide⟩
theorem z4_wfF : z4.wf := ⟨by decide, by decide, by decide, by decide⟩
/-- The letter a. -/
abbrev tLa : Rx := .leaf ⟨1, kA⟩
/-- The letter a, as op says (5: as often as one likes, 6: once at least). -/
abbrev tOp (op : Int) : Rx := .one ⟨op, z4⟩ tLa
theorem tLa_ok : tLa.Ok := rfl
theorem tLa_wf : ∀ n ∈ tLa.flat, n.wf := by
  intro n hn
  simp [Rx.flat] at hn
  subst hn
  exact ⟨by decide, kA_wfF⟩
theorem tLa_fault : faultL tLa.flat = 0 := by
  rw [faultL_zero]
  refine ⟨by simp [Rx.flat], ?_, ?_⟩
  · intro n hn
    simp [Rx.flat] at hn
    subst hn
    exact ⟨by simp, Or.inl rfl⟩
  · have := endF_flat tLa tLa_ok [] [] (tLa.flat.length + 1) (by omega)
    simpa [endE] using this
theorem tOp_ok {op : Int} (h : op = 5 ∨ op = 6) : (tOp op).Ok := by
  refine ⟨?_, rfl⟩
  rcases h with rfl | rfl <;> rfl
theorem tOp_wf {op : Int} (h : op = 5 ∨ op = 6) : ∀ n ∈ (tOp op).flat, n.wf := by
  intro n hn
  simp [Rx.flat] at hn
  rcases hn with rfl | rfl
  · exact ⟨by rcases h with rfl | rfl <;> decide, z4_wfF⟩
  · exact ⟨by decide, kA_wfF⟩
theorem tOp_fault {op : Int} (h : op = 5 ∨ op = 6) : faultL (tOp op).flat = 0 := by
  rw [faultL_zero]
  refine ⟨by simp [Rx.flat], ?_, ?_⟩
  · intro n hn
    simp [Rx.flat] at hn
    rcases hn with rfl | rfl
    · exact ⟨by simp only; omega, Or.inr (show z4.eqb z4 = true by decide)⟩
    · exact ⟨by simp, Or.inl rfl⟩
  · have := endF_flat (tOp op) (tOp_ok h) [] [] ((tOp op).flat.length + 1) (by omega)
    simpa [endE] using this
theorem fitA (s : List UInt8) (i j : Nat) : Fit s tLa i j ↔ ∃ c, s[i]? = some c ∧ kA.has c.toNat = true ∧ j = i + 1 := by
  simp only [Fit, if_true]
theorem fitA_yes {s : List UInt8} {i : Nat} (h : s[i]? = some 97) : Fit s tLa i (i + 1) := (fitA s i _).2 ⟨97, h, kA_ok.2, rfl⟩
theorem fitA_no {s : List UInt8} {i j : Nat} (h : s[i]? = some 98) : ¬ Fit s tLa i j := fun hf => by
  obtain ⟨c, hc, hh, _⟩ := (fitA s i j).1 hf
  rw [h] at hc
  obtain rfl := Option.some.inj hc
  have := kA_not.2.2
  rw [show (98 : UInt8).toNat = 98 from rfl, this] at hh
  cases hh
theorem fitA_out {s : List UInt8} {i j : Nat} (h : s.length ≤ i) : ¬ Fit s tLa i j := fun hf => by
  obtain ⟨c, hc, _⟩ := (fitA s i j).1 hf
  rw [List.getElem?_eq_none h] at hc
  cases hc
theorem fit5 (s : List UInt8) (i j : Nat) : Fit s (tOp 5) i j ↔ Str s.length (Fit s tLa) i j := by
  simp only [Fit, if_true]
theorem fit6 (s : List UInt8) (i j : Nat) : Fit s (tOp 6) i j ↔ ∃ k, Fit s tLa i k ∧ Str s.length (Fit s tLa) k j := by
  show (if (6 : Int) = 5 then _ else if (6 : Int) = 6 then _ else _) ↔ _
  rw [if_neg (by decide), if_pos rfl]
/-- What goes on in steps that end at M at most, ends there at most. -/
theorem str_most {N M : Nat} {R : Nat → Nat → Prop} (h : ∀ i j, R i j → j ≤ M) {i j : Nat} (hs : Str N R i j) : i ≤ M → j ≤ M := by
  induction hs with
  | nil i hi => exact id
  | cons i k j h1 _ ih => exact fun _ => ih (h i k h1)
theorem found_aa : FndR [97, 97] tLa 1 (some (1, 2)) :=
  ⟨Nat.le_refl _, fun k h1 h2 => by omega, fitA_yes rfl, fun c hc => (fit_le _ _ _ _ hc).2⟩
theorem found_baab : FndR [98, 97, 97, 98] (tOp 6) 0 (some (1, 3)) := by
  refine ⟨by omega, fun k _ h2 j hj => ?_, ?_, fun c hc => ?_⟩
  · obtain rfl : k = 0 := by omega
    obtain ⟨m, hm, _⟩ := (fit6 _ _ _).1 hj
    exact fitA_no rfl hm
  · exact (fit6 _ _ _).2 ⟨2, fitA_yes rfl, .cons 2 3 3 (fitA_yes rfl) (.nil 3 (by decide))⟩
  · obtain ⟨m, hm, hs⟩ := (fit6 _ _ _).1 hc
    obtain ⟨_, _, _, rfl⟩ := (fitA _ _ _).1 hm
    refine str_most (M := 3) (fun i j hij => ?_) hs (by omega)
    obtain ⟨d, hd, _, rfl⟩ := (fitA _ _ _).1 hij
    rcases Nat.lt_or_ge i 3 with h1 | h1
    · omega
    · rcases Nat.eq_or_lt_of_le h1 with rfl | h1
      · exact absurd hij (fitA_no rfl)
      · exact absurd hij (fitA_out (by simp; omega))
theorem found_ba : AllR [98, 97] (tOp 5) 0 [(0, 0), (1, 2), (2, 2)] := by
  refine .cons 0 (0, 0) _ ⟨Nat.le_refl _, fun k h1 h2 => by omega, (fit5 _ _ _).2 (.nil 0 (by decide)), fun c hc => ?_⟩ (.cons 1 (1, 2) _ ⟨Nat.le_refl _, fun k h1 h2 => (by omega), (fit5 _ _ _).2 (.cons 1 2 2 (fitA_yes rfl) (.nil 2 (by decide))), fun c hc => (fit_le _ _ _ _ hc).2⟩ (.cons 2 (2, 2) _ ⟨Nat.le_refl _, fun k h1 h2 => (by omega), (fit5 _ _ _).2 (.nil 2 (by decide)), fun c hc => (fit_le _ _ _ _ hc).2⟩ (.nil 3 (FndR.out (by decide)))))
  have hs := (fit5 _ _ _).1 hc
  cases hs with
  | nil _ _ => exact Nat.le_refl _
  | cons _ k _ h1 _ => exact absurd h1 (fitA_no rfl)
end Go.Proofs.YteobcgajaebabaaDoor
namespace Go.Proofs.YteobcgajaebabaaDoor
set_option linter.unusedSimpArgs false
set_option linter.unusedVariables false
set_option maxRecDepth 100000
open Go.RowKit
/-- Two lists of spans are the same. -/
def spEq : List (Nat × Nat) → List (Nat × Nat) → Bool
  | [], [] => true
  | x :: r, y :: q => ((x.1 : Int) == (y.1 : Int) && (x.2 : Int) == (y.2 : Int)) && spEq r q
  | _, _ => false
theorem spEq_self : ∀ x, spEq x x = true
  | [] => rfl
  | x :: r => by simp [spEq, spEq_self r]
theorem spEq_iff : ∀ x y, spEq x y = true ↔ x = y
  | [], [] => by simp [spEq]
  | [], y :: q => by simp [spEq]
  | x :: r, [] => by simp [spEq]
  | x :: r, y :: q => by
    obtain ⟨a, b⟩ := x
    obtain ⟨c, d⟩ := y
    simp only [spEq, Bool.and_eq_true, spEq_iff r q, beq_iff_eq, List.cons.injEq, Prod.mk.injEq]
    constructor
    · rintro ⟨⟨h1, h2⟩, h3⟩; exact ⟨⟨by omega, by omega⟩, h3⟩
    · rintro ⟨⟨h1, h2⟩, h3⟩; exact ⟨⟨by omega, by omega⟩, h3⟩
theorem spEq_len : ∀ (x y : List (Nat × Nat)), x.length ≠ y.length → spEq x y = false := by
  intro x y h
  cases he : spEq x y with
  | false => rfl
  | true => exact absurd (congrArg List.length ((spEq_iff x y).1 he)) h
theorem spEq_drop : ∀ (x y : List (Nat × Nat)) (i : Nat) (n m : Nat × Nat), x[i]? = some n → y[i]? = some m → spEq (x.drop i) (y.drop i) = (((n.1 : Int) == (m.1 : Int) && (n.2 : Int) == (m.2 : Int)) && spEq (x.drop (i + 1)) (y.drop (i + 1)))
  | [], y, i, n, m, h, h' => by simp at h
  | x :: r, [], i, n, m, h, h' => by simp at h'
  | x :: r, y :: q, 0, n, m, h, h' => by
    simp at h h'
    subst h h'
    rfl
  | x :: r, y :: q, i + 1, n, m, h, h' => by
    simp only [List.drop_succ_cons]
    exact spEq_drop r q i n m (by simpa using h) (by simpa using h')
set_option maxHeartbeats 1000000 in
theorem spans_len (x y : List (Nat × Nat)) (a1 a2 : Option Addr) (c1 c2 : Nat) (h1 : x.length ≤ maxLen) (h2 : y.length ≤ maxLen) (hne : x.length ≠ y.length) (w : World) :
    Calls Tryd.prog 13 #[.slice a1 x.length c1, .slice a2 y.length c2] w fun e w' => e = .returned (.bool (spEq x y)) ∧ Below w.heap.size w w' := by
  rw [spEq_len x y hne]
  have hb : ((x.length : Int) != (y.length : Int)) = true := by rw [bne_iff_ne]; omega
  clear hne
  go_enter Tryd.func13, Tryd.ntmps13
  go_wp2
  go_ret
  exact ⟨rfl, Below.refl _ _⟩
set_option maxHeartbeats 4000000 in
theorem spans_same (x y : List (Nat × Nat)) (b1 o1 b2 o2 : Nat) (c1 c2 : Nat) (h1 : x.length ≤ maxLen) (hlen : x.length = y.length) (w : World) (hl1 : b1 < w.heap.size) (hl2 : b2 < w.heap.size) (hx : SpAt w b1 o1 x) (hy : SpAt w b2 o2 y) :
    Calls Tryd.prog 13 #[.slice (some ⟨b1, o1, none⟩) x.length c1, .slice (some ⟨b2, o2, none⟩) x.length c2] w fun e w' => e = .returned (.bool (spEq x y)) ∧ Below w.heap.size w w' := by
  unfold maxLen at h1
  have he := eqSp
  have HL := (show Hid _ from hlen)
  clear hlen
  go_enter Tryd.func13, Tryd.ntmps13
  go_wp2
  go_loopw [5] (fun v wr => ∃ i : Nat, i ≤ x.length ∧ v = .int .i64 i ∧ Hid (spEq x y = spEq (x.drop i) (y.drop i)) ∧ Below w.heap.size w wr) (fun v _ => x.length - (intOf v).toNat)
  case atStart => exact ⟨0, by omega, rfl, Eq.refl _, Below.refl _ _⟩
  case round =>
    obtain ⟨i, hi, rfl, HS, hB⟩ := hrel
    by_cases hil : i < x.length
    · obtain ⟨n, hn⟩ : ∃ n, x[i]? = some n := ⟨x[i], List.getElem?_eq_getElem hil⟩
      obtain ⟨m, hm⟩ : ∃ m, y[i]? = some m := ⟨y[i]'(by rw [← HL.out]; exact hil), List.getElem?_eq_getElem (by rw [← HL.out]; exact hil)⟩
      obtain ⟨a0, a1⟩ := (hx.below hB hl1) i n hn
      obtain ⟨d0, d1⟩ := (hy.below hB hl2) i m hm
      have HD : Hid _ := hid (spEq_drop x y i n m hn hm)
      have i0 : (0 : Int) ≤ (i : Int) := by omega
      have i1 : (i : Int) < (x.length : Int) := by omega
      clear hn hm
      obtain ⟨p, hp⟩ : ∃ p, p = ((n.1 : Int) == (m.1 : Int) && (n.2 : Int) == (m.2 : Int)) := ⟨_, rfl⟩
      have hq : ∀ w, (Op.equalIn 10000 28 (.agg #[.int .i64 (n.1 : Int), .int .i64 (n.2 : Int)]) (.agg #[.int .i64 (m.1 : Int), .int .i64 (m.2 : Int)])).run Tryd.prog w = .ok p w := fun w => by rw [hp]; exact he _ _ _ _ w
      rw [← hp] at HD
      clear he hp
      cases p
      · have HF : Hid (spEq x y = false) := by show _ = _; rw [HS.out, HD.out]; rfl
        go_wp2_with fail
        go_quiet (fail)
        go_wp2
        go_ret
        exact ⟨by rw [HF.out]; rfl, hB.trans ((below_drewN' wr nq).mono hB.size)⟩
      · have HF : Hid (spEq x y = spEq (x.drop (i + 1)) (y.drop (i + 1))) := by show _ = _; rw [HS.out, HD.out]; rfl
        go_wp2_with fail
        go_quiet (fail)
        go_wp2
        exact ⟨⟨i + 1, by omega, by go_num, HF, hB.trans ((below_drewN' wr nq).mono hB.size)⟩, by simp [intOf]; omega⟩
    · have HF : Hid (spEq x y = true) := by
        show _ = _
        have e1 : x.drop i = [] := List.drop_eq_nil_of_le (by omega)
        have e2 : y.drop i = [] := List.drop_eq_nil_of_le (by have := HL.out; omega)
        rw [HS.out, e1, e2]; rfl
      go_wp2
      go_ret
      exact ⟨by rw [HF.out]; rfl, hB⟩
set_option maxHeartbeats 1000000 in
theorem spans_nil (a1 a2 : Option Addr) (c1 c2 : Nat) (w : World) :
    Calls Tryd.prog 13 #[.slice a1 0 c1, .slice a2 0 c2] w fun e w' => e = .returned (.bool true) ∧ Below w.heap.size w w' := by
  go_enter Tryd.func13, Tryd.ntmps13
  go_wp2
  go_loop [5] (fun v => v = .int .i64 0) (fun _ => 0)
  case atStart => rfl
  case round =>
    subst hrel
    go_wp2
    go_ret
    exact ⟨rfl, Below.refl _ _⟩
theorem spans_any (x y : List (Nat × Nat)) (v u : Value) (w : World) (hx : SpIn w v x) (hy : SpIn w u y) :
    Calls Tryd.prog 13 #[v, u] w fun e w' => e = .returned (.bool (spEq x y)) ∧ Below w.heap.size w w' := by
  obtain ⟨a1, c1, rfl, h1, hx⟩ := hx
  obtain ⟨a2, c2, rfl, h2, hy⟩ := hy
  by_cases hlen : x.length = y.length
  · rcases hx with hx | ⟨b1, o1, rfl, hl1, hx⟩
    · subst hx
      have : y = [] := List.eq_nil_of_length_eq_zero (by simpa using hlen.symm)
      subst this
      exact spans_nil a1 a2 c1 c2 w
    · rcases hy with hy | ⟨b2, o2, rfl, hl2, hy⟩
      · subst hy
        have : x = [] := List.eq_nil_of_length_eq_zero (by simpa using hlen)
        subst this
        exact spans_nil _ a2 c1 c2 w
      · rw [← hlen]
        exact spans_same x y b1 o1 b2 o2 c1 c2 h1 hlen w hl1 hl2 hx hy
  · exact spans_len x y a1 a2 c1 c2 h1 h2 hlen w
end Go.Proofs.YteobcgajaebabaaDoor
namespace Go.Proofs.YteobcgajaebabaaDoor
set_option linter.unusedSimpArgs false
set_option linter.unusedVariables false
set_option maxRecDepth 100000
open Go.RowKit
theorem sp_newF (w : World) (l : List (Nat × Nat)) (hm : l.length ≤ maxLen) : SpIn (w.alloc (.cells (spCells l).toArray 28 (0, 0))) (.slice (some ⟨w.heap.size, 0, none⟩) l.length l.length) l := by
  have e : (w.alloc (.cells (spCells l).toArray 28 (0, 0))).heap[w.heap.size]? = some (.cells (spCells l).toArray 28 (0, 0)) := by
    show (w.heap.push _)[w.heap.size]? = _
    simp
  have h : SpOwn (w.alloc (.cells (spCells l).toArray 28 (0, 0))) w.heap.size (.slice (some ⟨w.heap.size, 0, none⟩) l.length l.length) l :=
    ⟨spCells_len l, Or.inr ⟨w.heap.size, l.length, _, rfl, Nat.le_refl _, e, Nat.le_refl _, hm, by simp [spCells_len], by simp [← spCells_len]⟩⟩
  exact h.isIn hm
theorem fact_ba {X : World → Prop} (hXb : ∀ w w', X w → Below w.heap.size w w' → X w') (L : FindL X) (w : World) (hX : X w) :
    Calls Tryd.prog 12 #[.slice (some ⟨w.heap.size, 0, none⟩) 2 2, .string ⟨#[98, 97]⟩] (w.alloc (.cells #[.int .i64 5, .int .u64 0, .int .u64 0, .int .u64 0, .int .u64 0, .int .i64 1, .int .u64 kA.a, .int .u64 kA.b, .int .u64 kA.c, .int .u64 kA.d] 44)) fun e w' => ∃ u, e = .returned (.tuple #[u, .nilIface]) ∧ Below w.heap.size w w' ∧ SpIn w' u [(0, 0), (1, 2), (2, 2)] := by
  have hb : Below w.heap.size w (w.alloc (.cells #[.int .i64 5, .int .u64 0, .int .u64 0, .int .u64 0, .int .u64 0, .int .i64 1, .int .u64 kA.a, .int .u64 kA.b, .int .u64 kA.c, .int .u64 kA.d] 44)) := (Below.refl _ _).alloc (Nat.le_refl _) _
  refine (L.all (tOp 5) _ ⟨#[98, 97]⟩ [(0, 0), (1, 2), (2, 2)] _ (hXb w _ hX hb) (tOp_ok (Or.inl rfl)) (ns_newF w (tOp 5).flat (by simp [Rx.flat, maxLen])) (tOp_wf (Or.inl rfl)) ((meanF_zero _ _).2 ⟨tOp_fault (Or.inl rfl), by decide⟩) found_ba).mono ?_
  rintro e w' ⟨u, rfl, h, hu⟩
  exact ⟨u, rfl, hb.trans (h.mono hb.size), hu⟩
set_option maxHeartbeats 8000000 in
theorem findAll_bad {X : World → Prop} (hXb : ∀ w w', X w → Below w.heap.size w w' → X w') (P : FindC X) (L : FindL X) (ns : List Nd) (v : Value) (s : ByteArray) (hs : s.size ≤ maxLen) (w : World) (hX : X w) (hN : NsIn w v ns) (wN : ∀ n ∈ ns, n.wf) (hf : ¬ meanF ns s.size = 0) :
    Calls Tryd.prog 5 #[v, .string s] w fun e w' => e = .returned (.bool true) ∧ Below w.heap.size w w' := by
  have HO : Hid (∀ w', Below w.heap.size w w' → _) := fun w' _ => ofA w'
  have HF1 : Hid (∀ w', Below w.heap.size w w' → _) := fun w' hb => fact_ba hXb L w' (hXb w w' hX hb)
  have HAL : Hid (∀ w', Below w.heap.size w w' → _) := fun w' hb => L.bad ns v s w' (hN.below hb) wN hs hf
  rw [show errV (meanF ns s.size) = .iface 23 (.int .i64 (meanF ns s.size)) by unfold errV; rw [if_neg hf]] at HAL
  have B := hid (Below.refl w.heap.size w)
  obtain ⟨va, vc, rfl, vm⟩ := nsIn_form hN
  clear hN P L hX hXb
  go_enter Tryd.func5, Tryd.ntmps5
  go_wp2_with fail
  refine Calls.mono (HO.out _ B.out) ?_
  rintro e w1 ⟨rfl, hb⟩
  replace B := hid (B.out.trans (hb.mono B.out.size))
  clear hb
  go_wp2_with fail
  refine Calls.mono (HF1.out _ B.out) ?_
  rintro e w2 ⟨u0, rfl, hb, hu0⟩
  replace B := hid (B.out.trans (hb.mono B.out.size))
  clear hb
  obtain ⟨ua0, uc0, rfl, um0⟩ := spIn_form hu0
  have HU0 := hid hu0
  clear hu0
  have hnew := sp_newF w2 [(0, 0), (1, 2), (2, 2)] (by simp [maxLen])
  have HS0 := hid (spans_any _ _ _ _ _ (HU0.out.below ((Below.refl _ _).alloc (Nat.le_refl _) (.cells #[.int .i64 0, .int .i64 0, .int .i64 1, .int .i64 2, .int .i64 2, .int .i64 2] 28))) hnew)
  rw [spEq_self] at HS0
  clear hnew
  go_wp2_with fail
  refine Calls.mono HS0.out ?_
  rintro e w3 ⟨rfl, hb⟩
  replace B := hid ((B.out.alloc B.out.size (.cells #[.int .i64 0, .int .i64 0, .int .i64 1, .int .i64 2, .int .i64 2, .int .i64 2] 28)).trans (hb.mono (B.out.alloc B.out.size (.cells #[.int .i64 0, .int .i64 0, .int .i64 1, .int .i64 2, .int .i64 2, .int .i64 2] 28)).size))
  clear hb HS0 HU0
  go_wp2_with fail
  refine Calls.mono (HAL.out _ B.out) ?_
  rintro e w4 ⟨u, rfl, hb, hu⟩
  replace B := hid (B.out.trans (hb.mono B.out.size))
  clear hb
  obtain ⟨ua, uc, rfl, um⟩ := spIn_form hu
  clear hu
  go_wp2
  go_ret
  exact ⟨rfl, B.out⟩
/-- Between two rounds: j spans are done, one stands at k. -/
def FaR (s : List UInt8) (t : Rx) (l : List (Nat × Nat)) (j k : Nat) : Prop := ∃ r, l.drop j = r ∧ AllR s t k r ∧ k ≤ s.length + 1
set_option maxHeartbeats 16000000 in
theorem findAll_ok {X : World → Prop} (hXb : ∀ w w', X w → Below w.heap.size w w' → X w') (P : FindC X) (L : FindL X) (t : Rx) (ht : t.Ok) (v : Value) (s : ByteArray) (hs : s.size ≤ maxLen) (w : World) (hX : X w) (hN : NsIn w v t.flat) (wN : ∀ n ∈ t.flat, n.wf) (hE : w.cell? ⟨0, 0, none⟩ = some (rty 32)) (h0 : 0 < w.heap.size) (hf : meanF t.flat s.size = 0) :
    Calls Tryd.prog 5 #[v, .string s] w fun e w' => e = .returned (.bool true) ∧ Below w.heap.size w w' := by
  have HO : Hid (∀ w', Below w.heap.size w w' → _) := fun w' _ => ofA w'
  have HF1 : Hid (∀ w', Below w.heap.size w w' → _) := fun w' hb => fact_ba hXb L w' (hXb w w' hX hb)
  obtain ⟨l, hl⟩ := all_total s.data.toList t _ 0 (Nat.le_refl _)
  obtain ⟨hfl, h4⟩ := (meanF_zero _ _).1 hf
  have hlen : s.data.toList.length = s.size := by simp
  have HAL : Hid (∀ w', Below w.heap.size w w' → _) := fun w' hb => L.all t v s l w' (hXb w w' hX hb) ht (hN.below hb) wN hf hl
  have HFD : Hid (∀ (k : Nat) r, k ≤ s.size → FndR s.data.toList t k r → ∀ w', Below w.heap.size w w' → _) := fun k r hk hr w' hb => P.find t v s k r w' (hXb w w' hX hb) ht (hN.below hb) wN ((meanE_zero _ _ _).2 ⟨hfl, h4, by omega, by omega⟩) hr
  have HE4 : Hid (∀ w', Below w.heap.size w w' → _) := fun w' hb => error_self 4 w' ((hb.cell (p := ⟨0, 0, none⟩) h0).trans hE)
  rw [show errV 4 = .iface 23 (.int .i64 4) from rfl] at HE4
  have hll : l.length ≤ 401 := by have := hl.len; omega
  have H0 : Hid (FaR s.data.toList t l 0 0) := ⟨l, rfl, hl, by omega⟩
  have B := hid (Below.refl w.heap.size w)
  have he := eqSp
  obtain ⟨va, vc, rfl, vm⟩ := nsIn_form hN
  clear hN P L hX hXb hl hf hfl
  go_enter Tryd.func5, Tryd.ntmps5
  go_wp2_with fail
  refine Calls.mono (HO.out _ B.out) ?_
  rintro e w1 ⟨rfl, hb⟩
  replace B := hid (B.out.trans (hb.mono B.out.size))
  clear hb
  go_wp2_with fail
  refine Calls.mono (HF1.out _ B.out) ?_
  rintro e w2 ⟨u0, rfl, hb, hu0⟩
  replace B := hid (B.out.trans (hb.mono B.out.size))
  clear hb
  obtain ⟨ua0, uc0, rfl, um0⟩ := spIn_form hu0
  have HU0 := hid hu0
  clear hu0
  have hnew := sp_newF w2 [(0, 0), (1, 2), (2, 2)] (by simp [maxLen])
  have HS0 := hid (spans_any _ _ _ _ _ (HU0.out.below ((Below.refl _ _).alloc (Nat.le_refl _) (.cells #[.int .i64 0, .int .i64 0, .int .i64 1, .int .i64 2, .int .i64 2, .int .i64 2] 28))) hnew)
  rw [spEq_self] at HS0
  clear hnew
  go_wp2_with fail
  refine Calls.mono HS0.out ?_
  rintro e w3 ⟨rfl, hb⟩
  replace B := hid ((B.out.alloc B.out.size (.cells #[.int .i64 0, .int .i64 0, .int .i64 1, .int .i64 2, .int .i64 2, .int .i64 2] 28)).trans (hb.mono (B.out.alloc B.out.size (.cells #[.int .i64 0, .int .i64 0, .int .i64 1, .int .i64 2, .int .i64 2, .int .i64 2] 28)).size))
  clear hb HS0 HU0
  go_wp2_with fail
  refine Calls.mono (HAL.out _ B.out) ?_
  rintro e w4 ⟨u, rfl, hb, hu⟩
  replace B := hid (B.out.trans (hb.mono B.out.size))
  clear hb
  obtain ⟨ua, uc, rfl, um⟩ := spIn_form hu
  have HU := hid hu
  clear hu
  go_wp2_with fail
  go_loopw [10, 11] (fun at' i' wr => ∃ j k : Nat, j ≤ l.length ∧ i' = .int .i64 (j : Int) ∧ at' = .int .i64 (k : Int) ∧ k ≤ s.size + 1 ∧ Hid (FaR s.data.toList t l j k) ∧ Hid (Below w4.heap.size w4 wr)) (fun _ i' _ => l.length - (intOf i').toNat)
  case atStart => exact ⟨0, 0, by omega, rfl, rfl, by omega, H0, Below.refl _ _⟩
  case round =>
    clear H0
    obtain ⟨j, k, hj, rfl, rfl, hk, HR, HB⟩ := hrel
    obtain ⟨r, hr, hA, _⟩ := HR.out
    have HBw := hid (B.out.trans (HB.out.mono B.out.size))
    by_cases hjl : j < l.length
    · obtain ⟨x, hx⟩ : ∃ x, l[j]? = some x := ⟨l[j], List.getElem?_eq_getElem hjl⟩
      have hd : l.drop j = x :: l.drop (j + 1) := by
        rw [List.drop_eq_getElem_cons hjl]
        rw [List.getElem?_eq_getElem hjl] at hx
        rw [Option.some.inj hx]
      rw [hd] at hr
      subst hr
      cases hA with
      | cons _ _ r' hF hA' =>
        obtain ⟨xa, xb⟩ := x
        have hle := hF.le
        have hnx := nextAt_lt hF
        have C := hid (HFD.out k (some (xa, xb)) (by omega) hF wr HBw.out)
        simp only [fndX, fndE, show errV 0 = .nilIface from rfl] at C
        obtain ⟨gb, go, hua, hglt, hgat⟩ : ∃ b o, ua = some ⟨b, o, none⟩ ∧ b < w4.heap.size ∧ SpAt w4 b o l := by
          obtain ⟨a', c', e1, _, e2 | ⟨b', o', e3, e4, e5⟩⟩ := HU.out
          · rw [e2] at hjl; simp at hjl
          · injection e1 with e1 _ _
            exact ⟨b', o', by rw [e1, e3], e4, e5⟩
        subst hua
        have HG := hid (fun w' (hb : Below wr.heap.size wr w') => (hgat.below (HB.out.trans (hb.mono HB.out.size)) hglt) j (xa, xb) hx)
        have g1 : (j : Int) < (l.length : Int) := by omega
        have j0 : (0 : Int) ≤ (j : Int) := by omega
        have HA2 := hid hA'
        clear hF hA' hx hd hgat HR
        go_wp2_with fail
        refine Calls.mono C.out ?_
        rintro e w5 ⟨rfl, hb5⟩
        obtain ⟨od, hod⟩ : ∃ o : Obj, o = .cells #[.int .i64 (xa : Int), .int .i64 (xb : Int)] 28 := ⟨_, rfl⟩
        have HB5 := hid (hb5.alloc hb5.size od)
        have RC : Hid ((∀ d os, (Go.Sort.grow (redrawn (w5.alloc od) d) os).cell? ⟨w5.heap.size, 0, none⟩ = some (.int .i64 (xa : Int))) ∧ (∀ d os, (Go.Sort.grow (redrawn (w5.alloc od) d) os).cell? ⟨w5.heap.size, 1, none⟩ = some (.int .i64 (xb : Int))) ∧ (∀ d os, (Go.Sort.grow (redrawn (w5.alloc od) d) os).cell? ⟨gb, go + j * 2, none⟩ = some (.int .i64 (xa : Int))) ∧ (∀ d os, (Go.Sort.grow (redrawn (w5.alloc od) d) os).cell? ⟨gb, go + j * 2 + 1, none⟩ = some (.int .i64 (xb : Int)))) := by
          have h2 := HG.out _ HB5.out
          refine ⟨cell_regrown (by rw [hod]; simp), cell_regrown (by rw [hod]; simp), cell_regrown h2.1, cell_regrown h2.2⟩
        have hq : ∀ w, (Op.equalIn 10000 28 (.agg #[.int .i64 (xa : Int), .int .i64 (xb : Int)]) (.agg #[.int .i64 (xa : Int), .int .i64 (xb : Int)])).run Tryd.prog w = .ok true w := fun w => (eqSp _ _ _ _ w).trans (by simp)
        have n1 : ¬ (xa : Int) < (k : Int) := by omega
        have n2 : ¬ (xb : Int) < (xa : Int) := by omega
        have n3 : decide ((xa : Int) < (k : Int)) = false := by simp only [n1, decide_false]
        have n4 : decide ((xb : Int) < (xa : Int)) = false := by simp only [n2, decide_false]
        have n5 : decide (xa < k) = false := by simp; omega
        have n6 : decide (xb < xa) = false := by simp; omega
        clear hb5 C HG he
        go_wp2_with fail
        rw [← hod]
        clear hod
        obtain ⟨r0, r1, r2, r3⟩ := RC.out
        refine wp_region_quiet_below (by kernel_rfl) (by kernel_rfl) ?_
        repeat (go_big_quiet_step (fail))
        refine wpQuiet_nil ?_
        intro _ hw'
        obtain ⟨⟨dq, osq⟩, hw''⟩ := hw'
        have s0 := r0 dq osq
        have s1 := r1 dq osq
        have B2 : Hid (Below wr.heap.size wr (Go.Sort.grow (redrawn (w5.alloc od) dq) osq)) := HB5.out.trans ((below_regrown (w5.alloc od) dq osq).mono HB5.out.size)
        subst hw''
        generalize Go.Sort.grow (redrawn (w5.alloc od) dq) osq = W at *
        have HBW := hid (HB.out.trans (B2.out.mono HB.out.size))
        clear RC r0 r1 r2 r3
        by_cases hab : (xb : Int) = (xa : Int)
        · have hwr : IntKind.i64.wrap ((xb : Int) + 1) = (xb : Int) + 1 := by rw [IntKind.wrap_i64]; omega
          have enx : nextAt (xa, xb) = xb + 1 := by simp [nextAt]; omega
          rw [enx] at HA2 hnx
          have eab : ((xb : Int) == (xa : Int)) = true := by rw [beq_iff_eq]; exact hab
          clear hab
          have HR2 : Hid (FaR s.data.toList t l (j + 1) (xb + 1)) := ⟨_, rfl, HA2.out, by omega⟩
          go_wp2
          exact ⟨⟨j + 1, xb + 1, by omega, by go_num, by go_num, by omega, HR2, HBW⟩, by simp [intOf]; omega⟩
        · have enx : nextAt (xa, xb) = xb := by simp [nextAt]; omega
          rw [enx] at HA2 hnx
          have eab : ((xb : Int) == (xa : Int)) = false := by rw [beq_eq_false_iff_ne]; exact hab
          clear hab
          have HR2 : Hid (FaR s.data.toList t l (j + 1) xb) := ⟨_, rfl, HA2.out, by omega⟩
          go_wp2
          exact ⟨⟨j + 1, xb, by omega, by go_num, by go_num, by omega, HR2, HBW⟩, by simp [intOf]; omega⟩
    · have he' : j = l.length := by omega
      have g1 : ¬ (j : Int) < (l.length : Int) := by omega
      have hr0 : r = [] := by rw [← hr, he', List.drop_length]
      subst hr0
      have hnone : FndR s.data.toList t k none := by
        cases hA with
        | nil _ h => exact h
      clear hA hr HR
      by_cases hks : (s.size : Int) < (k : Int)
      · go_wp2
        go_ret
        exact ⟨rfl, HBw.out⟩
      · have C := hid (HFD.out k none (by omega) hnone wr HBw.out)
        simp only [fndX, fndE, show errV 4 = .iface 23 (.int .i64 4) from rfl] at C
        clear hnone
        go_wp2_with fail
        refine Calls.mono C.out ?_
        rintro e w5 ⟨rfl, hb⟩
        have HB6 := hid ((HBw.out.trans (hb.mono HBw.out.size)).alloc (HBw.out.trans (hb.mono HBw.out.size)).size (.cells #[.int .i64 0, .int .i64 0] 28))
        clear hb C
        go_wp2_with fail
        refine Calls.mono (HE4.out _ HB6.out) ?_
        rintro e w6 ⟨rfl, hb⟩
        have HB7 := hid (HB6.out.trans (hb.mono HB6.out.size))
        clear hb
        go_wp2
        go_ret
        exact ⟨rfl, HB7.out⟩
theorem findAll_any {X : World → Prop} (hXb : ∀ w w', X w → Below w.heap.size w w' → X w') (P : FindC X) (L : FindL X) (ns : List Nd) (v : Value) (s : ByteArray) (hs : s.size ≤ maxLen) (w : World) (hX : X w) (hN : NsIn w v ns) (wN : ∀ n ∈ ns, n.wf) (hE : w.cell? ⟨0, 0, none⟩ = some (rty 32)) (h0 : 0 < w.heap.size) :
    Calls Tryd.prog 5 #[v, .string s] w fun e w' => e = .returned (.bool true) ∧ Below w.heap.size w w' := by
  by_cases hf : meanF ns s.size = 0
  · obtain ⟨t, ht, rfl⟩ := tree_of ns ((faultL_zero ns).1 ((meanF_zero _ _).1 hf).1).2.2
    exact findAll_ok hXb P L t ht v s hs w hX hN wN hE h0 hf
  · exact findAll_bad hXb P L ns v s hs w hX hN wN hf
end Go.Proofs.YteobcgajaebabaaDoor
namespace Go.Proofs.YteobcgajaebabaaDoor
set_option linter.unusedSimpArgs false
set_option linter.unusedVariables false
set_option maxRecDepth 100000
open Go.RowKit

/-- A step. -/
structure St where
  op : Int
  c : C4
  x : Int
  y : Int
/-- The steps ss lie from an address on. -/
def SsAt (w : World) (b off : Nat) (ss : List St) : Prop := ∀ i n, ss[i]? = some n →
  w.cell? ⟨b, off + i * 7, none⟩ = some (.int .i64 n.op) ∧ w.cell? ⟨b, off + i * 7 + 1, none⟩ = some (.int .u64 n.c.a) ∧ w.cell? ⟨b, off + i * 7 + 2, none⟩ = some (.int .u64 n.c.b) ∧ w.cell? ⟨b, off + i * 7 + 3, none⟩ = some (.int .u64 n.c.c) ∧ w.cell? ⟨b, off + i * 7 + 4, none⟩ = some (.int .u64 n.c.d) ∧ w.cell? ⟨b, off + i * 7 + 5, none⟩ = some (.int .i64 n.x) ∧ w.cell? ⟨b, off + i * 7 + 6, none⟩ = some (.int .i64 n.y)
/-- A slice that reads as the steps ss. -/
def SsIn (w : World) (v : Value) (ss : List St) : Prop := ∃ a cap, v = .slice a ss.length cap ∧ ss.length ≤ maxLen ∧ (ss = [] ∨ ∃ b off, a = some ⟨b, off, none⟩ ∧ b < w.heap.size ∧ SsAt w b off ss)
theorem SsAt.below {w w' : World} {B b off : Nat} {ss : List St} (h : SsAt w b off ss) (hb : Below B w w') (hlt : b < B) : SsAt w' b off ss := by
  intro i n hn
  obtain ⟨h0, h1, h2, h3, h4, h5, h6⟩ := h i n hn
  exact ⟨(hb.cell (p := ⟨b, _, none⟩) hlt).trans h0, (hb.cell (p := ⟨b, _, none⟩) hlt).trans h1, (hb.cell (p := ⟨b, _, none⟩) hlt).trans h2, (hb.cell (p := ⟨b, _, none⟩) hlt).trans h3, (hb.cell (p := ⟨b, _, none⟩) hlt).trans h4, (hb.cell (p := ⟨b, _, none⟩) hlt).trans h5, (hb.cell (p := ⟨b, _, none⟩) hlt).trans h6⟩
theorem SsIn.below {w w' : World} {v : Value} {ss : List St} (h : SsIn w v ss) (hb : Below w.heap.size w w') : SsIn w' v ss := by
  obtain ⟨a, cap, rfl, hm, h | ⟨b, off, rfl, hlt, hn⟩⟩ := h
  · exact ⟨a, cap, rfl, hm, Or.inl h⟩
  · exact ⟨_, cap, rfl, hm, Or.inr ⟨b, off, rfl, Nat.lt_of_lt_of_le hlt hb.size, hn.below hb hlt⟩⟩
theorem ssIn_form {w : World} {v : Value} {ss : List St} (h : SsIn w v ss) : ∃ a cap, v = .slice a ss.length cap ∧ ss.length ≤ maxLen := by
  obtain ⟨a, cap, h1, h2, _⟩ := h
  exact ⟨a, cap, h1, h2⟩
theorem ssIn_nil (w : World) : SsIn w (.slice none 0 0) [] := ⟨none, 0, rfl, by simp, Or.inl rfl⟩
/-- A number is none that may be, of a step of a program of N. -/
abbrev stRange (N : Nat) (s : St) : Prop := s.op < 1 ∨ 5 < s.op ∨ (s.op ≠ 5 ∧ (s.x < 0 ∨ (N : Int) ≤ s.x)) ∨ (s.op = 2 ∧ (s.y < 0 ∨ (N : Int) ≤ s.y))
/-- A field that its Op has not is not 0. -/
abbrev stShape (s : St) : Prop := (s.op ≠ 1 ∧ ¬ s.c.eqb z4 = true) ∨ (s.op ≠ 2 ∧ s.y ≠ 0) ∨ (s.op = 5 ∧ s.x ≠ 0)
def stBad (N : Nat) (s : St) : Int := if stRange N s then 1 else if stShape s then 2 else 0
def stScan (N : Nat) : List St → Int
  | [] => 0
  | s :: r => if stBad N s = 0 then stScan N r else stBad N s
/-- What is wrong with a program. -/
def stepsF (ss : List St) : Int := if 200 < ss.length then 3 else if ss.length = 0 then 4 else stScan ss.length ss
theorem stBad_range {N : Nat} {s : St} (h : stRange N s) : stBad N s = 1 := by unfold stBad; rw [if_pos h]
theorem stBad_shape {N : Nat} {s : St} (h : ¬ stRange N s) (h2 : stShape s) : stBad N s = 2 := by unfold stBad; rw [if_neg h, if_pos h2]
theorem stBad_ok {N : Nat} {s : St} (h : ¬ stRange N s) (h2 : ¬ stShape s) : stBad N s = 0 := by unfold stBad; rw [if_neg h, if_neg h2]
theorem stBad_zero {N : Nat} {s : St} (h : stBad N s = 0) : ¬ stRange N s ∧ ¬ stShape s := by
  unfold stBad at h
  by_cases h1 : stRange N s
  · rw [if_pos h1] at h; cases h
  · rw [if_neg h1] at h
    by_cases h2 : stShape s
    · rw [if_pos h2] at h; cases h
    · exact ⟨h1, h2⟩
theorem stScan_drop (N : Nat) : ∀ (ss : List St) (i : Nat) (n : St), ss[i]? = some n → stScan N (ss.drop i) = if stBad N n = 0 then stScan N (ss.drop (i + 1)) else stBad N n
  | [], i, n, h => by simp at h
  | s :: r, 0, n, h => by
    simp at h
    subst h
    rfl
  | s :: r, i + 1, n, h => by
    rw [List.drop_succ_cons, List.drop_succ_cons]
    exact stScan_drop N r i n (by simpa using h)
theorem stScan_all (N : Nat) : ∀ (ss : List St), stScan N ss = 0 → ∀ s ∈ ss, stBad N s = 0
  | [], _, s, hs => by cases hs
  | a :: r, h, s, hs => by
    unfold stScan at h
    by_cases h0 : stBad N a = 0
    · rw [if_pos h0] at h
      rcases List.mem_cons.1 hs with rfl | hs
      · exact h0
      · exact stScan_all N r h s hs
    · rw [if_neg h0] at h
      exact absurd h h0
theorem stepsF_zero {ss : List St} (h : stepsF ss = 0) : ss.length ≤ 200 ∧ 0 < ss.length ∧ ∀ s ∈ ss, ¬ stRange ss.length s ∧ ¬ stShape s := by
  unfold stepsF at h
  by_cases h1 : 200 < ss.length
  · rw [if_pos h1] at h; cases h
  · rw [if_neg h1] at h
    by_cases h2 : ss.length = 0
    · rw [if_pos h2] at h; cases h
    · rw [if_neg h2] at h
      exact ⟨by omega, by omega, fun s hs => stBad_zero (stScan_all _ _ h s hs)⟩
def SsOk (ss : List St) : Prop := ∀ s ∈ ss, s.c.ok
end Go.Proofs.YteobcgajaebabaaDoor
namespace Go.Proofs.YteobcgajaebabaaDoor
set_option linter.unusedSimpArgs false
set_option linter.unusedVariables false
set_option maxRecDepth 100000
open Go.RowKit
/-- A step that is not known yet. -/
abbrev stZ : St := ⟨0, z4, 0, 0⟩
/-- A fork. -/
abbrev stF (x y : Nat) : St := ⟨2, z4, x, y⟩
/-- The last step. -/
abbrev stD : St := ⟨5, z4, 0, 0⟩
/-- The steps of a tree, the first of them being step p. -/
def Rx.cod : Rx → Nat → List St
  | .leaf n, p => if n.op = 1 then [⟨1, n.c, ((p + 1 : Nat) : Int), 0⟩] else if n.op = 8 then [⟨3, z4, ((p + 1 : Nat) : Int), 0⟩] else if n.op = 9 then [⟨4, z4, ((p + 1 : Nat) : Int), 0⟩] else []
  | .one n a, p =>
    if n.op = 5 then stF (p + 1) (p + 1 + (a.cod (p + 1)).length + 1) :: (a.cod (p + 1) ++ [stF (p + 1) (p + 1 + (a.cod (p + 1)).length + 1)])
    else if n.op = 6 then a.cod p ++ [stF p (p + (a.cod p).length + 1)]
    else stF (p + 1) (p + 1 + (a.cod (p + 1)).length) :: a.cod (p + 1)
  | .two n a b, p =>
    if n.op = 3 then a.cod p ++ b.cod (p + (a.cod p).length)
    else stF (p + 1) (p + 1 + (a.cod (p + 1)).length + 1) :: (a.cod (p + 1) ++ (stF (p + 1 + (a.cod (p + 1)).length + 1 + (b.cod (p + 1 + (a.cod (p + 1)).length + 1)).length) (p + 1 + (a.cod (p + 1)).length + 1 + (b.cod (p + 1 + (a.cod (p + 1)).length + 1)).length) :: b.cod (p + 1 + (a.cod (p + 1)).length + 1)))
theorem Rx.cod_len : ∀ (t : Rx) (p : Nat), (t.cod p).length ≤ 2 * t.flat.length
  | .leaf n, p => by
    simp only [Rx.cod, Rx.flat]
    repeat' split
    all_goals simp
  | .one n a, p => by
    have h1 := a.cod_len p
    have h2 := a.cod_len (p + 1)
    simp only [Rx.cod, Rx.flat]
    repeat' split
    all_goals simp
    all_goals omega
  | .two n a b, p => by
    have h1 := a.cod_len p
    have h2 := a.cod_len (p + 1)
    have h3 := b.cod_len (p + (a.cod p).length)
    have h4 := b.cod_len (p + 1 + (a.cod (p + 1)).length + 1)
    simp only [Rx.cod, Rx.flat]
    repeat' split
    all_goals simp
    all_goals omega
/-- The program of a tree. -/
def Rx.prog (t : Rx) : List St := t.cod 0 ++ [stD]
end Go.Proofs.YteobcgajaebabaaDoor
