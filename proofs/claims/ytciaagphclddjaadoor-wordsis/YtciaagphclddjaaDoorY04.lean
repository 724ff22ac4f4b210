/- What a pattern's text is, as a whole, and what stands in all that it fits: plain mathematics. Texts, byte by byte: plain facts. What the document's own functions answer: Stands; pieces of a text. Many words in a text: plain mathematics. Hits of words in memory. Lists of texts as arguments: opened. Words, and what may be wrong with them: plain facts. -/
import Derived.Test.YtciaagphclddjaaDoorY03
import Derived.Test.YtciaagphclddjaaDoorY02
import Derived.OwnWalk
import Derived.KernelRfl
import Derived.Deep.AppendLies
import Derived.Lib.SmallJoins
namespace Go.Proofs.YtciaagphclddjaaDoor
set_option linter.unusedSimpArgs false
set_option linter.unusedVariables false
set_option maxRecDepth 100000
open Go.RowKit
/-- The one byte of a class. -/
def C4.only (k : C4) : Option UInt8 := if ((List.range 256).filter k.has).length = 1 then ((List.range 256).filter k.has).head?.map (fun b => UInt8.ofNat b) else none
/-- The one text that a pattern fits. -/
def Rx.whl : Rx → Option (List UInt8)
  | .leaf n => if n.op = 1 then n.c.only.map (fun c => [c]) else if n.op = 2 then some [] else none
  | .one _ _ => none
  | .two n a b => if n.op = 3 then a.whl.bind (fun x => b.whl.map (fun y => x ++ y)) else none
/-- The longer one, the first if they are as long. -/
def longer (x y : List UInt8) : List UInt8 := if x.length < y.length then y else x
/-- What stands in all that a pattern fits. -/
def Rx.ned : Rx → List UInt8
  | .leaf n => ((Rx.leaf n).whl).getD []
  | .one n a => if n.op = 6 then a.ned else []
  | .two n a b => match (Rx.two n a b).whl with
    | some x => x
    | none => if n.op = 3 then longer a.ned b.ned else []
/-- The piece of a text from one place to another one. -/
def cut (s : List UInt8) (i j : Nat) : List UInt8 := (s.drop i).take (j - i)
theorem cut_len {s : List UInt8} {i j : Nat} (h : i ≤ j) (hj : j ≤ s.length) : (cut s i j).length = j - i := by
  unfold cut
  rw [List.length_take, List.length_drop]
  omega
theorem cut_trans {s : List UInt8} {i k j : Nat} (h1 : i ≤ k) (h2 : k ≤ j) : cut s i j = cut s i k ++ cut s k j := by
  unfold cut
  have e : j - i = (k - i) + (j - k) := by omega
  rw [e, List.take_add, List.drop_drop]
  congr 3
  omega
theorem cut_self (s : List UInt8) (i : Nat) : cut s i i = [] := by simp [cut]
theorem only_has {k : C4} {c : UInt8} (h : k.only = some c) (b : UInt8) : k.has b.toNat = true ↔ b = c := by
  unfold C4.only at h
  split at h
  · rename_i h1
    obtain ⟨x, hx⟩ : ∃ x, (List.range 256).filter k.has = [x] := List.length_eq_one_iff.1 h1
    rw [hx] at h
    simp at h
    have hm : ∀ y, y < 256 → (k.has y = true ↔ y = x) := by
      intro y hy
      have : y ∈ (List.range 256).filter k.has ↔ y = x := by rw [hx, List.mem_singleton]
      rw [List.mem_filter, List.mem_range] at this
      rw [← this]
      exact ⟨fun h => ⟨hy, h⟩, fun h => h.2⟩
    have hx256 : x < 256 := by
      have : x ∈ (List.range 256).filter k.has := by rw [hx]; simp
      rw [List.mem_filter, List.mem_range] at this
      exact this.1
    rw [hm b.toNat b.toNat_lt, ← h]
    constructor
    · intro e
      rw [← e]
      simp
    · intro e
      rw [e]
      simp
      omega
  · cases h
/-- What a pattern that has a whole fits is that one. -/
theorem whl_fit (s : List UInt8) : ∀ (t : Rx), t.Ok → (∀ n ∈ t.flat, 1 ≤ n.op ∧ n.op ≤ 9) → ∀ (x : List UInt8), t.whl = some x → ∀ i j, Fit s t i j ↔ (j = i + x.length ∧ j ≤ s.length ∧ cut s i j = x)
  | .leaf n, hk, ho, x, hx, i, j => by
    simp only [Rx.whl] at hx
    simp only [Fit]
    by_cases h1 : n.op = 1
    · rw [if_pos h1] at hx ⊢
      cases hc : n.c.only with
      | none => rw [hc] at hx; cases hx
      | some c =>
        rw [hc] at hx
        simp at hx
        subst hx
        constructor
        · rintro ⟨d, hd, hh, rfl⟩
          have hdc := (only_has hc d).1 hh
          subst hdc
          have hlt : i < s.length := by
            rcases Nat.lt_or_ge i s.length with h' | h'
            · exact h'
            · rw [List.getElem?_eq_none h'] at hd; cases hd
          refine ⟨by simp, by omega, ?_⟩
          unfold cut
          rw [List.drop_eq_getElem_cons hlt, show i + 1 - i = 1 from by omega]
          rw [List.getElem?_eq_getElem hlt] at hd
          simp [Option.some.inj hd]
        · rintro ⟨rfl, hj, he⟩
          simp at hj
          have hlt : i < s.length := by omega
          refine ⟨c, ?_, (only_has hc c).2 rfl, by simp⟩
          have h0 := congrArg (fun l => l[0]?) he
          simpa [cut, List.getElem?_take, List.getElem?_drop] using h0
    · rw [if_neg h1] at hx ⊢
      by_cases h2 : n.op = 2
      · rw [if_pos h2] at hx
        rw [if_neg (by omega), if_neg (by omega)]
        simp at hx
        subst hx
        constructor
        · rintro ⟨rfl, hi⟩
          exact ⟨by simp, hi, cut_self _ _⟩
        · rintro ⟨rfl, hj, _⟩
          exact ⟨by simp, by simpa using hj⟩
      · rw [if_neg h2] at hx; cases hx
  | .one n a, hk, ho, x, hx, i, j => by simp [Rx.whl] at hx
  | .two n a b, hk, ho, x, hx, i, j => by
    simp only [Rx.whl] at hx
    by_cases h3 : n.op = 3
    · rw [if_pos h3] at hx
      simp only [Fit, if_pos h3]
      cases hxa : a.whl with
      | none => rw [hxa] at hx; cases hx
      | some xa =>
        cases hxb : b.whl with
        | none => rw [hxa, hxb] at hx; cases hx
        | some xb =>
          rw [hxa, hxb] at hx
          simp at hx
          subst hx
          have fa := whl_fit s a hk.2.1 (fun m hm => ho m (by simp [Rx.flat, hm])) xa hxa
          have fb := whl_fit s b hk.2.2 (fun m hm => ho m (by simp [Rx.flat, hm])) xb hxb
          constructor
          · rintro ⟨k, h1, h2⟩
            obtain ⟨rfl, hk1, e1⟩ := (fa i k).1 h1
            obtain ⟨rfl, hk2, e2⟩ := (fb _ j).1 h2
            refine ⟨by simp; omega, hk2, ?_⟩
            rw [cut_trans (k := i + xa.length) (by omega) (by omega), e1, e2]
          · rintro ⟨rfl, hj, he⟩
            rw [List.length_append] at hj he
            have hc := cut_trans (s := s) (i := i) (k := i + xa.length) (j := i + (xa.length + xb.length)) (by omega) (by omega)
            rw [he] at hc
            have hl := cut_len (s := s) (i := i) (j := i + xa.length) (by omega) (by omega)
            obtain ⟨e1, e2⟩ := List.append_inj hc (by rw [hl]; omega)
            refine ⟨i + xa.length, (fa _ _).2 ⟨rfl, by omega, e1.symm⟩, (fb _ _).2 ⟨by simp; omega, by rw [List.length_append]; omega, ?_⟩⟩
            rw [List.length_append]
            exact e2.symm
    · rw [if_neg h3] at hx; cases hx
theorem longer_cases (x y : List UInt8) : longer x y = x ∨ longer x y = y := by unfold longer; split <;> simp
/-- What is needed stands in all that is fitted. -/
theorem ned_fit (s : List UInt8) : ∀ (t : Rx), t.Ok → (∀ n ∈ t.flat, 1 ≤ n.op ∧ n.op ≤ 9) → ∀ i j, Fit s t i j → ∃ p q, cut s i j = p ++ t.ned ++ q
  | .leaf n, hk, ho, i, j, hf => by
    unfold Rx.ned
    cases hx : (Rx.leaf n).whl with
    | none => exact ⟨[], cut s i j, by simp⟩
    | some x =>
      obtain ⟨_, _, e⟩ := (whl_fit s (.leaf n) hk ho x hx i j).1 hf
      exact ⟨[], [], by simp [e]⟩
  | .one n a, hk, ho, i, j, hf => by
    unfold Rx.ned
    by_cases h6 : n.op = 6
    · rw [if_pos h6]
      simp only [Fit] at hf
      rw [if_neg (by omega), if_pos h6] at hf
      obtain ⟨k, h1, h2⟩ := hf
      have hle : ∀ i j, Fit s a i j → i ≤ j ∧ j ≤ s.length := fit_le s a
      obtain ⟨p, q, e⟩ := ned_fit s a hk.2 (fun m hm => ho m (by simp [Rx.flat, hm])) i k h1
      refine ⟨p, q ++ cut s k j, ?_⟩
      rw [cut_trans (k := k) (hle i k h1).1 (Str.le hle h2).1, e]
      simp
    · rw [if_neg h6]
      exact ⟨[], cut s i j, by simp⟩
  | .two n a b, hk, ho, i, j, hf => by
    unfold Rx.ned
    cases hx : (Rx.two n a b).whl with
    | some x =>
      obtain ⟨_, _, e⟩ := (whl_fit s (.two n a b) hk ho x hx i j).1 hf
      exact ⟨[], [], by simp [e]⟩
    | none =>
      simp only
      by_cases h3 : n.op = 3
      · rw [if_pos h3]
        simp only [Fit, if_pos h3] at hf
        obtain ⟨k, h1, h2⟩ := hf
        rw [cut_trans (k := k) (fit_le s a i k h1).1 (fit_le s b k j h2).1]
        rcases longer_cases a.ned b.ned with e | e
        · rw [e]
          obtain ⟨p, q, e'⟩ := ned_fit s a hk.2.1 (fun m hm => ho m (by simp [Rx.flat, hm])) i k h1
          exact ⟨p, q ++ cut s k j, by rw [e']; simp⟩
        · rw [e]
          obtain ⟨p, q, e'⟩ := ned_fit s b hk.2.2 (fun m hm => ho m (by simp [Rx.flat, hm])) k j h2
          exact ⟨cut s i k ++ p, q, by rw [e']; simp⟩
      · rw [if_neg h3]
        exact ⟨[], cut s i j, by simp⟩
end Go.Proofs.YtciaagphclddjaaDoor
namespace Go.Proofs.YtciaagphclddjaaDoor
set_option linter.unusedSimpArgs false
set_option linter.unusedVariables false
set_option maxRecDepth 100000
open Go.RowKit
theorem ba_ext {a b : ByteArray} (h : a.data.toList = b.data.toList) : a = b := by
  cases a with
  | mk x =>
    cases b with
    | mk y =>
      congr 1
      exact Array.toList_inj.1 h
theorem cut_extract (s : ByteArray) (i j : Nat) : (s.extract i j).data.toList = cut s.data.toList i j := by
  rw [ByteArray.data_extract, Array.toList_extract]
  unfold cut
  simp [List.extract]
theorem size_list (s : ByteArray) : s.data.toList.length = s.size := by simp
theorem ba_beq (a b : ByteArray) : (a.toList == b.toList) = true ↔ a = b := by
  rw [beq_iff_eq, ByteArray.toList_eq, ByteArray.toList_eq]
  exact ⟨ba_ext, fun h => by rw [h]⟩
end Go.Proofs.YtciaagphclddjaaDoor
namespace Go.Proofs.YtciaagphclddjaaDoor
set_option linter.unusedSimpArgs false
set_option linter.unusedVariables false
set_option maxRecDepth 100000
open Go.RowKit
/-- A word stands at a place. -/
def StA (s : ByteArray) (i : Nat) (x : ByteArray) : Prop := i + x.size ≤ s.size ∧ s.extract i (i + x.size) = x
/-- What Stands answers. -/
def StP (s : ByteArray) (i : Nat) (x : ByteArray) (w : World) (e : Ending) (w' : World) : Prop := ∃ y, e = .returned (.bool y) ∧ (y = true ↔ StA s i x) ∧ w' = w
set_option maxHeartbeats 2000000 in
theorem stands_any (s x : ByteArray) (hs : s.size ≤ 1000000) (hx : x.size ≤ 1000000) (i : Nat) (hi : i ≤ s.size) (w : World) :
    Calls Tryd.prog 28 #[.string s, .int .i64 (i : Int), .string x] w (StP s i x w) := by
  have i0 : (0 : Int) ≤ (i : Int) := by omega
  by_cases hle : i + x.size ≤ s.size
  · have g1 : (i : Int) + (x.size : Int) ≤ (s.size : Int) := by omega
    have g2 : (i : Int) ≤ (i : Int) + (x.size : Int) := by omega
    obtain ⟨T, hT⟩ : ∃ T, s.extract i (i + x.size) = T := ⟨_, rfl⟩
    have e1 : ((i : Int) + (x.size : Int)).toNat = i + x.size := by omega
    go_enter Tryd.func28, Tryd.ntmps28
    have HY : Hid (StP s i x w (.returned (.bool (T.toList == x.toList))) w) := ⟨_, rfl, by rw [ba_beq, ← hT]; exact ⟨fun h => ⟨hle, h⟩, fun h => h.2⟩, rfl⟩
    go_wp2
    go_ret
    exact HY.out
  · have g1 : ¬ (i : Int) + (x.size : Int) ≤ (s.size : Int) := by omega
    have HN : Hid (¬ StA s i x) := fun h => hle h.1
    go_enter Tryd.func28, Tryd.ntmps28
    go_wp2
    go_ret
    exact ⟨false, rfl, ⟨fun h => (by cases h), fun h => absurd h HN.out⟩, rfl⟩
end Go.Proofs.YtciaagphclddjaaDoor
namespace Go.Proofs.YtciaagphclddjaaDoor
set_option linter.unusedSimpArgs false
set_option linter.unusedVariables false
set_option maxRecDepth 100000
open Go.RowKit
/-- A word ends at a place. -/
def stW (s : List UInt8) (e : Nat) (x : List UInt8) : Bool := decide (x.length ≤ e ∧ e ≤ s.length ∧ cut s (e - x.length) e = x)
theorem stW_iff (s : List UInt8) (e : Nat) (x : List UInt8) : stW s e x = true ↔ x.length ≤ e ∧ e ≤ s.length ∧ cut s (e - x.length) e = x := by simp [stW]
/-- A hit: the word's number, from, to. -/
abbrev Ht := Nat × Nat × Nat
/-- What one word tells at one place. -/
def hitOne (s : List UInt8) (e n : Nat) : Option (List UInt8) → List Ht
  | some x => if stW s e x then [(n, e - x.length, e)] else []
  | none => []
/-- The hits at one place, of the first n words. -/
def hitsAt (l : List (List UInt8)) (s : List UInt8) (e : Nat) : Nat → List Ht
  | 0 => []
  | n + 1 => hitsAt l s e n ++ hitOne s e n l[n]?
/-- The hits at the first m places. -/
def hitsTo (l : List (List UInt8)) (s : List UInt8) : Nat → List Ht
  | 0 => []
  | m + 1 => hitsTo l s m ++ hitsAt l s m l.length
/-- All hits. -/
def hits (l : List (List UInt8)) (s : List UInt8) : List Ht := hitsTo l s (s.length + 1)
theorem hitOne_len (s : List UInt8) (e n : Nat) (o : Option (List UInt8)) : (hitOne s e n o).length ≤ 1 := by
  cases o with
  | none => simp [hitOne]
  | some x => simp only [hitOne]; split <;> simp
theorem hitsAt_len (l : List (List UInt8)) (s : List UInt8) (e : Nat) : ∀ n, (hitsAt l s e n).length ≤ n
  | 0 => by simp [hitsAt]
  | n + 1 => by
    have := hitsAt_len l s e n
    have := hitOne_len s e n l[n]?
    simp [hitsAt]
    omega
theorem hitsTo_len (l : List (List UInt8)) (s : List UInt8) : ∀ m, (hitsTo l s m).length ≤ m * l.length
  | 0 => by simp [hitsTo]
  | m + 1 => by
    have := hitsTo_len l s m
    have := hitsAt_len l s m l.length
    simp [hitsTo, Nat.succ_mul]
    omega
/-- What a hit says. -/
def HtOk (l : List (List UInt8)) (s : List UInt8) (h : Ht) : Prop := ∃ x, l[h.1]? = some x ∧ h.2.1 + x.length = h.2.2 ∧ h.2.2 ≤ s.length ∧ cut s h.2.1 h.2.2 = x
theorem hitOne_ok (l : List (List UInt8)) (s : List UInt8) (e n : Nat) : ∀ h ∈ hitOne s e n l[n]?, HtOk l s h ∧ h.1 = n ∧ h.2.2 = e := by
  intro h hh
  cases hx : l[n]? with
  | none => rw [hx] at hh; cases hh
  | some x =>
    rw [hx] at hh
    simp only [hitOne] at hh
    split at hh
    · rename_i hs
      rw [List.mem_singleton] at hh
      subst hh
      obtain ⟨h1, h2, h3⟩ := (stW_iff s e x).1 hs
      exact ⟨⟨x, hx, by simp only; omega, h2, h3⟩, rfl, rfl⟩
    · cases hh
theorem hitsAt_ok (l : List (List UInt8)) (s : List UInt8) (e : Nat) : ∀ n, ∀ h ∈ hitsAt l s e n, HtOk l s h ∧ h.1 < n ∧ h.2.2 = e
  | 0, h, hh => by cases hh
  | n + 1, h, hh => by
    rw [hitsAt, List.mem_append] at hh
    rcases hh with hh | hh
    · obtain ⟨h1, h2, h3⟩ := hitsAt_ok l s e n h hh
      exact ⟨h1, by omega, h3⟩
    · obtain ⟨h1, h2, h3⟩ := hitOne_ok l s e n h hh
      exact ⟨h1, by omega, h3⟩
theorem hitsTo_ok (l : List (List UInt8)) (s : List UInt8) : ∀ m, ∀ h ∈ hitsTo l s m, HtOk l s h ∧ h.1 < l.length
  | 0, h, hh => by cases hh
  | m + 1, h, hh => by
    rw [hitsTo, List.mem_append] at hh
    rcases hh with hh | hh
    · exact hitsTo_ok l s m h hh
    · obtain ⟨h1, h2, _⟩ := hitsAt_ok l s m _ h hh
      exact ⟨h1, h2⟩
theorem hits_ok (l : List (List UInt8)) (s : List UInt8) : ∀ h ∈ hits l s, HtOk l s h ∧ h.1 < l.length := hitsTo_ok l s _
/-- A WORD AMONG OTHERS. -/
theorem hitsAt_alone (l : List (List UInt8)) (s : List UInt8) (e i : Nat) (x : List UInt8) (hx : l[i]? = some x) : ∀ n, (hitsAt l s e n).filter (fun h => h.1 == i) = if i < n then hitOne s e i (some x) else []
  | 0 => by simp [hitsAt]
  | n + 1 => by
    rw [hitsAt, List.filter_append, hitsAt_alone l s e i x hx n]
    by_cases hn : n = i
    · subst hn
      rw [if_neg (Nat.lt_irrefl _), if_pos (by omega), hx, List.nil_append]
      simp only [hitOne]
      split <;> simp
    · have h1 : (hitOne s e n l[n]?).filter (fun h => h.1 == i) = [] := List.filter_eq_nil_iff.2 fun h hh => by
        have := (hitOne_ok l s e n h hh).2.1
        simp
        omega
      rw [h1, List.append_nil]
      by_cases h2 : i < n
      · rw [if_pos h2, if_pos (by omega)]
      · rw [if_neg h2, if_neg (by omega)]
theorem hitOne_span (s : List UInt8) (e n m : Nat) (o : Option (List UInt8)) : (hitOne s e n o).map (fun h => h.2) = (hitOne s e m o).map (fun h => h.2) := by
  cases o with
  | none => rfl
  | some x => simp only [hitOne]; split <;> rfl
theorem hitsTo_alone (l : List (List UInt8)) (s : List UInt8) (i : Nat) (x : List UInt8) (hx : l[i]? = some x) : ∀ m, ((hitsTo l s m).filter (fun h => h.1 == i)).map (fun h => h.2) = (hitsTo [x] s m).map (fun h => h.2)
  | 0 => rfl
  | m + 1 => by
    have hi : i < l.length := by
      rcases Nat.lt_or_ge i l.length with h | h
      · exact h
      · rw [List.getElem?_eq_none h] at hx; cases hx
    rw [hitsTo, hitsTo, List.filter_append, List.map_append, List.map_append, hitsTo_alone l s i x hx m, hitsAt_alone l s m i x hx, if_pos hi]
    congr 1
    simp only [List.length_singleton, hitsAt, List.nil_append, List.getElem?_cons_zero]
    exact hitOne_span s m i 0 (some x)
theorem hits_alone (l : List (List UInt8)) (s : List UInt8) (i : Nat) (x : List UInt8) (hx : l[i]? = some x) : ((hits l s).filter (fun h => h.1 == i)).map (fun h => h.2) = (hits [x] s).map (fun h => h.2) := hitsTo_alone l s i x hx _
/-- A WORD MORE. -/
theorem hitsAt_more (l : List (List UInt8)) (w : List UInt8) (s : List UInt8) (e : Nat) : ∀ n, n ≤ l.length → hitsAt (l ++ [w]) s e n = hitsAt l s e n
  | 0, _ => rfl
  | n + 1, h => by
    rw [hitsAt, hitsAt, hitsAt_more l w s e n (by omega), List.getElem?_append_left (by omega)]
theorem hitsTo_more (l : List (List UInt8)) (w : List UInt8) (s : List UInt8) : ∀ m, (hitsTo (l ++ [w]) s m).filter (fun h => decide (h.1 < l.length)) = hitsTo l s m ∧ (hitsTo (l ++ [w]) s m).filter (fun h => ! decide (h.1 < l.length)) = (hitsTo [w] s m).map (fun h => (l.length, h.2))
  | 0 => ⟨rfl, rfl⟩
  | m + 1 => by
    obtain ⟨h1, h2⟩ := hitsTo_more l w s m
    have hw : (l ++ [w])[l.length]? = some w := by simp
    have ha : hitsAt (l ++ [w]) s m (l ++ [w]).length = hitsAt l s m l.length ++ hitOne s m l.length (some w) := by
      rw [List.length_append, List.length_singleton, hitsAt, hitsAt_more l w s m _ (Nat.le_refl _), hw]
    have f1 : (hitsAt l s m l.length).filter (fun h => decide (h.1 < l.length)) = hitsAt l s m l.length := List.filter_eq_self.2 fun h hh => decide_eq_true (hitsAt_ok l s m _ h hh).2.1
    have f2 : (hitsAt l s m l.length).filter (fun h => ! decide (h.1 < l.length)) = [] := List.filter_eq_nil_iff.2 fun h hh => by
      have := (hitsAt_ok l s m _ h hh).2.1
      simp [this]
    have f3 : (hitOne s m l.length (some w)).filter (fun h => decide (h.1 < l.length)) = [] := by
      simp only [hitOne]; split <;> simp
    have f4 : (hitOne s m l.length (some w)).filter (fun h => ! decide (h.1 < l.length)) = (hitOne s m 0 (some w)).map (fun h => (l.length, h.2)) := by
      simp only [hitOne]; split <;> simp
    have hs : hitsTo [w] s (m + 1) = hitsTo [w] s m ++ hitOne s m 0 (some w) := by
      simp [hitsTo, hitsAt]
    rw [hitsTo, ha, hs]
    constructor
    · rw [List.filter_append, List.filter_append, h1, f1, f3, List.append_nil, hitsTo]
    · rw [List.filter_append, List.filter_append, h2, f2, f4, List.nil_append, List.map_append]
/-- NOTHING BETWEEN THAT IS IN A WORD. -/
theorem cut_left (a b : List UInt8) {i j : Nat} (h : j ≤ a.length) : cut (a ++ b) i j = cut a i j := by
  unfold cut
  rcases Nat.lt_or_ge i a.length with h1 | h1
  · rw [List.drop_append_of_le_length (by omega), List.take_append_of_le_length (by rw [List.length_drop]; omega)]
  · rw [show j - i = 0 by omega]
    simp
theorem cut_right (a b : List UInt8) (i j : Nat) : cut (a ++ b) (a.length + i) (a.length + j) = cut b i j := by
  unfold cut
  rw [List.drop_append, List.drop_of_length_le (by omega), List.nil_append]
  congr 1
  · omega
  · congr 1
    omega
theorem cut_mem {s : List UInt8} {i j k : Nat} {c : UInt8} (h1 : i ≤ k) (h2 : k < j) (hc : s[k]? = some c) : c ∈ cut s i j := by
  unfold cut
  have : ((s.drop i).take (j - i))[k - i]? = some c := by
    rw [List.getElem?_take, if_pos (by omega), List.getElem?_drop, show i + (k - i) = k by omega]
    exact hc
  exact List.mem_of_getElem? this
/-- A hit further behind. -/
def shift (d : Nat) (h : Ht) : Ht := (h.1, h.2.1 + d, h.2.2 + d)
theorem stW_left (s t : List UInt8) (e : Nat) (x : List UInt8) (he : e ≤ s.length) : stW (s ++ 0 :: t) e x = stW s e x := by
  rw [Bool.eq_iff_iff, stW_iff, stW_iff, cut_left s _ he]
  simp
  omega
theorem stW_right (s t : List UInt8) (e : Nat) (x : List UInt8) (h0 : ¬ (0 : UInt8) ∈ x) (hx : 0 < x.length) : stW (s ++ 0 :: t) (s.length + 1 + e) x = stW t e x := by
  rw [Bool.eq_iff_iff, stW_iff, stW_iff]
  constructor
  · rintro ⟨h1, h2, h3⟩
    have hxe : x.length ≤ e := by
      refine Classical.byContradiction fun hc => h0 ?_
      rw [← h3]
      exact cut_mem (k := s.length) (by omega) (by omega) (by simp)
    refine ⟨hxe, by simp at h2; omega, ?_⟩
    have e1 : s ++ 0 :: t = (s ++ [0]) ++ t := by simp
    have e2 : s.length + 1 + e - x.length = (s ++ [0]).length + (e - x.length) := by simp; omega
    have e3 : s.length + 1 + e = (s ++ [0]).length + e := by simp
    rw [e2, e3, e1, cut_right] at h3
    exact h3
  · rintro ⟨h1, h2, h3⟩
    refine ⟨by omega, by simp; omega, ?_⟩
    have e1 : s ++ 0 :: t = (s ++ [0]) ++ t := by simp
    have e2 : s.length + 1 + e - x.length = (s ++ [0]).length + (e - x.length) := by simp; omega
    have e3 : s.length + 1 + e = (s ++ [0]).length + e := by simp
    rw [e2, e3, e1, cut_right]
    exact h3
theorem hitsAt_left (l : List (List UInt8)) (s t : List UInt8) (e : Nat) (he : e ≤ s.length) : ∀ n, hitsAt l (s ++ 0 :: t) e n = hitsAt l s e n
  | 0 => rfl
  | n + 1 => by
    rw [hitsAt, hitsAt, hitsAt_left l s t e he n]
    cases l[n]? with
    | none => rfl
    | some x => simp only [hitOne, stW_left s t e x he]
theorem hitsAt_right (l : List (List UInt8)) (hl : ∀ x ∈ l, ¬ (0 : UInt8) ∈ x ∧ 0 < x.length) (s t : List UInt8) (e : Nat) : ∀ n, hitsAt l (s ++ 0 :: t) (s.length + 1 + e) n = (hitsAt l t e n).map (shift (s.length + 1))
  | 0 => rfl
  | n + 1 => by
    rw [hitsAt, hitsAt, List.map_append, hitsAt_right l hl s t e n]
    cases hx : l[n]? with
    | none => rfl
    | some x =>
      obtain ⟨h0, h1⟩ := hl x (List.mem_of_getElem? hx)
      simp only [hitOne, stW_right s t e x h0 h1]
      cases hs : stW t e x with
      | false => simp
      | true =>
        have := ((stW_iff t e x).1 hs).1
        simp [shift]
        omega
theorem hitsTo_left (l : List (List UInt8)) (s t : List UInt8) : ∀ m, m ≤ s.length + 1 → hitsTo l (s ++ 0 :: t) m = hitsTo l s m
  | 0, _ => rfl
  | m + 1, h => by rw [hitsTo, hitsTo, hitsTo_left l s t m (by omega), hitsAt_left l s t m (by omega)]
theorem hitsTo_right (l : List (List UInt8)) (hl : ∀ x ∈ l, ¬ (0 : UInt8) ∈ x ∧ 0 < x.length) (s t : List UInt8) : ∀ m, hitsTo l (s ++ 0 :: t) (s.length + 1 + m) = hitsTo l s (s.length + 1) ++ (hitsTo l t m).map (shift (s.length + 1))
  | 0 => by rw [Nat.add_zero, hitsTo_left l s t _ (Nat.le_refl _)]; simp [hitsTo]
  | m + 1 => by
    show hitsTo l (s ++ 0 :: t) (s.length + 1 + m) ++ hitsAt l (s ++ 0 :: t) (s.length + 1 + m) l.length = hitsTo l s (s.length + 1) ++ (hitsTo l t m ++ hitsAt l t m l.length).map (shift (s.length + 1))
    rw [hitsTo_right l hl s t m, hitsAt_right l hl s t m, List.map_append, List.append_assoc]
theorem hits_between (l : List (List UInt8)) (hl : ∀ x ∈ l, ¬ (0 : UInt8) ∈ x ∧ 0 < x.length) (s t : List UInt8) : hits l (s ++ 0 :: t) = hits l s ++ (hits l t).map (shift (s.length + 1)) := by
  unfold hits
  rw [← hitsTo_right l hl s t (t.length + 1)]
  congr 1
  simp
  omega
end Go.Proofs.YtciaagphclddjaaDoor
namespace Go.Proofs.YtciaagphclddjaaDoor
set_option linter.unusedSimpArgs false
set_option linter.unusedVariables false
set_option maxRecDepth 100000
open Go.RowKit
/-- A span as a value. -/
abbrev htV (x : Nat × Nat × Nat) : Value := .agg #[.int .i64 (x.1 : Int), .int .i64 (x.2.1 : Int), .int .i64 (x.2.2 : Int)]
/-- The spans l lie in block b from off on. -/
def HtAt (w : World) (b off : Nat) (l : List (Nat × Nat × Nat)) : Prop := ∀ (i : Nat) (x : Nat × Nat × Nat), l[i]? = some x → w.cell? ⟨b, off + i * 3, none⟩ = some (.int .i64 (x.1 : Int)) ∧ w.cell? ⟨b, off + i * 3 + 1, none⟩ = some (.int .i64 (x.2.1 : Int)) ∧ w.cell? ⟨b, off + i * 3 + 2, none⟩ = some (.int .i64 (x.2.2 : Int))
/-- A slice that reads as the spans l. -/
def HtIn (w : World) (v : Value) (l : List (Nat × Nat × Nat)) : Prop := ∃ a cap, v = .slice a l.length cap ∧ l.length ≤ maxLen ∧ (l = [] ∨ ∃ b off, a = some ⟨b, off, none⟩ ∧ b < w.heap.size ∧ HtAt w b off l)
theorem HtAt.below {w w' : World} {B b off : Nat} {l : List (Nat × Nat × Nat)} (h : HtAt w b off l) (hb : Below B w w') (hlt : b < B) : HtAt w' b off l := fun i n hn =>
  ⟨(hb.cell (p := ⟨b, _, none⟩) hlt).trans (h i n hn).1, (hb.cell (p := ⟨b, _, none⟩) hlt).trans (h i n hn).2.1, (hb.cell (p := ⟨b, _, none⟩) hlt).trans (h i n hn).2.2⟩
theorem HtIn.below {w w' : World} {v : Value} {l : List (Nat × Nat × Nat)} (h : HtIn w v l) (hb : Below w.heap.size w w') : HtIn w' v l := by
  obtain ⟨a, cap, rfl, hm, h | ⟨b, off, rfl, hlt, hn⟩⟩ := h
  · exact ⟨a, cap, rfl, hm, Or.inl h⟩
  · exact ⟨_, cap, rfl, hm, Or.inr ⟨b, off, rfl, Nat.lt_of_lt_of_le hlt hb.size, hn.below hb hlt⟩⟩
theorem htIn_nil (w : World) : HtIn w (.slice none 0 0) [] := ⟨none, 0, rfl, by simp, Or.inl rfl⟩
theorem htIn_form {w : World} {v : Value} {l : List (Nat × Nat × Nat)} (h : HtIn w v l) : ∃ a cap, v = .slice a l.length cap ∧ l.length ≤ maxLen := by
  obtain ⟨a, cap, h1, h2, _⟩ := h
  exact ⟨a, cap, h1, h2⟩
def htCells : List (Nat × Nat × Nat) → List Value
  | [] => []
  | x :: r => .int .i64 (x.1 : Int) :: .int .i64 (x.2.1 : Int) :: .int .i64 (x.2.2 : Int) :: htCells r
theorem htCells_append : ∀ (x y : List (Nat × Nat × Nat)), htCells (x ++ y) = htCells x ++ htCells y
  | [], y => rfl
  | n :: r, y => by simp [htCells, htCells_append r y]
theorem htCells_len : ∀ (x : List (Nat × Nat × Nat)), (htCells x).length = x.length * 3
  | [] => rfl
  | n :: r => by simp [htCells, htCells_len r]; omega
theorem htCells_one : ∀ (x : List (Nat × Nat × Nat)), ∀ u ∈ htCells x, u.oneCell' = true
  | [], u, h => by simp [htCells] at h
  | n :: r, u, h => by
    simp [htCells] at h
    rcases h with rfl | rfl | rfl | h
    · rfl
    · rfl
    · rfl
    · exact htCells_one r u h
theorem htCells_at : ∀ (l : List (Nat × Nat × Nat)) (i : Nat) (x : Nat × Nat × Nat), l[i]? = some x → (htCells l)[i * 3]? = some (.int .i64 (x.1 : Int)) ∧ (htCells l)[i * 3 + 1]? = some (.int .i64 (x.2.1 : Int)) ∧ (htCells l)[i * 3 + 2]? = some (.int .i64 (x.2.2 : Int))
  | [], i, n, h => by simp at h
  | m :: r, 0, n, h => by
    simp at h
    subst h
    exact ⟨rfl, rfl, rfl⟩
  | m :: r, i + 1, n, h => by
    have := htCells_at r i n (by simpa using h)
    rw [show (i + 1) * 3 = i * 3 + 1 + 1 + 1 by omega]
    simpa [htCells] using this
/-- A slice of the call's own that reads as the spans l. -/
def HtOwn (w : World) (B : Nat) (v : Value) (l : List (Nat × Nat × Nat)) : Prop := w.ownsRow B 64 3 v l.length (htCells l)
theorem HtOwn.nil (w : World) (B : Nat) : HtOwn w B (.slice none 0 0) [] := ⟨rfl, Or.inl ⟨rfl, rfl⟩⟩
theorem HtOwn.isIn {w : World} {B : Nat} {v : Value} {l : List (Nat × Nat × Nat)} (h : HtOwn w B v l) (hm : l.length ≤ maxLen) : HtIn w v l := by
  rcases h.2 with ⟨hv, h0⟩ | ⟨g, cap, cur, hv, hb, hg, hc, _⟩
  · have e : l = [] := List.eq_nil_of_length_eq_zero h0
    subst e
    rw [hv]
    exact htIn_nil w
  · refine ⟨_, _, hv, hm, Or.inr ⟨g, 0, rfl, ?_, ?_⟩⟩
    · rcases Nat.lt_or_ge g w.heap.size with h' | h'
      · exact h'
      · rw [Array.getElem?_eq_none h'] at hg; cases hg
    · intro i x hx
      have hc := htCells_at l i x hx
      have h1 := h.cells (g := g) (by rw [hv]; rfl) (i * 3) _ hc.1
      have h2 := h.cells (g := g) (by rw [hv]; rfl) (i * 3 + 1) _ hc.2.1
      have h3 := h.cells (g := g) (by rw [hv]; rfl) (i * 3 + 2) _ hc.2.2
      rw [Addr.add_lit] at h1 h2 h3
      exact ⟨h1, h2, h3⟩
theorem HtOwn.kept {w w' : World} {B : Nat} {v : Value} {l : List (Nat × Nat × Nat)} (h : HtOwn w B v l) (hb : Below w.heap.size w w') : HtOwn w' B v l := by
  refine World.ownsRow.kept (row := none) h ⟨hb.os, hb.tape, hb.output, hb.size, fun k hk _ => hb.block k hk⟩ ?_
  cases hv : v.ownBlock with
  | none => exact Or.inl rfl
  | some x => exact Or.inr (by simp)
theorem HtOwn.form {w : World} {B : Nat} {v : Value} {l : List (Nat × Nat × Nat)} (h : HtOwn w B v l) : ∃ a cap, v = .slice a l.length cap := by
  rcases h.2 with ⟨hv, h0⟩ | ⟨g, cap, cur, hv, _⟩
  · exact ⟨none, 0, by rw [hv, h0]⟩
  · exact ⟨_, _, hv⟩
theorem HtOwn.grown {w w' : World} {B : Nat} {v : Value} {l : List (Nat × Nat × Nat)} (h : HtOwn w B v l) (hB : B ≤ w.heap.size) (hg : w.grownBy w' v.ownBlock) : Below B w w' := by
  refine ⟨hg.os, hg.tape, hg.output, hg.size, fun k hk => hg.block k (by omega) ?_⟩
  intro e
  rcases h.2 with ⟨hv, _⟩ | ⟨b, cap, cur, hv, hb, _⟩
  · rw [hv] at e; cases e
  · rw [hv] at e
    injection e with e
    simp only at e
    omega
/-- append of one span, which lies in a new row. -/
theorem wpList_append_ht {ops : Array Oper} {rest : List Oper} {o : Oper} {a : Act} {Q : Exit → Act → World → Prop} {w : World} (hgd : o.guard = none) (s x : Operand)
    (ho : o.op = .call { callee := .builtin .append, args := #[s, x], argTypes := #[42, 42] })
    (B : Nat) (v : Value) (hs : a.eval s = v) (l : List (Nat × Nat × Nat)) (hown : HtOwn w B v l) (g2 c2 : Nat) (y : Nat × Nat × Nat) (hx : a.eval x = .slice (some ⟨g2, 0, none⟩) 1 c2)
    (hnew : w.cell? ⟨g2, 0, none⟩ = some (.int .i64 (y.1 : Int))) (hnew2 : w.cell? ⟨g2, 1, none⟩ = some (.int .i64 (y.2.1 : Int))) (hnew3 : w.cell? ⟨g2, 2, none⟩ = some (.int .i64 (y.2.2 : Int))) (hlen : l.length ≤ 1000000000) (hbase : B ≤ w.heap.size)
    (h : ∀ g cap w', HtOwn w' B (.slice (some ⟨g, 0, none⟩) (l.length + 1) cap) (l ++ [y]) → w.grownBy w' v.ownBlock → B ≤ g → g < w'.heap.size → wpList Tryd.prog ops Q rest (a.put o.dst (.slice (some ⟨g, 0, none⟩) (l.length + 1) cap)) w') : wpList Tryd.prog ops Q (o :: rest) a w := by
  have hinfo : (Tryd.prog.info? 64).map (fun i => (i.zero, i.size, i.bytes)) = some (some (.agg #[.int .i64 0, .int .i64 0, .int .i64 0]), 3, 24) := by kernel_rfl
  obtain ⟨i0, hi, hz0, hz1, hz2⟩ := info_parts hinfo
  refine wpList_append_lies w hgd s x 42 ho B 64 i0 _ 3 24 Tryd.underlying42 hi hz0 hz1 hz2 rfl (by decide) v l.length (htCells l) hs hown ⟨g2, 0, none⟩ 1 c2 (htCells [y]) hx rfl ?_ (htCells_one [y]) (by omega) (by unfold maxLen; omega) (by omega) hbase _ rfl ?_
  · intro j u hj
    match j, hj with
    | 0, hj =>
      simp [htCells] at hj
      subst hj
      rw [Addr.add_lit]
      exact hnew
    | 1, hj =>
      simp [htCells] at hj
      subst hj
      rw [Addr.add_lit]
      exact hnew2
    | 2, hj =>
      simp [htCells] at hj
      subst hj
      rw [Addr.add_lit]
      exact hnew3
    | j + 3, hj => simp [htCells] at hj
  · intro g cap w' h1 h2 h3 h4
    have e : HtOwn w' B (.slice (some ⟨g, 0, none⟩) (l.length + 1) cap) (l ++ [y]) := by
      unfold HtOwn
      rw [htCells_append]
      simpa using h1
    have hg : B ≤ g := by
      rcases h3 with h3 | h3
      · rcases hown.2 with ⟨hv, _⟩ | ⟨g', cap', cur, hv, hb, _⟩
        · rw [hv] at h3; cases h3
        · rw [hv] at h3
          injection h3 with h3
          simp at h3
          omega
      · omega
    exact h g cap w' e h2 hg h4
end Go.Proofs.YtciaagphclddjaaDoor
namespace Go.Proofs.YtciaagphclddjaaDoor
set_option linter.unusedSimpArgs false
set_option linter.unusedVariables false
set_option maxRecDepth 100000
open Go.ChangeShapes Go.WideShapes Go.ChangeAt Go.RowKit Go.Deep Go.Joins

/-- A slice that reads as the texts ts. -/
def TsIn (w : World) (v : Value) (ts : List ByteArray) : Prop := ∃ a cap, v = .slice a ts.length cap ∧ (ts.length ≤ cap ∧ cap ≤ maxLen) ∧ (ts = [] ∨ ∃ b off, a = some ⟨b, off, none⟩ ∧ b < w.heap.size ∧ ∀ i t, ts[i]? = some t → w.cell? ⟨b, off + i, none⟩ = some (.string t))
theorem TsIn.below {w w' : World} {v : Value} {ts : List ByteArray} (h : TsIn w v ts) (hb : Below w.heap.size w w') : TsIn w' v ts := by
  obtain ⟨a, cap, rfl, hm, h | ⟨b, off, rfl, hlt, hn⟩⟩ := h
  · exact ⟨a, cap, rfl, hm, Or.inl h⟩
  · exact ⟨_, cap, rfl, hm, Or.inr ⟨b, off, rfl, Nat.lt_of_lt_of_le hlt hb.size, fun i t ht => (hb.cell (p := ⟨b, _, none⟩) hlt).trans (hn i t ht)⟩⟩
theorem open_texts {H : Type} {enc : TypeId × Value → H} {W : World} {base : Nat} {sp : Nat → Bool} {held : Bool} {v : Value} {d : DataW H} {p : List MemPlace}
    (hval : Value.okWide Tryd.prog W .any base 39 v) (h : DataW.Trod enc Tryd.prog W 0 sp held 39 v d p) : ∃ ts : List ByteArray, TsIn W v ts ∧ ∀ t ∈ ts, t.size ≤ maxLen := by
  have hce : Tryd.prog.cellsOf 9 = 1 := by kernel_rfl
  obtain ⟨a0, len0, cap0, rfl⟩ := okWide_slice Tryd.underlying39 hval
  obtain ⟨fuel, hf⟩ := h
  rcases open_slice Tryd.underlying39 hf with ⟨hc, _⟩ | ⟨a, len, cap, m, n, D, Pl, hc, hb, hl, hm, hmm, _, hx⟩
  · simp [Value.cells] at hc
    obtain ⟨rfl, rfl, rfl⟩ := hc
    exact ⟨[], ⟨none, 0, rfl, by simp, Or.inl rfl⟩, by simp⟩
  · simp [Value.cells] at hc
    obtain ⟨rfl, rfl, rfl⟩ := hc
    have hlm : len0 ≤ m := by rw [hmm]; split <;> omega
    have each : ∀ i, i < len0 → ∃ t : ByteArray, W.cells? 0 (a.add (i * 1)) 1 = some [.string t] ∧ t.size ≤ maxLen := by
      intro i hi
      obtain ⟨cs', h1, h2⟩ := hx i (by omega)
      rw [hce] at h1
      obtain ⟨t, rfl, _, hw⟩ := DataW.trod_string Tryd.underlying9 h2
      exact ⟨t, h1, hw⟩
    obtain ⟨q, hq⟩ := choose_lt each
    refine ⟨(List.range len0).map q, ⟨some a, cap0, by simp, by simp; omega, ?_⟩, ?_⟩
    · rcases Nat.eq_zero_or_pos len0 with h0 | h0
      · subst h0; exact Or.inl rfl
      right
      obtain ⟨b, off, spot⟩ := a
      have cells : ∀ i, i < len0 → W.cell? ((⟨b, off, spot⟩ : Addr).add i) = some (.string (q i)) := by
        intro i hi
        obtain ⟨_, _, hcell⟩ := World.cells?_some (hq i hi).1
        have := hcell 0 (by omega)
        rw [add_add, Nat.mul_one, Nat.add_zero] at this
        simpa using this
      have hspot : spot = none := by
        have := cells 0 h0
        simpa [Addr.add] using World.cell?_spot this
      subst hspot
      have plain : ∀ k, (⟨b, off, none⟩ : Addr).add k = ⟨b, off + k, none⟩ := by
        intro k
        rcases k with _ | k <;> simp [Addr.add]
      refine ⟨b, off, rfl, ?_, ?_⟩
      · have := cells 0 h0
        rw [plain] at this
        rcases Nat.lt_or_ge b W.heap.size with h' | h'
        · exact h'
        · simp [World.cell?, Array.getElem?_eq_none h'] at this
      · intro i t ht
        have hi : i < len0 := by
          rcases Nat.lt_or_ge i len0 with h' | h'
          · exact h'
          · simp [h'] at ht
        have et : q i = t := by simpa [hi] using ht
        subst et
        have := cells i hi
        rwa [plain] at this
    · intro t ht
      obtain ⟨i, hi, rfl⟩ := List.mem_map.1 ht
      exact (hq i (List.mem_range.1 hi)).2
end Go.Proofs.YtciaagphclddjaaDoor
namespace Go.Proofs.YtciaagphclddjaaDoor
set_option linter.unusedSimpArgs false
set_option linter.unusedVariables false
set_option maxRecDepth 100000
open Go.RowKit
/-- The words as lists of bytes. -/
def wdL (l : List ByteArray) : List (List UInt8) := l.map fun x => x.data.toList
theorem wdL_len (l : List ByteArray) : (wdL l).length = l.length := by simp [wdL]
theorem wdL_get {l : List ByteArray} {i : Nat} {x : ByteArray} (h : l[i]? = some x) : (wdL l)[i]? = some x.data.toList := by simp [wdL, h]
/-- A word is there ahead of place k. -/
def wHas (l : List ByteArray) (x : ByteArray) (k : Nat) : Prop := ∃ m, m < k ∧ l[m]? = some x
/-- What is wrong with word i. -/
noncomputable def wBad (l : List ByteArray) (i : Nat) : Int :=
  match l[i]? with
  | none => 0
  | some x => if x.size < 1 ∨ 20 < x.size then 5 else @ite _ (wHas l x i) (Classical.propDecidable _) 6 0
/-- What is wrong with n words from word i on. -/
noncomputable def wFrom (l : List ByteArray) : Nat → Nat → Int
  | 0, _ => 0
  | n + 1, i => if wBad l i = 0 then wFrom l n (i + 1) else wBad l i
/-- What is wrong with words. -/
noncomputable def wF (l : List ByteArray) : Int := if 20 < l.length then 3 else wFrom l l.length 0
theorem wBad_size {l : List ByteArray} {i : Nat} {x : ByteArray} (h : l[i]? = some x) (hs : x.size < 1 ∨ 20 < x.size) : wBad l i = 5 := by
  unfold wBad
  rw [h]
  exact if_pos hs
theorem wBad_has {l : List ByteArray} {i : Nat} {x : ByteArray} (h : l[i]? = some x) (hs : ¬ (x.size < 1 ∨ 20 < x.size)) (hh : wHas l x i) : wBad l i = 6 := by
  unfold wBad
  rw [h]
  simp only
  rw [if_neg hs, if_pos hh]
theorem wBad_ok {l : List ByteArray} {i : Nat} {x : ByteArray} (h : l[i]? = some x) (hs : ¬ (x.size < 1 ∨ 20 < x.size)) (hh : ¬ wHas l x i) : wBad l i = 0 := by
  unfold wBad
  rw [h]
  simp only
  rw [if_neg hs, if_neg hh]
theorem wFrom_zero (l : List ByteArray) : ∀ n i, wFrom l n i = 0 → ∀ k, i ≤ k → k < i + n → wBad l k = 0
  | 0, i, _, k, h1, h2 => by omega
  | n + 1, i, h, k, h1, h2 => by
    unfold wFrom at h
    by_cases hb : wBad l i = 0
    · rw [if_pos hb] at h
      rcases Nat.eq_or_lt_of_le h1 with rfl | h1
      · exact hb
      · exact wFrom_zero l n (i + 1) h k h1 (by omega)
    · rw [if_neg hb] at h
      exact absurd h hb
theorem wF_zero {l : List ByteArray} (h : wF l = 0) : l.length ≤ 20 ∧ ∀ x ∈ l, 1 ≤ x.size ∧ x.size ≤ 20 := by
  unfold wF at h
  by_cases h1 : 20 < l.length
  · rw [if_pos h1] at h; cases h
  · rw [if_neg h1] at h
    refine ⟨by omega, fun x hx => ?_⟩
    obtain ⟨i, hi⟩ := List.mem_iff_getElem?.1 hx
    have hil : i < l.length := by
      rcases Nat.lt_or_ge i l.length with h' | h'
      · exact h'
      · rw [List.getElem?_eq_none h'] at hi; cases hi
    have hb := wFrom_zero l l.length 0 h i (by omega) (by omega)
    refine Classical.byContradiction fun hc => ?_
    rw [wBad_size hi (by omega)] at hb
    cases hb
end Go.Proofs.YtciaagphclddjaaDoor
