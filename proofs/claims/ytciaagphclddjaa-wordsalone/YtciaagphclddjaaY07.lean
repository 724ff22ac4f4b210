/- A net of words: plain mathematics: the longest end of a text that is in the net; what is in it, and which words end where. append, of a number. -/
import Derived.Test.YtciaagphclddjaaY04
import Derived.OwnWalk
import Derived.KernelRfl
namespace Go.Proofs.Ytciaagphclddjaa
set_option linter.unusedSimpArgs false
set_option linter.unusedVariables false
set_option maxRecDepth 100000
open Go.RowKit
/-- The longest end of a text that is in the net. -/
def lsf (D : List UInt8 → Bool) : List UInt8 → List UInt8
  | [] => []
  | c :: r => if D (c :: r) then c :: r else lsf D r
/-- The longest end that is shorter than it. -/
def bkF (D : List UInt8 → Bool) : List UInt8 → List UInt8
  | [] => []
  | _ :: r => lsf D r
theorem lsf_self {D : List UInt8 → Bool} : ∀ {q : List UInt8}, D q = true → lsf D q = q
  | [], _ => rfl
  | c :: r, h => by rw [lsf, if_pos h]
theorem lsf_in {D : List UInt8 → Bool} (h0 : D [] = true) : ∀ q, D (lsf D q) = true
  | [] => h0
  | c :: r => by
    rw [lsf]
    split
    · assumption
    · exact lsf_in h0 r
theorem lsf_suf (D : List UInt8 → Bool) : ∀ q, lsf D q <:+ q
  | [] => List.suffix_refl _
  | c :: r => by
    rw [lsf]
    split
    · exact List.suffix_refl _
    · exact (lsf_suf D r).trans (List.suffix_cons c r)
theorem suf_lsf {D : List UInt8 → Bool} {x : List UInt8} (hx : D x = true) : ∀ {q : List UInt8}, x <:+ q → x <:+ lsf D q
  | [], h => h
  | c :: r, h => by
    rw [lsf]
    split
    · exact h
    · rename_i hn
      rcases List.suffix_cons_iff.1 h with rfl | h
      · exact absurd hx hn
      · exact suf_lsf hx h
theorem lsf_len (D : List UInt8 → Bool) (q : List UInt8) : (lsf D q).length ≤ q.length := (lsf_suf D q).length_le
theorem bkF_len (D : List UInt8 → Bool) (q : List UInt8) (h : q ≠ []) : (bkF D q).length < q.length := by
  cases q with
  | nil => exact absurd rfl h
  | cons c r =>
    have := lsf_len D r
    simp only [bkF, List.length_cons]
    omega
theorem bkF_in {D : List UInt8 → Bool} (h0 : D [] = true) : ∀ q, D (bkF D q) = true
  | [] => h0
  | c :: r => lsf_in h0 r
/-- With a text, what it begins with is in the net. -/
def Pcl (D : List UInt8 → Bool) : Prop := ∀ q c, D (q ++ [c]) = true → D q = true
theorem lsf_step {D : List UInt8 → Bool} (hp : Pcl D) (c : UInt8) : ∀ q, lsf D (q ++ [c]) = lsf D (lsf D q ++ [c])
  | [] => rfl
  | a :: r => by
    by_cases h : D (a :: r) = true
    · rw [lsf_self h]
    · rw [show lsf D (a :: r) = lsf D r by rw [lsf, if_neg h], List.cons_append, lsf]
      rw [if_neg (fun h' : D (a :: (r ++ [c])) = true => h (hp (a :: r) c h'))]
      exact lsf_step hp c r
theorem lsf_congr {D D' : List UInt8 → Bool} : ∀ q, (∀ s : List UInt8, s.length ≤ q.length → D s = D' s) → lsf D q = lsf D' q
  | [], _ => rfl
  | c :: r, h => by
    rw [lsf, lsf, h (c :: r) (Nat.le_refl _), lsf_congr r (fun s hs => h s (by simp; omega))]
theorem bkF_congr {D D' : List UInt8 → Bool} (q : List UInt8) (h : ∀ s : List UInt8, s.length < q.length → D s = D' s) : bkF D q = bkF D' q := by
  cases q with
  | nil => rfl
  | cons c r => exact lsf_congr r (fun s hs => h s (by simp; omega))
theorem bkF_one (D : List UInt8 → Bool) (c : UInt8) : bkF D [c] = [] := rfl
theorem bkF_snoc {D : List UInt8 → Bool} (hp : Pcl D) (p : List UInt8) (c : UInt8) (h : p ≠ []) : bkF D (p ++ [c]) = lsf D (bkF D p ++ [c]) := by
  cases p with
  | nil => exact absurd rfl h
  | cons a r => exact lsf_step hp c r
/-- A step back. -/
theorem lsf_next {D : List UInt8 → Bool} (hp : Pcl D) (p : List UInt8) (c : UInt8) (h : p ≠ []) (hn : D (p ++ [c]) = false) : lsf D (p ++ [c]) = lsf D (bkF D p ++ [c]) := by
  cases p with
  | nil => exact absurd rfl h
  | cons a r =>
    rw [List.cons_append, lsf, if_neg (by rw [← List.cons_append, hn]; simp)]
    exact lsf_step hp c r
theorem lsf_none {D : List UInt8 → Bool} (c : UInt8) (hn : D [c] = false) : lsf D [c] = [] := by
  rw [lsf, if_neg (by rw [hn]; simp)]
  rfl
/-- The word of number i. -/
def wdAt (L : List (List UInt8)) (i : Nat) : List UInt8 := L.getD i []
theorem wdAt_some {L : List (List UInt8)} {i : Nat} {x : List UInt8} (h : L[i]? = some x) : wdAt L i = x := by
  unfold wdAt
  rw [List.getD_eq_getElem?_getD, h]
  rfl
/-- Words that may be. -/
structure WOk (L : List (List UInt8)) : Prop where
  many : L.length ≤ 20
  len : ∀ i, i < L.length → 1 ≤ (wdAt L i).length ∧ (wdAt L i).length ≤ 20
  other : ∀ i j, i < L.length → j < L.length → wdAt L i = wdAt L j → i = j
/-- What is in the net when all words have grown to m bytes, and those ahead of number n to one more. -/
def inN (L : List (List UInt8)) (m n : Nat) (q : List UInt8) : Bool := decide (q = []) || (List.range L.length).any fun i => decide (q <+: wdAt L i) && (decide (q.length ≤ m) || (decide (q.length = m + 1) && decide (i < n)))
theorem inN_iff (L : List (List UInt8)) (m n : Nat) (q : List UInt8) : inN L m n q = true ↔ q = [] ∨ ∃ i, i < L.length ∧ q <+: wdAt L i ∧ (q.length ≤ m ∨ q.length = m + 1 ∧ i < n) := by
  unfold inN
  simp
theorem inN_nil (L : List (List UInt8)) (m n : Nat) : inN L m n [] = true := (inN_iff L m n []).2 (Or.inl rfl)
theorem inN_pcl (L : List (List UInt8)) (m n : Nat) : Pcl (inN L m n) := by
  intro q c h
  rw [inN_iff] at h ⊢
  rcases h with h | ⟨i, h1, h2, h3⟩
  · simp at h
  · refine Or.inr ⟨i, h1, (List.prefix_append q [c]).trans h2, Or.inl ?_⟩
    simp at h3
    omega
theorem inN_len {L : List (List UInt8)} {m n : Nat} {q : List UInt8} (h : inN L m n q = true) : q.length ≤ m + 1 := by
  rcases (inN_iff L m n q).1 h with rfl | ⟨i, h1, h2, h3⟩
  · simp
  · omega
theorem inN_next (L : List (List UInt8)) (m : Nat) : inN L m L.length = inN L (m + 1) 0 := by
  funext q
  rw [Bool.eq_iff_iff, inN_iff, inN_iff]
  constructor
  · rintro (h | ⟨i, h1, h2, h3⟩)
    · exact Or.inl h
    · exact Or.inr ⟨i, h1, h2, Or.inl (by omega)⟩
  · rintro (h | ⟨i, h1, h2, h3⟩)
    · exact Or.inl h
    · exact Or.inr ⟨i, h1, h2, by omega⟩
theorem inN_grow {L : List (List UInt8)} {m n : Nat} (hn : n < L.length) (hm : m < (wdAt L n).length) (q : List UInt8) : inN L m (n + 1) q = (inN L m n q || decide (q = (wdAt L n).take (m + 1))) := by
  rw [Bool.eq_iff_iff, Bool.or_eq_true, decide_eq_true_iff, inN_iff, inN_iff]
  constructor
  · rintro (h | ⟨i, h1, h2, h3⟩)
    · exact Or.inl (Or.inl h)
    · by_cases hi : q.length ≤ m ∨ (q.length = m + 1 ∧ i < n)
      · exact Or.inl (Or.inr ⟨i, h1, h2, hi⟩)
      · obtain rfl : i = n := by omega
        have : q.length = m + 1 := by omega
        refine Or.inr ?_
        rw [← this]
        exact List.prefix_iff_eq_take.1 h2
  · rintro ((h | ⟨i, h1, h2, h3⟩) | h)
    · exact Or.inl h
    · exact Or.inr ⟨i, h1, h2, by omega⟩
    · refine Or.inr ⟨n, hn, ?_, Or.inr ⟨?_, by omega⟩⟩
      · rw [h]; exact List.take_prefix _ _
      · rw [h, List.length_take]; omega
theorem inN_stay {L : List (List UInt8)} {m n : Nat} (hm : (wdAt L n).length ≤ m) : inN L m (n + 1) = inN L m n := by
  funext q
  rw [Bool.eq_iff_iff, inN_iff, inN_iff]
  constructor
  · rintro (h | ⟨i, h1, h2, h3⟩)
    · exact Or.inl h
    · refine Or.inr ⟨i, h1, h2, ?_⟩
      have := h2.length_le
      by_cases hi : i = n
      · subst hi; omega
      · omega
  · rintro (h | ⟨i, h1, h2, h3⟩)
    · exact Or.inl h
    · exact Or.inr ⟨i, h1, h2, by omega⟩
/-- Where a word has grown to. -/
theorem inN_take (L : List (List UInt8)) (m n i : Nat) (hi : i < L.length) : inN L m n ((wdAt L i).take m) = true := by
  refine (inN_iff _ _ _ _).2 (Or.inr ⟨i, hi, List.take_prefix _ _, Or.inl ?_⟩)
  rw [List.length_take]
  omega
theorem inN_take1 (L : List (List UInt8)) (m n i : Nat) (hi : i < L.length) (h : i < n) : inN L m n ((wdAt L i).take (m + 1)) = true := by
  refine (inN_iff _ _ _ _).2 (Or.inr ⟨i, hi, List.take_prefix _ _, ?_⟩)
  rw [List.length_take]
  omega
/-- A word has grown to its end. -/
def dnW (L : List (List UInt8)) (m n i : Nat) : Bool := decide ((wdAt L i).length ≤ m ∨ ((wdAt L i).length = m + 1 ∧ i < n))
/-- The numbers of the words (of those that have grown to their end) with which a text ends. -/
def enN (L : List (List UInt8)) (m n : Nat) (q : List UInt8) : List Nat := (List.range L.length).filter fun i => decide (wdAt L i <:+ q) && dnW L m n i
theorem enN_mem (L : List (List UInt8)) (m n : Nat) (q : List UInt8) (i : Nat) : i ∈ enN L m n q ↔ i < L.length ∧ wdAt L i <:+ q ∧ ((wdAt L i).length ≤ m ∨ ((wdAt L i).length = m + 1 ∧ i < n)) := by
  unfold enN dnW
  simp
theorem enN_len (L : List (List UInt8)) (m n : Nat) (q : List UInt8) : (enN L m n q).length ≤ L.length := by
  unfold enN
  have := List.length_filter_le (fun i => decide (wdAt L i <:+ q) && dnW L m n i) (List.range L.length)
  simpa using this
theorem enN_next (L : List (List UInt8)) (m : Nat) (q : List UInt8) : enN L m L.length q = enN L (m + 1) 0 q := by
  unfold enN
  refine List.filter_congr fun i hi => ?_
  rw [List.mem_range] at hi
  unfold dnW
  congr 1
  rw [decide_eq_decide]
  omega
/-- A text that grows: the words with which it ends are those of the longest end that was there. -/
theorem enN_back {L : List (List UInt8)} {m n : Nat} {q : List UInt8} (hq : q.length = m + 1) (hn : inN L m n q = false) : enN L m n (bkF (inN L m n) q) = enN L m n q := by
  unfold enN
  refine List.filter_congr fun i hi => ?_
  rw [List.mem_range] at hi
  by_cases hd : dnW L m n i = true
  · rw [hd, Bool.and_true, Bool.and_true, decide_eq_decide]
    have hd' : (wdAt L i).length ≤ m ∨ ((wdAt L i).length = m + 1 ∧ i < n) := of_decide_eq_true hd
    have hin : inN L m n (wdAt L i) = true := (inN_iff _ _ _ _).2 (Or.inr ⟨i, hi, List.prefix_refl _, hd'⟩)
    cases q with
    | nil => simp at hq
    | cons c r =>
      constructor
      · intro h
        exact (h.trans (lsf_suf _ r)).trans (List.suffix_cons c r)
      · intro h
        rcases List.suffix_cons_iff.1 h with e | h
        · rw [← e, hin] at hn; cases hn
        · exact suf_lsf hin h
  · rw [Bool.not_eq_true] at hd
    rw [hd, Bool.and_false, Bool.and_false]
/-- A word that has no end here changes nothing. -/
theorem enN_stay {L : List (List UInt8)} {m n : Nat} (h : ¬ (wdAt L n).length = m + 1) (q : List UInt8) : enN L m (n + 1) q = enN L m n q := by
  unfold enN
  refine List.filter_congr fun i hi => ?_
  unfold dnW
  congr 1
  rw [decide_eq_decide]
  by_cases e : i = n
  · subst e; omega
  · omega
/-- A word that ends changes nothing elsewhere. -/
theorem enN_other {L : List (List UInt8)} {m n : Nat} (h : (wdAt L n).length = m + 1) (q : List UInt8) (hq : q.length ≤ m + 1) (hne : q ≠ wdAt L n) : enN L m (n + 1) q = enN L m n q := by
  unfold enN
  refine List.filter_congr fun i hi => ?_
  by_cases e : i = n
  · subst e
    have : ¬ wdAt L i <:+ q := fun hs => hne (hs.eq_of_length (by have := hs.length_le; omega)).symm
    rw [decide_eq_false this, Bool.false_and, Bool.false_and]
  · unfold dnW
    congr 1
    rw [decide_eq_decide]
    omega
theorem enN_sorted (L : List (List UInt8)) (m n : Nat) (q : List UInt8) : (enN L m n q).Pairwise (· < ·) := List.Pairwise.filter _ List.pairwise_lt_range
theorem enN_fresh {L : List (List UInt8)} {m n : Nat} (h : (wdAt L n).length = m + 1) (q : List UInt8) : ¬ n ∈ enN L m n q := by
  rw [enN_mem]
  rintro ⟨_, _, h3⟩
  omega
/-- A word ends here. -/
theorem enN_end {L : List (List UInt8)} {m n : Nat} (hn : n < L.length) (h : (wdAt L n).length = m + 1) : (enN L m n (wdAt L n) ++ [n]).Perm (enN L m (n + 1) (wdAt L n)) := by
  have hnd : (enN L m n (wdAt L n) ++ [n]).Nodup := by
    rw [List.nodup_append]
    refine ⟨(enN_sorted L m n _).imp (fun hh => Nat.ne_of_lt hh), by simp, fun a ha b hb e => ?_⟩
    rw [List.mem_singleton] at hb
    subst hb
    subst e
    exact enN_fresh h _ ha
  have hnd2 : (enN L m (n + 1) (wdAt L n)).Nodup := (enN_sorted L m (n + 1) _).imp (fun hh => Nat.ne_of_lt hh)
  refine (List.perm_ext_iff_of_nodup hnd hnd2).2 fun i => ?_
  rw [List.mem_append, List.mem_singleton, enN_mem, enN_mem]
  constructor
  · rintro (⟨h1, h2, h3⟩ | rfl)
    · exact ⟨h1, h2, by omega⟩
    · exact ⟨hn, List.suffix_refl _, Or.inr ⟨h, by omega⟩⟩
  · rintro ⟨h1, h2, h3⟩
    by_cases e : i = n
    · exact Or.inr e
    · exact Or.inl ⟨h1, h2, by omega⟩
/-- Sorted it is the same list. -/
theorem sort_end (a b : List Nat) (hp : a.Perm b) (hb : b.Pairwise (· < ·)) : (a.map fun x : Nat => (x : Int)).mergeSort (fun x y => decide (x ≤ y)) = b.map fun x : Nat => (x : Int) := by
  have h1 : ((a.map fun x : Nat => (x : Int)).mergeSort (fun x y => decide (x ≤ y))).Pairwise (fun x y : Int => x ≤ y) := by
    have := List.pairwise_mergeSort (le := fun x y : Int => decide (x ≤ y)) (fun a b c h1 h2 => by simp at h1 h2 ⊢; omega) (fun a b => by simp; omega) (a.map fun x : Nat => (x : Int))
    exact this.imp (fun h => of_decide_eq_true h)
  have h2 : (b.map fun x : Nat => (x : Int)).Pairwise (fun x y : Int => x ≤ y) := List.pairwise_map.2 (hb.imp (fun h => by omega))
  have h3 : ((a.map fun x : Nat => (x : Int)).mergeSort (fun x y => decide (x ≤ y))).Perm (b.map fun x : Nat => (x : Int)) := (List.mergeSort_perm _ _).trans (hp.map _)
  exact h3.eq_of_pairwise (fun a b _ _ h h' => by omega) h1 h2
/-- The words with which a text ends: those of the net's longest end of it. -/
theorem enN_lsf {L : List (List UInt8)} (hL : WOk L) (q : List UInt8) : enN L 20 0 (lsf (inN L 20 0) q) = enN L 20 0 q := by
  unfold enN
  refine List.filter_congr fun i hi => ?_
  rw [List.mem_range] at hi
  congr 1
  rw [decide_eq_decide]
  have hin : inN L 20 0 (wdAt L i) = true := (inN_iff _ _ _ _).2 (Or.inr ⟨i, hi, List.prefix_refl _, Or.inl (hL.len i hi).2⟩)
  exact ⟨fun h => h.trans (lsf_suf _ q), fun h => suf_lsf hin h⟩
/-- At the beginning there is nothing. -/
theorem inN_start (L : List (List UInt8)) (q : List UInt8) : inN L 0 0 q = decide (q = []) := by
  rw [Bool.eq_iff_iff, inN_iff, decide_eq_true_iff]
  constructor
  · rintro (h | ⟨i, h1, h2, h3⟩)
    · exact h
    · exact List.eq_nil_of_length_eq_zero (by omega)
  · exact Or.inl
theorem enN_start {L : List (List UInt8)} (hL : WOk L) (q : List UInt8) : enN L 0 0 q = [] := by
  refine List.eq_nil_iff_forall_not_mem.2 fun i hi => ?_
  obtain ⟨h1, h2, h3⟩ := (enN_mem _ _ _ _ _).1 hi
  have := hL.len i h1
  omega
/-- The hits at a place: the words with which the text up to there ends. -/
theorem hitsAt_en {L : List (List UInt8)} (hL : WOk L) (s : List UInt8) (e : Nat) (he : e ≤ s.length) : ∀ n, n ≤ L.length → hitsAt L s e n = (((List.range n).filter fun i => decide (wdAt L i <:+ s.take e) && dnW L 20 0 i).map fun i => (i, e - (wdAt L i).length, e))
  | 0, _ => rfl
  | n + 1, hn => by
    have hx : L[n]? = some L[n] := List.getElem?_eq_getElem (by omega)
    have hw : wdAt L n = L[n] := wdAt_some hx
    have hl := hL.len n (by omega)
    rw [hitsAt, hitsAt_en hL s e he n (by omega), List.range_succ, List.filter_append, List.map_append]
    congr 1
    rw [hx]
    have hd : dnW L 20 0 n = true := decide_eq_true (Or.inl hl.2)
    have hst : stW s e L[n] = decide (wdAt L n <:+ s.take e) := by
      rw [Bool.eq_iff_iff, stW_iff, decide_eq_true_iff, hw]
      constructor
      · rintro ⟨h1, h2, h3⟩
        rw [← h3]
        have e1 : cut s (e - L[n].length) e = (s.take e).drop (e - L[n].length) := by unfold cut; rw [List.drop_take]
        rw [e1]
        exact List.drop_suffix _ _
      · intro h
        have h1 := h.length_le
        rw [List.length_take] at h1
        refine ⟨by omega, he, ?_⟩
        obtain ⟨t, ht⟩ := h
        have ht1 : t.length = e - L[n].length := by
          have := congrArg List.length ht
          rw [List.length_append, List.length_take] at this
          omega
        have e1 : cut s (e - L[n].length) e = (s.take e).drop (e - L[n].length) := by unfold cut; rw [List.drop_take]
        rw [e1, ← ht, ← ht1, List.drop_left]
    simp only [hitOne, hst, hd, hw, List.filter_cons, List.filter_nil, Bool.and_true]
    split <;> simp [hw]
theorem hitsAt_all {L : List (List UInt8)} (hL : WOk L) (s : List UInt8) (e : Nat) (he : e ≤ s.length) : hitsAt L s e L.length = (enN L 20 0 (s.take e)).map fun i => (i, e - (wdAt L i).length, e) := hitsAt_en hL s e he L.length (Nat.le_refl _)
end Go.Proofs.Ytciaagphclddjaa
namespace Go.Proofs.Ytciaagphclddjaa
set_option linter.unusedSimpArgs false
set_option linter.unusedVariables false
set_option maxRecDepth 100000
open Go.RowKit
def isCells (l : List Nat) : List Value := l.map fun x : Nat => Value.int .i64 (x : Int)
/-- A slice of the call's own that reads as the numbers l. -/
def IsOwn (w : World) (B : Nat) (v : Value) (l : List Nat) : Prop := w.ownsRow B 3 1 v l.length (isCells l)
theorem IsOwn.nil (w : World) (B : Nat) : IsOwn w B (.slice none 0 0) [] := ⟨rfl, Or.inl ⟨rfl, rfl⟩⟩
theorem IsOwn.isIn {w : World} {B : Nat} {v : Value} {l : List Nat} (h : IsOwn w B v l) (hm : l.length ≤ maxLen) : IsIn w v l := by
  rcases h.2 with ⟨hv, h0⟩ | ⟨g, cap, cur, hv, hb, hg, hc, _⟩
  · have e : l = [] := List.eq_nil_of_length_eq_zero h0
    subst e
    rw [hv]
    exact isIn_nil w
  · refine ⟨_, _, hv, hm, Or.inr ⟨g, 0, rfl, ?_, ?_⟩⟩
    · rcases Nat.lt_or_ge g w.heap.size with h' | h'
      · exact h'
      · rw [Array.getElem?_eq_none h'] at hg; cases hg
    · intro i x hx
      have := h.cells (g := g) (by rw [hv]; rfl) i (.int .i64 (x : Int)) (by simp [isCells, hx])
      rw [Addr.add_lit] at this
      exact this
theorem IsOwn.kept {w w' : World} {B : Nat} {v : Value} {l : List Nat} (h : IsOwn w B v l) (hb : Below w.heap.size w w') : IsOwn w' B v l := by
  refine World.ownsRow.kept (row := none) h ⟨hb.os, hb.tape, hb.output, hb.size, fun k hk _ => hb.block k hk⟩ ?_
  cases hv : v.ownBlock with
  | none => exact Or.inl rfl
  | some x => exact Or.inr (by simp)
theorem IsOwn.form {w : World} {B : Nat} {v : Value} {l : List Nat} (h : IsOwn w B v l) : ∃ a cap, v = .slice a l.length cap := by
  rcases h.2 with ⟨hv, h0⟩ | ⟨g, cap, cur, hv, _⟩
  · exact ⟨none, 0, by rw [hv, h0]⟩
  · exact ⟨_, _, hv⟩
theorem IsOwn.grown {w w' : World} {B : Nat} {v : Value} {l : List Nat} (h : IsOwn w B v l) (hB : B ≤ w.heap.size) (hg : w.grownBy w' v.ownBlock) : Below B w w' := by
  refine ⟨hg.os, hg.tape, hg.output, hg.size, fun k hk => hg.block k (by omega) ?_⟩
  intro e
  rcases h.2 with ⟨hv, _⟩ | ⟨b, cap, cur, hv, hb, _⟩
  · rw [hv] at e; cases e
  · rw [hv] at e
    injection e with e
    simp only at e
    omega
/-- append of one number, which lies in a new row. -/
theorem wpList_append_is {ops : Array Oper} {rest : List Oper} {o : Oper} {a : Act} {Q : Exit → Act → World → Prop} {w : World} (hgd : o.guard = none) (s x : Operand)
    (ho : o.op = .call { callee := .builtin .append, args := #[s, x], argTypes := #[57, 57] })
    (B : Nat) (v : Value) (hs : a.eval s = v) (l : List Nat) (hown : IsOwn w B v l) (g2 c2 n : Nat) (hx : a.eval x = .slice (some ⟨g2, 0, none⟩) 1 c2)
    (hnew : w.cell? ⟨g2, 0, none⟩ = some (.int .i64 (n : Int))) (hlen : l.length ≤ 1000000000) (hbase : B ≤ w.heap.size)
    (h : ∀ g cap w', IsOwn w' B (.slice (some ⟨g, 0, none⟩) (l.length + 1) cap) (l ++ [n]) → w.grownBy w' v.ownBlock → B ≤ g → g < w'.heap.size → wpList Try.prog ops Q rest (a.put o.dst (.slice (some ⟨g, 0, none⟩) (l.length + 1) cap)) w') : wpList Try.prog ops Q (o :: rest) a w := by
  have hinfo : (Try.prog.info? 3).map (fun i => (i.zero, i.size, i.bytes)) = some (some (.int .i64 0), 1, 8) := by kernel_rfl
  obtain ⟨i0, hi, hz0, hz1, hz2⟩ := info_parts hinfo
  refine wpList_append_lies w hgd s x 57 ho B 3 i0 _ 1 8 Try.underlying57 hi hz0 hz1 hz2 rfl (by decide) v l.length (isCells l) hs hown ⟨g2, 0, none⟩ 1 c2 (isCells [n]) hx rfl ?_ (by simp [isCells, Value.oneCell']) (by omega) (by unfold maxLen; omega) (by omega) hbase _ rfl ?_
  · intro j u hj
    cases j with
    | zero =>
      simp [isCells] at hj
      subst hj
      rw [Addr.add_lit]
      exact hnew
    | succ j => simp [isCells] at hj
  · intro g cap w' h1 h2 h3 h4
    have e : IsOwn w' B (.slice (some ⟨g, 0, none⟩) (l.length + 1) cap) (l ++ [n]) := by
      unfold IsOwn
      simpa [isCells] using h1
    have hg : B ≤ g := by
      rcases h3 with h3 | h3
      · rcases hown.2 with ⟨hv, _⟩ | ⟨g', cap', cur, hv, hb, _⟩
        · rw [hv] at h3; cases h3
        · rw [hv] at h3
          injection h3 with h3
          simp at h3
          omega
      · omega
    exact h g cap w' e h2 hg h4
end Go.Proofs.Ytciaagphclddjaa
