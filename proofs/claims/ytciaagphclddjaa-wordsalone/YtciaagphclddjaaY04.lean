/- Many words in a text: plain mathematics. Hits of words in memory. Words, and what may be wrong with them: plain facts. An error as the program hands it back. What the document asks of package words. Two spans are the same. What winnowfansame.Hits answers. Lists of numbers in memory. -/
import Derived.Test.YtciaagphclddjaaY03
import Derived.Test.YtciaagphclddjaaY02
import Derived.OwnWalk
import Derived.KernelRfl
import Derived.Deep.AppendLies
import Derived.Test.YtciaagphclddjaaProg
namespace Go.Proofs.Ytciaagphclddjaa
set_option linter.unusedSimpArgs false
set_option linter.unusedVariables false
set_option maxRecDepth 100000
open Go.RowKit
/-- A word ends at a place. -/
def stW (s : List UInt8) (e : Nat) (x : List UInt8) : Bool := decide (x.length ≤ e ∧ e ≤ s.length ∧ cut s (e - x.length) e = x)
theorem stW_iff (s : List UInt8) (e : Nat) (x : List UInt8) : stW s e x = true ↔ x.length ≤ e ∧ e ≤ s.length ∧ cut s (e - x.length) e = x := by simp [stW]
/-- A hit: the word's number, from, to. -/
abbrev Ht := Nat × Nat × Nat
/-- What one word tells at one place. -/
def hitOne (s : List UInt8) (e n : Nat) : Option (List UInt8) → List Ht
  | some x => if stW s e x then [(n, e - x.length, e)] else []
  | none => []
/-- The hits at one place, of the first n words. -/
def hitsAt (l : List (List UInt8)) (s : List UInt8) (e : Nat) : Nat → List Ht
  | 0 => []
  | n + 1 => hitsAt l s e n ++ hitOne s e n l[n]?
/-- The hits at the first m places. -/
def hitsTo (l : List (List UInt8)) (s : List UInt8) : Nat → List Ht
  | 0 => []
  | m + 1 => hitsTo l s m ++ hitsAt l s m l.length
/-- All hits. -/
def hits (l : List (List UInt8)) (s : List UInt8) : List Ht := hitsTo l s (s.length + 1)
theorem hitOne_len (s : List UInt8) (e n : Nat) (o : Option (List UInt8)) : (hitOne s e n o).length ≤ 1 := by
  cases o with
  | none => simp [hitOne]
  | some x => simp only [hitOne]; split <;> simp
theorem hitsAt_len (l : List (List UInt8)) (s : List UInt8) (e : Nat) : ∀ n, (hitsAt l s e n).length ≤ n
  | 0 => by simp [hitsAt]
  | n + 1 => by
    have := hitsAt_len l s e n
    have := hitOne_len s e n l[n]?
    simp [hitsAt]
    omega
theorem hitsTo_len (l : List (List UInt8)) (s : List UInt8) : ∀ m, (hitsTo l s m).length ≤ m * l.length
  | 0 => by simp [hitsTo]
  | m + 1 => by
    have := hitsTo_len l s m
    have := hitsAt_len l s m l.length
    simp [hitsTo, Nat.succ_mul]
    omega
/-- What a hit says. -/
def HtOk (l : List (List UInt8)) (s : List UInt8) (h : Ht) : Prop := ∃ x, l[h.1]? = some x ∧ h.2.1 + x.length = h.2.2 ∧ h.2.2 ≤ s.length ∧ cut s h.2.1 h.2.2 = x
theorem hitOne_ok (l : List (List UInt8)) (s : List UInt8) (e n : Nat) : ∀ h ∈ hitOne s e n l[n]?, HtOk l s h ∧ h.1 = n ∧ h.2.2 = e := by
  intro h hh
  cases hx : l[n]? with
  | none => rw [hx] at hh; cases hh
  | some x =>
    rw [hx] at hh
    simp only [hitOne] at hh
    split at hh
    · rename_i hs
      rw [List.mem_singleton] at hh
      subst hh
      obtain ⟨h1, h2, h3⟩ := (stW_iff s e x).1 hs
      exact ⟨⟨x, hx, by simp only; omega, h2, h3⟩, rfl, rfl⟩
    · cases hh
theorem hitsAt_ok (l : List (List UInt8)) (s : List UInt8) (e : Nat) : ∀ n, ∀ h ∈ hitsAt l s e n, HtOk l s h ∧ h.1 < n ∧ h.2.2 = e
  | 0, h, hh => by cases hh
  | n + 1, h, hh => by
    rw [hitsAt, List.mem_append] at hh
    rcases hh with hh | hh
    · obtain ⟨h1, h2, h3⟩ := hitsAt_ok l s e n h hh
      exact ⟨h1, by omega, h3⟩
    · obtain ⟨h1, h2, h3⟩ := hitOne_ok l s e n h hh
      exact ⟨h1, by omega, h3⟩
theorem hitsTo_ok (l : List (List UInt8)) (s : List UInt8) : ∀ m, ∀ h ∈ hitsTo l s m, HtOk l s h ∧ h.1 < l.length
  | 0, h, hh => by cases hh
  | m + 1, h, hh => by
    rw [hitsTo, List.mem_append] at hh
    rcases hh with hh | hh
    · exact hitsTo_ok l s m h hh
    · obtain ⟨h1, h2, _⟩ := hitsAt_ok l s m _ h hh
      exact ⟨h1, h2⟩
theorem hits_ok (l : List (List UInt8)) (s : List UInt8) : ∀ h ∈ hits l s, HtOk l s h ∧ h.1 < l.length := hitsTo_ok l s _
/-- A WORD AMONG OTHERS. -/
theorem hitsAt_alone (l : List (List UInt8)) (s : List UInt8) (e i : Nat) (x : List UInt8) (hx : l[i]? = some x) : ∀ n, (hitsAt l s e n).filter (fun h => h.1 == i) = if i < n then hitOne s e i (some x) else []
  | 0 => by simp [hitsAt]
  | n + 1 => by
    rw [hitsAt, List.filter_append, hitsAt_alone l s e i x hx n]
    by_cases hn : n = i
    · subst hn
      rw [if_neg (Nat.lt_irrefl _), if_pos (by omega), hx, List.nil_append]
      simp only [hitOne]
      split <;> simp
    · have h1 : (hitOne s e n l[n]?).filter (fun h => h.1 == i) = [] := List.filter_eq_nil_iff.2 fun h hh => by
        have := (hitOne_ok l s e n h hh).2.1
        simp
        omega
      rw [h1, List.append_nil]
      by_cases h2 : i < n
      · rw [if_pos h2, if_pos (by omega)]
      · rw [if_neg h2, if_neg (by omega)]
theorem hitOne_span (s : List UInt8) (e n m : Nat) (o : Option (List UInt8)) : (hitOne s e n o).map (fun h => h.2) = (hitOne s e m o).map (fun h => h.2) := by
  cases o with
  | none => rfl
  | some x => simp only [hitOne]; split <;> rfl
theorem hitsTo_alone (l : List (List UInt8)) (s : List UInt8) (i : Nat) (x : List UInt8) (hx : l[i]? = some x) : ∀ m, ((hitsTo l s m).filter (fun h => h.1 == i)).map (fun h => h.2) = (hitsTo [x] s m).map (fun h => h.2)
  | 0 => rfl
  | m + 1 => by
    have hi : i < l.length := by
      rcases Nat.lt_or_ge i l.length with h | h
      · exact h
      · rw [List.getElem?_eq_none h] at hx; cases hx
    rw [hitsTo, hitsTo, List.filter_append, List.map_append, List.map_append, hitsTo_alone l s i x hx m, hitsAt_alone l s m i x hx, if_pos hi]
    congr 1
    simp only [List.length_singleton, hitsAt, List.nil_append, List.getElem?_cons_zero]
    exact hitOne_span s m i 0 (some x)
theorem hits_alone (l : List (List UInt8)) (s : List UInt8) (i : Nat) (x : List UInt8) (hx : l[i]? = some x) : ((hits l s).filter (fun h => h.1 == i)).map (fun h => h.2) = (hits [x] s).map (fun h => h.2) := hitsTo_alone l s i x hx _
/-- A WORD MORE. -/
theorem hitsAt_more (l : List (List UInt8)) (w : List UInt8) (s : List UInt8) (e : Nat) : ∀ n, n ≤ l.length → hitsAt (l ++ [w]) s e n = hitsAt l s e n
  | 0, _ => rfl
  | n + 1, h => by
    rw [hitsAt, hitsAt, hitsAt_more l w s e n (by omega), List.getElem?_append_left (by omega)]
theorem hitsTo_more (l : List (List UInt8)) (w : List UInt8) (s : List UInt8) : ∀ m, (hitsTo (l ++ [w]) s m).filter (fun h => decide (h.1 < l.length)) = hitsTo l s m ∧ (hitsTo (l ++ [w]) s m).filter (fun h => ! decide (h.1 < l.length)) = (hitsTo [w] s m).map (fun h => (l.length, h.2))
  | 0 => ⟨rfl, rfl⟩
  | m + 1 => by
    obtain ⟨h1, h2⟩ := hitsTo_more l w s m
    have hw : (l ++ [w])[l.length]? = some w := by simp
    have ha : hitsAt (l ++ [w]) s m (l ++ [w]).length = hitsAt l s m l.length ++ hitOne s m l.length (some w) := by
      rw [List.length_append, List.length_singleton, hitsAt, hitsAt_more l w s m _ (Nat.le_refl _), hw]
    have f1 : (hitsAt l s m l.length).filter (fun h => decide (h.1 < l.length)) = hitsAt l s m l.length := List.filter_eq_self.2 fun h hh => decide_eq_true (hitsAt_ok l s m _ h hh).2.1
    have f2 : (hitsAt l s m l.length).filter (fun h => ! decide (h.1 < l.length)) = [] := List.filter_eq_nil_iff.2 fun h hh => by
      have := (hitsAt_ok l s m _ h hh).2.1
      simp [this]
    have f3 : (hitOne s m l.length (some w)).filter (fun h => decide (h.1 < l.length)) = [] := by
      simp only [hitOne]; split <;> simp
    have f4 : (hitOne s m l.length (some w)).filter (fun h => ! decide (h.1 < l.length)) = (hitOne s m 0 (some w)).map (fun h => (l.length, h.2)) := by
      simp only [hitOne]; split <;> simp
    have hs : hitsTo [w] s (m + 1) = hitsTo [w] s m ++ hitOne s m 0 (some w) := by
      simp [hitsTo, hitsAt]
    rw [hitsTo, ha, hs]
    constructor
    · rw [List.filter_append, List.filter_append, h1, f1, f3, List.append_nil, hitsTo]
    · rw [List.filter_append, List.filter_append, h2, f2, f4, List.nil_append, List.map_append]
/-- NOTHING BETWEEN THAT IS IN A WORD. -/
theorem cut_left (a b : List UInt8) {i j : Nat} (h : j ≤ a.length) : cut (a ++ b) i j = cut a i j := by
  unfold cut
  rcases Nat.lt_or_ge i a.length with h1 | h1
  · rw [List.drop_append_of_le_length (by omega), List.take_append_of_le_length (by rw [List.length_drop]; omega)]
  · rw [show j - i = 0 by omega]
    simp
theorem cut_right (a b : List UInt8) (i j : Nat) : cut (a ++ b) (a.length + i) (a.length + j) = cut b i j := by
  unfold cut
  rw [List.drop_append, List.drop_of_length_le (by omega), List.nil_append]
  congr 1
  · omega
  · congr 1
    omega
theorem cut_mem {s : List UInt8} {i j k : Nat} {c : UInt8} (h1 : i ≤ k) (h2 : k < j) (hc : s[k]? = some c) : c ∈ cut s i j := by
  unfold cut
  have : ((s.drop i).take (j - i))[k - i]? = some c := by
    rw [List.getElem?_take, if_pos (by omega), List.getElem?_drop, show i + (k - i) = k by omega]
    exact hc
  exact List.mem_of_getElem? this
/-- A hit further behind. -/
def shift (d : Nat) (h : Ht) : Ht := (h.1, h.2.1 + d, h.2.2 + d)
theorem stW_left (s t : List UInt8) (e : Nat) (x : List UInt8) (he : e ≤ s.length) : stW (s ++ 0 :: t) e x = stW s e x := by
  rw [Bool.eq_iff_iff, stW_iff, stW_iff, cut_left s _ he]
  simp
  omega
theorem stW_right (s t : List UInt8) (e : Nat) (x : List UInt8) (h0 : ¬ (0 : UInt8) ∈ x) (hx : 0 < x.length) : stW (s ++ 0 :: t) (s.length + 1 + e) x = stW t e x := by
  rw [Bool.eq_iff_iff, stW_iff, stW_iff]
  constructor
  · rintro ⟨h1, h2, h3⟩
    have hxe : x.length ≤ e := by
      refine Classical.byContradiction fun hc => h0 ?_
      rw [← h3]
      exact cut_mem (k := s.length) (by omega) (by omega) (by simp)
    refine ⟨hxe, by simp at h2; omega, ?_⟩
    have e1 : s ++ 0 :: t = (s ++ [0]) ++ t := by simp
    have e2 : s.length + 1 + e - x.length = (s ++ [0]).length + (e - x.length) := by simp; omega
    have e3 : s.length + 1 + e = (s ++ [0]).length + e := by simp
    rw [e2, e3, e1, cut_right] at h3
    exact h3
  · rintro ⟨h1, h2, h3⟩
    refine ⟨by omega, by simp; omega, ?_⟩
    have e1 : s ++ 0 :: t = (s ++ [0]) ++ t := by simp
    have e2 : s.length + 1 + e - x.length = (s ++ [0]).length + (e - x.length) := by simp; omega
    have e3 : s.length + 1 + e = (s ++ [0]).length + e := by simp
    rw [e2, e3, e1, cut_right]
    exact h3
theorem hitsAt_left (l : List (List UInt8)) (s t : List UInt8) (e : Nat) (he : e ≤ s.length) : ∀ n, hitsAt l (s ++ 0 :: t) e n = hitsAt l s e n
  | 0 => rfl
  | n + 1 => by
    rw [hitsAt, hitsAt, hitsAt_left l s t e he n]
    cases l[n]? with
    | none => rfl
    | some x => simp only [hitOne, stW_left s t e x he]
theorem hitsAt_right (l : List (List UInt8)) (hl : ∀ x ∈ l, ¬ (0 : UInt8) ∈ x ∧ 0 < x.length) (s t : List UInt8) (e : Nat) : ∀ n, hitsAt l (s ++ 0 :: t) (s.length + 1 + e) n = (hitsAt l t e n).map (shift (s.length + 1))
  | 0 => rfl
  | n + 1 => by
    rw [hitsAt, hitsAt, List.map_append, hitsAt_right l hl s t e n]
    cases hx : l[n]? with
    | none => rfl
    | some x =>
      obtain ⟨h0, h1⟩ := hl x (List.mem_of_getElem? hx)
      simp only [hitOne, stW_right s t e x h0 h1]
      cases hs : stW t e x with
      | false => simp
      | true =>
        have := ((stW_iff t e x).1 hs).1
        simp [shift]
        omega
theorem hitsTo_left (l : List (List UInt8)) (s t : List UInt8) : ∀ m, m ≤ s.length + 1 → hitsTo l (s ++ 0 :: t) m = hitsTo l s m
  | 0, _ => rfl
  | m + 1, h => by rw [hitsTo, hitsTo, hitsTo_left l s t m (by omega), hitsAt_left l s t m (by omega)]
theorem hitsTo_right (l : List (List UInt8)) (hl : ∀ x ∈ l, ¬ (0 : UInt8) ∈ x ∧ 0 < x.length) (s t : List UInt8) : ∀ m, hitsTo l (s ++ 0 :: t) (s.length + 1 + m) = hitsTo l s (s.length + 1) ++ (hitsTo l t m).map (shift (s.length + 1))
  | 0 => by rw [Nat.add_zero, hitsTo_left l s t _ (Nat.le_refl _)]; simp [hitsTo]
  | m + 1 => by
    show hitsTo l (s ++ 0 :: t) (s.length + 1 + m) ++ hitsAt l (s ++ 0 :: t) (s.length + 1 + m) l.length = hitsTo l s (s.length + 1) ++ (hitsTo l t m ++ hitsAt l t m l.length).map (shift (s.length + 1))
    rw [hitsTo_right l hl s t m, hitsAt_right l hl s t m, List.map_append, List.append_assoc]
theorem hits_between (l : List (List UInt8)) (hl : ∀ x ∈ l, ¬ (0 : UInt8) ∈ x ∧ 0 < x.length) (s t : List UInt8) : hits l (s ++ 0 :: t) = hits l s ++ (hits l t).map (shift (s.length + 1)) := by
  unfold hits
  rw [← hitsTo_right l hl s t (t.length + 1)]
  congr 1
  simp
  omega
end Go.Proofs.Ytciaagphclddjaa
namespace Go.Proofs.Ytciaagphclddjaa
set_option linter.unusedSimpArgs false
set_option linter.unusedVariables false
set_option maxRecDepth 100000
open Go.RowKit
/-- A span as a value. -/
abbrev htV (x : Nat × Nat × Nat) : Value := .agg #[.int .i64 (x.1 : Int), .int .i64 (x.2.1 : Int), .int .i64 (x.2.2 : Int)]
/-- The spans l lie in block b from off on. -/
def HtAt (w : World) (b off : Nat) (l : List (Nat × Nat × Nat)) : Prop := ∀ (i : Nat) (x : Nat × Nat × Nat), l[i]? = some x → w.cell? ⟨b, off + i * 3, none⟩ = some (.int .i64 (x.1 : Int)) ∧ w.cell? ⟨b, off + i * 3 + 1, none⟩ = some (.int .i64 (x.2.1 : Int)) ∧ w.cell? ⟨b, off + i * 3 + 2, none⟩ = some (.int .i64 (x.2.2 : Int))
/-- A slice that reads as the spans l. -/
def HtIn (w : World) (v : Value) (l : List (Nat × Nat × Nat)) : Prop := ∃ a cap, v = .slice a l.length cap ∧ l.length ≤ maxLen ∧ (l = [] ∨ ∃ b off, a = some ⟨b, off, none⟩ ∧ b < w.heap.size ∧ HtAt w b off l)
theorem HtAt.below {w w' : World} {B b off : Nat} {l : List (Nat × Nat × Nat)} (h : HtAt w b off l) (hb : Below B w w') (hlt : b < B) : HtAt w' b off l := fun i n hn =>
  ⟨(hb.cell (p := ⟨b, _, none⟩) hlt).trans (h i n hn).1, (hb.cell (p := ⟨b, _, none⟩) hlt).trans (h i n hn).2.1, (hb.cell (p := ⟨b, _, none⟩) hlt).trans (h i n hn).2.2⟩
theorem HtIn.below {w w' : World} {v : Value} {l : List (Nat × Nat × Nat)} (h : HtIn w v l) (hb : Below w.heap.size w w') : HtIn w' v l := by
  obtain ⟨a, cap, rfl, hm, h | ⟨b, off, rfl, hlt, hn⟩⟩ := h
  · exact ⟨a, cap, rfl, hm, Or.inl h⟩
  · exact ⟨_, cap, rfl, hm, Or.inr ⟨b, off, rfl, Nat.lt_of_lt_of_le hlt hb.size, hn.below hb hlt⟩⟩
theorem htIn_nil (w : World) : HtIn w (.slice none 0 0) [] := ⟨none, 0, rfl, by simp, Or.inl rfl⟩
theorem htIn_form {w : World} {v : Value} {l : List (Nat × Nat × Nat)} (h : HtIn w v l) : ∃ a cap, v = .slice a l.length cap ∧ l.length ≤ maxLen := by
  obtain ⟨a, cap, h1, h2, _⟩ := h
  exact ⟨a, cap, h1, h2⟩
def htCells : List (Nat × Nat × Nat) → List Value
  | [] => []
  | x :: r => .int .i64 (x.1 : Int) :: .int .i64 (x.2.1 : Int) :: .int .i64 (x.2.2 : Int) :: htCells r
theorem htCells_append : ∀ (x y : List (Nat × Nat × Nat)), htCells (x ++ y) = htCells x ++ htCells y
  | [], y => rfl
  | n :: r, y => by simp [htCells, htCells_append r y]
theorem htCells_len : ∀ (x : List (Nat × Nat × Nat)), (htCells x).length = x.length * 3
  | [] => rfl
  | n :: r => by simp [htCells, htCells_len r]; omega
theorem htCells_one : ∀ (x : List (Nat × Nat × Nat)), ∀ u ∈ htCells x, u.oneCell' = true
  | [], u, h => by simp [htCells] at h
  | n :: r, u, h => by
    simp [htCells] at h
    rcases h with rfl | rfl | rfl | h
    · rfl
    · rfl
    · rfl
    · exact htCells_one r u h
theorem htCells_at : ∀ (l : List (Nat × Nat × Nat)) (i : Nat) (x : Nat × Nat × Nat), l[i]? = some x → (htCells l)[i * 3]? = some (.int .i64 (x.1 : Int)) ∧ (htCells l)[i * 3 + 1]? = some (.int .i64 (x.2.1 : Int)) ∧ (htCells l)[i * 3 + 2]? = some (.int .i64 (x.2.2 : Int))
  | [], i, n, h => by simp at h
  | m :: r, 0, n, h => by
    simp at h
    subst h
    exact ⟨rfl, rfl, rfl⟩
  | m :: r, i + 1, n, h => by
    have := htCells_at r i n (by simpa using h)
    rw [show (i + 1) * 3 = i * 3 + 1 + 1 + 1 by omega]
    simpa [htCells] using this
/-- A slice of the call's own that reads as the spans l. -/
def HtOwn (w : World) (B : Nat) (v : Value) (l : List (Nat × Nat × Nat)) : Prop := w.ownsRow B 43 3 v l.length (htCells l)
theorem HtOwn.nil (w : World) (B : Nat) : HtOwn w B (.slice none 0 0) [] := ⟨rfl, Or.inl ⟨rfl, rfl⟩⟩
theorem HtOwn.isIn {w : World} {B : Nat} {v : Value} {l : List (Nat × Nat × Nat)} (h : HtOwn w B v l) (hm : l.length ≤ maxLen) : HtIn w v l := by
  rcases h.2 with ⟨hv, h0⟩ | ⟨g, cap, cur, hv, hb, hg, hc, _⟩
  · have e : l = [] := List.eq_nil_of_length_eq_zero h0
    subst e
    rw [hv]
    exact htIn_nil w
  · refine ⟨_, _, hv, hm, Or.inr ⟨g, 0, rfl, ?_, ?_⟩⟩
    · rcases Nat.lt_or_ge g w.heap.size with h' | h'
      · exact h'
      · rw [Array.getElem?_eq_none h'] at hg; cases hg
    · intro i x hx
      have hc := htCells_at l i x hx
      have h1 := h.cells (g := g) (by rw [hv]; rfl) (i * 3) _ hc.1
      have h2 := h.cells (g := g) (by rw [hv]; rfl) (i * 3 + 1) _ hc.2.1
      have h3 := h.cells (g := g) (by rw [hv]; rfl) (i * 3 + 2) _ hc.2.2
      rw [Addr.add_lit] at h1 h2 h3
      exact ⟨h1, h2, h3⟩
theorem HtOwn.kept {w w' : World} {B : Nat} {v : Value} {l : List (Nat × Nat × Nat)} (h : HtOwn w B v l) (hb : Below w.heap.size w w') : HtOwn w' B v l := by
  refine World.ownsRow.kept (row := none) h ⟨hb.os, hb.tape, hb.output, hb.size, fun k hk _ => hb.block k hk⟩ ?_
  cases hv : v.ownBlock with
  | none => exact Or.inl rfl
  | some x => exact Or.inr (by simp)
theorem HtOwn.form {w : World} {B : Nat} {v : Value} {l : List (Nat × Nat × Nat)} (h : HtOwn w B v l) : ∃ a cap, v = .slice a l.length cap := by
  rcases h.2 with ⟨hv, h0⟩ | ⟨g, cap, cur, hv, _⟩
  · exact ⟨none, 0, by rw [hv, h0]⟩
  · exact ⟨_, _, hv⟩
theorem HtOwn.grown {w w' : World} {B : Nat} {v : Value} {l : List (Nat × Nat × Nat)} (h : HtOwn w B v l) (hB : B ≤ w.heap.size) (hg : w.grownBy w' v.ownBlock) : Below B w w' := by
  refine ⟨hg.os, hg.tape, hg.output, hg.size, fun k hk => hg.block k (by omega) ?_⟩
  intro e
  rcases h.2 with ⟨hv, _⟩ | ⟨b, cap, cur, hv, hb, _⟩
  · rw [hv] at e; cases e
  · rw [hv] at e
    injection e with e
    simp only at e
    omega
/-- append of one span, which lies in a new row. -/
theorem wpList_append_ht {ops : Array Oper} {rest : List Oper} {o : Oper} {a : Act} {Q : Exit → Act → World → Prop} {w : World} (hgd : o.guard = none) (s x : Operand)
    (ho : o.op = .call { callee := .builtin .append, args := #[s, x], argTypes := #[37, 37] })
    (B : Nat) (v : Value) (hs : a.eval s = v) (l : List (Nat × Nat × Nat)) (hown : HtOwn w B v l) (g2 c2 : Nat) (y : Nat × Nat × Nat) (hx : a.eval x = .slice (some ⟨g2, 0, none⟩) 1 c2)
    (hnew : w.cell? ⟨g2, 0, none⟩ = some (.int .i64 (y.1 : Int))) (hnew2 : w.cell? ⟨g2, 1, none⟩ = some (.int .i64 (y.2.1 : Int))) (hnew3 : w.cell? ⟨g2, 2, none⟩ = some (.int .i64 (y.2.2 : Int))) (hlen : l.length ≤ 1000000000) (hbase : B ≤ w.heap.size)
    (h : ∀ g cap w', HtOwn w' B (.slice (some ⟨g, 0, none⟩) (l.length + 1) cap) (l ++ [y]) → w.grownBy w' v.ownBlock → B ≤ g → g < w'.heap.size → wpList Try.prog ops Q rest (a.put o.dst (.slice (some ⟨g, 0, none⟩) (l.length + 1) cap)) w') : wpList Try.prog ops Q (o :: rest) a w := by
  have hinfo : (Try.prog.info? 43).map (fun i => (i.zero, i.size, i.bytes)) = some (some (.agg #[.int .i64 0, .int .i64 0, .int .i64 0]), 3, 24) := by kernel_rfl
  obtain ⟨i0, hi, hz0, hz1, hz2⟩ := info_parts hinfo
  refine wpList_append_lies w hgd s x 37 ho B 43 i0 _ 3 24 Try.underlying37 hi hz0 hz1 hz2 rfl (by decide) v l.length (htCells l) hs hown ⟨g2, 0, none⟩ 1 c2 (htCells [y]) hx rfl ?_ (htCells_one [y]) (by omega) (by unfold maxLen; omega) (by omega) hbase _ rfl ?_
  · intro j u hj
    match j, hj with
    | 0, hj =>
      simp [htCells] at hj
      subst hj
      rw [Addr.add_lit]
      exact hnew
    | 1, hj =>
      simp [htCells] at hj
      subst hj
      rw [Addr.add_lit]
      exact hnew2
    | 2, hj =>
      simp [htCells] at hj
      subst hj
      rw [Addr.add_lit]
      exact hnew3
    | j + 3, hj => simp [htCells] at hj
  · intro g cap w' h1 h2 h3 h4
    have e : HtOwn w' B (.slice (some ⟨g, 0, none⟩) (l.length + 1) cap) (l ++ [y]) := by
      unfold HtOwn
      rw [htCells_append]
      simpa using h1
    have hg : B ≤ g := by
      rcases h3 with h3 | h3
      · rcases hown.2 with ⟨hv, _⟩ | ⟨g', cap', cur, hv, hb, _⟩
        · rw [hv] at h3; cases h3
        · rw [hv] at h3
          injection h3 with h3
          simp at h3
          omega
      · omega
    exact h g cap w' e h2 hg h4
end Go.Proofs.Ytciaagphclddjaa
namespace Go.Proofs.Ytciaagphclddjaa
set_option linter.unusedSimpArgs false
set_option linter.unusedVariables false
set_option maxRecDepth 100000
open Go.RowKit
/-- The words as lists of bytes. -/
def wdL (l : List ByteArray) : List (List UInt8) := l.map fun x => x.data.toList
theorem wdL_len (l : List ByteArray) : (wdL l).length = l.length := by simp [wdL]
theorem wdL_get {l : List ByteArray} {i : Nat} {x : ByteArray} (h : l[i]? = some x) : (wdL l)[i]? = some x.data.toList := by simp [wdL, h]
/-- A word is there ahead of place k. -/
def wHas (l : List ByteArray) (x : ByteArray) (k : Nat) : Prop := ∃ m, m < k ∧ l[m]? = some x
/-- What is wrong with word i. -/
noncomputable def wBad (l : List ByteArray) (i : Nat) : Int :=
  match l[i]? with
  | none => 0
  | some x => if x.size < 1 ∨ 20 < x.size then 5 else @ite _ (wHas l x i) (Classical.propDecidable _) 6 0
/-- What is wrong with n words from word i on. -/
noncomputable def wFrom (l : List ByteArray) : Nat → Nat → Int
  | 0, _ => 0
  | n + 1, i => if wBad l i = 0 then wFrom l n (i + 1) else wBad l i
/-- What is wrong with words. -/
noncomputable def wF (l : List ByteArray) : Int := if 20 < l.length then 3 else wFrom l l.length 0
theorem wBad_size {l : List ByteArray} {i : Nat} {x : ByteArray} (h : l[i]? = some x) (hs : x.size < 1 ∨ 20 < x.size) : wBad l i = 5 := by
  unfold wBad
  rw [h]
  exact if_pos hs
theorem wBad_has {l : List ByteArray} {i : Nat} {x : ByteArray} (h : l[i]? = some x) (hs : ¬ (x.size < 1 ∨ 20 < x.size)) (hh : wHas l x i) : wBad l i = 6 := by
  unfold wBad
  rw [h]
  simp only
  rw [if_neg hs, if_pos hh]
theorem wBad_ok {l : List ByteArray} {i : Nat} {x : ByteArray} (h : l[i]? = some x) (hs : ¬ (x.size < 1 ∨ 20 < x.size)) (hh : ¬ wHas l x i) : wBad l i = 0 := by
  unfold wBad
  rw [h]
  simp only
  rw [if_neg hs, if_neg hh]
theorem wFrom_zero (l : List ByteArray) : ∀ n i, wFrom l n i = 0 → ∀ k, i ≤ k → k < i + n → wBad l k = 0
  | 0, i, _, k, h1, h2 => by omega
  | n + 1, i, h, k, h1, h2 => by
    unfold wFrom at h
    by_cases hb : wBad l i = 0
    · rw [if_pos hb] at h
      rcases Nat.eq_or_lt_of_le h1 with rfl | h1
      · exact hb
      · exact wFrom_zero l n (i + 1) h k h1 (by omega)
    · rw [if_neg hb] at h
      exact absurd h hb
theorem wF_zero {l : List ByteArray} (h : wF l = 0) : l.length ≤ 20 ∧ ∀ x ∈ l, 1 ≤ x.size ∧ x.size ≤ 20 := by
  unfold wF at h
  by_cases h1 : 20 < l.length
  · rw [if_pos h1] at h; cases h
  · rw [if_neg h1] at h
    refine ⟨by omega, fun x hx => ?_⟩
    obtain ⟨i, hi⟩ := List.mem_iff_getElem?.1 hx
    have hil : i < l.length := by
      rcases Nat.lt_or_ge i l.length with h' | h'
      · exact h'
      · rw [List.getElem?_eq_none h'] at hi; cases hi
    have hb := wFrom_zero l l.length 0 h i (by omega) (by omega)
    refine Classical.byContradiction fun hc => ?_
    rw [wBad_size hi (by omega)] at hb
    cases hb
end Go.Proofs.Ytciaagphclddjaa
namespace Go.Proofs.Ytciaagphclddjaa
/-- An error as the program hands it back: nil where the number is 0. -/
def errV (n : Int) : Value := if n = 0 then .nilIface else .iface 52 (.int .i64 n)
end Go.Proofs.Ytciaagphclddjaa
namespace Go.Proofs.Ytciaagphclddjaa
set_option linter.unusedSimpArgs false
set_option linter.unusedVariables false
set_option maxRecDepth 100000
open Go.RowKit
/-- What is wrong with words, or a text of n bytes. -/
noncomputable def wE (l : List ByteArray) (n : Nat) : Int := if wF l = 0 then (if 400 < n then 3 else 0) else wF l
theorem wE_zero (l : List ByteArray) (n : Nat) : wE l n = 0 ↔ wF l = 0 ∧ n ≤ 400 := by
  unfold wE
  by_cases h : wF l = 0
  · rw [if_pos h]
    by_cases h4 : 400 < n
    · rw [if_pos h4]; simp; omega
    · rw [if_neg h4]; simp [h]; omega
  · rw [if_neg h]; simp [h]
/-- What the document asks of All (X: what the library's tables hold). -/
structure WordsL (X : World → Prop) : Prop where
  bad : ∀ (l : List ByteArray) v (s : ByteArray) w, TsIn w v l → (∀ x ∈ l, x.size ≤ maxLen) → s.size ≤ maxLen → ¬ wE l s.size = 0 → Calls Try.prog 9 #[v, .string s] w fun e w' => ∃ u, e = .returned (.tuple #[u, errV (wE l s.size)]) ∧ Below w.heap.size w w' ∧ HtIn w' u []
  all : ∀ (l : List ByteArray) v (s : ByteArray) w, X w → TsIn w v l → (∀ x ∈ l, x.size ≤ maxLen) → wE l s.size = 0 → Calls Try.prog 9 #[v, .string s] w fun e w' => ∃ u, e = .returned (.tuple #[u, .nilIface]) ∧ Below w.heap.size w w' ∧ HtIn w' u (hits (wdL l) s.data.toList)
theorem wHas_app {l : List ByteArray} {x y : ByteArray} {k : Nat} (h : wHas l x k) : wHas (l ++ [y]) x k := by
  obtain ⟨m, h1, h2⟩ := h
  refine ⟨m, h1, ?_⟩
  have : m < l.length := by
    rcases Nat.lt_or_ge m l.length with h' | h'
    · exact h'
    · rw [List.getElem?_eq_none h'] at h2; cases h2
  rw [List.getElem?_append_left this]
  exact h2
theorem wBad_zero {l : List ByteArray} {i : Nat} {x : ByteArray} (hx : l[i]? = some x) (h : wBad l i = 0) : ¬ (x.size < 1 ∨ 20 < x.size) ∧ ¬ wHas l x i := by
  refine ⟨fun hc => ?_, fun hc => ?_⟩
  · rw [wBad_size hx hc] at h; cases h
  · by_cases hs : x.size < 1 ∨ 20 < x.size
    · rw [wBad_size hx hs] at h; cases h
    · rw [wBad_has hx hs hc] at h; cases h
theorem wFrom_of (l : List ByteArray) : ∀ n i, (∀ k, i ≤ k → k < i + n → wBad l k = 0) → wFrom l n i = 0
  | 0, i, _ => rfl
  | n + 1, i, h => by
    rw [wFrom, if_pos (h i (by omega) (by omega))]
    exact wFrom_of l n (i + 1) (fun k h1 h2 => h k (by omega) (by omega))
/-- Words that may be, one taken away. -/
theorem wF_less {l : List ByteArray} {y : ByteArray} (h : wF (l ++ [y]) = 0) : wF l = 0 ∧ wF [y] = 0 := by
  obtain ⟨h1, h2⟩ := wF_zero h
  have h20 : l.length ≤ 20 := by simp at h1; omega
  have hz : ∀ k, k < l.length + 1 → wBad (l ++ [y]) k = 0 := fun k hk => by
    unfold wF at h
    rw [if_neg (by omega)] at h
    exact wFrom_zero _ _ 0 h k (by omega) (by simp; omega)
  constructor
  · unfold wF
    rw [if_neg (by omega)]
    refine wFrom_of l _ 0 fun k _ hk => ?_
    have hk' : k < l.length := by omega
    have hx : l[k]? = some l[k] := List.getElem?_eq_getElem hk'
    have hx2 : (l ++ [y])[k]? = some l[k] := by rw [List.getElem?_append_left hk']; exact hx
    obtain ⟨a1, a2⟩ := wBad_zero hx2 (hz k (by omega))
    exact wBad_ok hx a1 (fun hc => a2 (wHas_app hc))
  · unfold wF
    rw [if_neg (by simp)]
    have hy := h2 y (by simp)
    refine wFrom_of [y] _ 0 fun k _ hk => ?_
    obtain rfl : k = 0 := by simp at hk; omega
    exact wBad_ok (x := y) rfl (by omega) (fun ⟨m, hm, _⟩ => by omega)
/-- What the document asks of Check. -/
structure WordsK (X : World → Prop) : Prop where
  chk : ∀ (l : List ByteArray) v w, X w → TsIn w v l → (∀ x ∈ l, x.size ≤ maxLen) → Calls Try.prog 15 #[v] w fun e w' => e = .returned (errV (wF l)) ∧ Below w.heap.size w w'
end Go.Proofs.Ytciaagphclddjaa
namespace Go.Proofs.Ytciaagphclddjaa
set_option linter.unusedSimpArgs false
set_option linter.unusedVariables false
set_option maxRecDepth 100000
open Go.RowKit
theorem list2sp {α : Type} (l : List α) (h : l.length = 2) : ∃ a b, l = [a, b] := by
  match l, h with
  | [a, b], _ => exact ⟨a, b, rfl⟩
/-- Two spans are the same. -/
theorem eqSpd (d : Nat) (a b c e : Int) (w : World) : (Op.equalIn (d + 1 + 1) 41 (.agg #[.int .i64 a, .int .i64 b]) (.agg #[.int .i64 c, .int .i64 e])).run Try.prog w = .ok (a == c && b == e) w := by
  have hs : Try.prog.underlying 41 = some (.struct (Try.prog.fieldsOf 41)) := by kernel_rfl
  have hp : Try.prog.stoodInHeld 41 = false := by kernel_rfl
  rw [run_equalIn_struct w (d + 1) _ _ _ hs hp]
  have hf : (Try.prog.fieldsOf 41).toList.map (fun f => (f.type, f.offset, f.name == "_")) = [(3, 0, false), (3, 1, false)] := by kernel_rfl
  generalize (Try.prog.fieldsOf 41).toList = fs at hf
  obtain ⟨f0, f1, rfl⟩ := list2sp fs (by have := congrArg List.length hf; simpa using this)
  · simp only [List.map_cons, List.map_nil, List.cons.injEq, Prod.mk.injEq, and_true] at hf
    obtain ⟨⟨t0, o0, n0⟩, ⟨t1, o1, n1⟩⟩ := hf
    have n0' : f0.name ≠ "_" := by simpa using n0
    have n1' : f1.name ≠ "_" := by simpa using n1
    have hi : ∀ (a b : Int) (w : World), (Op.equalIn (d + 1) 3 (.int .i64 a) (.int .i64 b)).run Try.prog w = .ok (a == b) w := fun a b w => run_equalIn_int w d 3 .i64 .i64 a b Try.underlying3
    have q0 : ∀ (x y : Int) (w : World), (part 3 #[.int .i64 x, .int .i64 y] 0).run Try.prog w = .ok (.int .i64 x) w := fun _ _ _ => by kernel_rfl
    have q1 : ∀ (x y : Int) (w : World), (part 3 #[.int .i64 x, .int .i64 y] 1).run Try.prog w = .ok (.int .i64 y) w := fun _ _ _ => by kernel_rfl
    simp only [Op.eqFields, t0, o0, t1, o1, ne_eq, n0', n1', not_false_eq_true, if_true, Sem.run_bind, q0, q1, Result.andThen_ok, hi, Sem.run_ite, Sem.run_pure]
    cases h1 : a == c <;> cases h2 : b == e <;> simp [q1, hi, h2]
theorem eqSp (a b c e : Int) (w : World) : (Op.equalIn 10000 41 (.agg #[.int .i64 a, .int .i64 b]) (.agg #[.int .i64 c, .int .i64 e])).run Try.prog w = .ok (a == c && b == e) w := eqSpd 9998 a b c e w
end Go.Proofs.Ytciaagphclddjaa
namespace Go.Proofs.Ytciaagphclddjaa
set_option linter.unusedSimpArgs false
set_option linter.unusedVariables false
set_option maxRecDepth 100000
open Go.RowKit
/-- Two hits are the same. -/
theorem eqHtd (d : Nat) (k a b k' c e : Int) (w : World) : (Op.equalIn (d + 1 + 1 + 1) 43 (.agg #[.int .i64 k, .int .i64 a, .int .i64 b]) (.agg #[.int .i64 k', .int .i64 c, .int .i64 e])).run Try.prog w = .ok (k == k' && (a == c && b == e)) w := by
  have hs : Try.prog.underlying 43 = some (.struct (Try.prog.fieldsOf 43)) := by kernel_rfl
  have hp : Try.prog.stoodInHeld 43 = false := by kernel_rfl
  rw [run_equalIn_struct w (d + 1 + 1) _ _ _ hs hp]
  have hf : (Try.prog.fieldsOf 43).toList.map (fun f => (f.type, f.offset, f.name == "_")) = [(3, 0, false), (41, 1, false)] := by kernel_rfl
  generalize (Try.prog.fieldsOf 43).toList = fs at hf
  obtain ⟨f0, f1, rfl⟩ := list2sp fs (by have := congrArg List.length hf; simpa using this)
  · simp only [List.map_cons, List.map_nil, List.cons.injEq, Prod.mk.injEq, and_true] at hf
    obtain ⟨⟨t0, o0, n0⟩, ⟨t1, o1, n1⟩⟩ := hf
    have n0' : f0.name ≠ "_" := by simpa using n0
    have n1' : f1.name ≠ "_" := by simpa using n1
    have hi : ∀ (a b : Int) (w : World), (Op.equalIn (d + 1 + 1) 3 (.int .i64 a) (.int .i64 b)).run Try.prog w = .ok (a == b) w := fun a b w => run_equalIn_int w (d + 1) 3 .i64 .i64 a b Try.underlying3
    have hc : ∀ (a b c e : Int) (w : World), (Op.equalIn (d + 1 + 1) 41 (.agg #[.int .i64 a, .int .i64 b]) (.agg #[.int .i64 c, .int .i64 e])).run Try.prog w = .ok (a == c && b == e) w := fun a b c e w => eqSpd d a b c e w
    have q0 : ∀ (x y z : Int) (w : World), (part 3 #[.int .i64 x, .int .i64 y, .int .i64 z] 0).run Try.prog w = .ok (.int .i64 x) w := fun _ _ _ _ => by kernel_rfl
    have q1 : ∀ (x y z : Int) (w : World), (part 41 #[.int .i64 x, .int .i64 y, .int .i64 z] 1).run Try.prog w = .ok (.agg #[.int .i64 y, .int .i64 z]) w := fun _ _ _ _ => by kernel_rfl
    simp only [Op.eqFields, t0, o0, t1, o1, ne_eq, n0', n1', not_false_eq_true, if_true, Sem.run_bind, q0, q1, Result.andThen_ok, hi, hc, Sem.run_ite, Sem.run_pure]
    cases h1 : k == k' <;> cases h2 : a == c <;> cases h3 : b == e <;> simp [q1, hc, h2, h3]
theorem eqHt (k a b k' c e : Int) (w : World) : (Op.equalIn 10000 43 (.agg #[.int .i64 k, .int .i64 a, .int .i64 b]) (.agg #[.int .i64 k', .int .i64 c, .int .i64 e])).run Try.prog w = .ok (k == k' && (a == c && b == e)) w := eqHtd 9997 k a b k' c e w
/-- Two lists of hits are the same. -/
def htEq : List (Nat × Nat × Nat) → List (Nat × Nat × Nat) → Bool
  | [], [] => true
  | x :: r, y :: q => ((x.1 : Int) == (y.1 : Int) && ((x.2.1 : Int) == (y.2.1 : Int) && (x.2.2 : Int) == (y.2.2 : Int))) && htEq r q
  | _, _ => false
theorem htEq_self : ∀ x, htEq x x = true
  | [] => rfl
  | x :: r => by simp [htEq, htEq_self r]
theorem htEq_iff : ∀ x y, htEq x y = true ↔ x = y
  | [], [] => by simp [htEq]
  | [], y :: q => by simp [htEq]
  | x :: r, [] => by simp [htEq]
  | x :: r, y :: q => by
    obtain ⟨a, b, b'⟩ := x
    obtain ⟨c, d, d'⟩ := y
    simp only [htEq, Bool.and_eq_true, htEq_iff r q, beq_iff_eq, List.cons.injEq, Prod.mk.injEq]
    constructor
    · rintro ⟨⟨h1, h2, h4⟩, h3⟩; exact ⟨⟨by omega, by omega, by omega⟩, h3⟩
    · rintro ⟨⟨h1, h2, h4⟩, h3⟩; exact ⟨⟨by omega, by omega, by omega⟩, h3⟩
theorem htEq_len : ∀ (x y : List (Nat × Nat × Nat)), x.length ≠ y.length → htEq x y = false := by
  intro x y h
  cases he : htEq x y with
  | false => rfl
  | true => exact absurd (congrArg List.length ((htEq_iff x y).1 he)) h
theorem htEq_drop : ∀ (x y : List (Nat × Nat × Nat)) (i : Nat) (n m : Nat × Nat × Nat), x[i]? = some n → y[i]? = some m → htEq (x.drop i) (y.drop i) = (((n.1 : Int) == (m.1 : Int) && ((n.2.1 : Int) == (m.2.1 : Int) && (n.2.2 : Int) == (m.2.2 : Int))) && htEq (x.drop (i + 1)) (y.drop (i + 1)))
  | [], y, i, n, m, h, h' => by simp at h
  | x :: r, [], i, n, m, h, h' => by simp at h'
  | x :: r, y :: q, 0, n, m, h, h' => by
    simp at h h'
    subst h h'
    rfl
  | x :: r, y :: q, i + 1, n, m, h, h' => by
    simp only [List.drop_succ_cons]
    exact htEq_drop r q i n m (by simpa using h) (by simpa using h')
set_option maxHeartbeats 1000000 in
theorem hits_s_len (x y : List (Nat × Nat × Nat)) (a1 a2 : Option Addr) (c1 c2 : Nat) (h1 : x.length ≤ maxLen) (h2 : y.length ≤ maxLen) (hne : x.length ≠ y.length) (w : World) :
    Calls Try.prog 11 #[.slice a1 x.length c1, .slice a2 y.length c2] w fun e w' => e = .returned (.bool (htEq x y)) ∧ Below w.heap.size w w' := by
  rw [htEq_len x y hne]
  have hb : ((x.length : Int) != (y.length : Int)) = true := by rw [bne_iff_ne]; omega
  clear hne
  go_enter Try.func11, Try.ntmps11
  go_wp2
  go_ret
  exact ⟨rfl, Below.refl _ _⟩
set_option maxHeartbeats 4000000 in
theorem hits_s_same (x y : List (Nat × Nat × Nat)) (b1 o1 b2 o2 : Nat) (c1 c2 : Nat) (h1 : x.length ≤ maxLen) (hlen : x.length = y.length) (w : World) (hl1 : b1 < w.heap.size) (hl2 : b2 < w.heap.size) (hx : HtAt w b1 o1 x) (hy : HtAt w b2 o2 y) :
    Calls Try.prog 11 #[.slice (some ⟨b1, o1, none⟩) x.length c1, .slice (some ⟨b2, o2, none⟩) x.length c2] w fun e w' => e = .returned (.bool (htEq x y)) ∧ Below w.heap.size w w' := by
  unfold maxLen at h1
  have he := eqHt
  have HL := (show Hid _ from hlen)
  clear hlen
  go_enter Try.func11, Try.ntmps11
  go_wp2
  go_loopw [5] (fun v wr => ∃ i : Nat, i ≤ x.length ∧ v = .int .i64 i ∧ Hid (htEq x y = htEq (x.drop i) (y.drop i)) ∧ Below w.heap.size w wr) (fun v _ => x.length - (intOf v).toNat)
  case atStart => exact ⟨0, by omega, rfl, Eq.refl _, Below.refl _ _⟩
  case round =>
    obtain ⟨i, hi, rfl, HS, hB⟩ := hrel
    by_cases hil : i < x.length
    · obtain ⟨n, hn⟩ : ∃ n, x[i]? = some n := ⟨x[i], List.getElem?_eq_getElem hil⟩
      obtain ⟨m, hm⟩ : ∃ m, y[i]? = some m := ⟨y[i]'(by rw [← HL.out]; exact hil), List.getElem?_eq_getElem (by rw [← HL.out]; exact hil)⟩
      obtain ⟨a0, a1, a2⟩ := (hx.below hB hl1) i n hn
      obtain ⟨d0, d1, d2⟩ := (hy.below hB hl2) i m hm
      have HD : Hid _ := hid (htEq_drop x y i n m hn hm)
      have i0 : (0 : Int) ≤ (i : Int) := by omega
      have i1 : (i : Int) < (x.length : Int) := by omega
      clear hn hm
      obtain ⟨p, hp⟩ : ∃ p, p = ((n.1 : Int) == (m.1 : Int) && ((n.2.1 : Int) == (m.2.1 : Int) && (n.2.2 : Int) == (m.2.2 : Int))) := ⟨_, rfl⟩
      have hq : ∀ w, (Op.equalIn 10000 43 (.agg #[.int .i64 (n.1 : Int), .int .i64 (n.2.1 : Int), .int .i64 (n.2.2 : Int)]) (.agg #[.int .i64 (m.1 : Int), .int .i64 (m.2.1 : Int), .int .i64 (m.2.2 : Int)])).run Try.prog w = .ok p w := fun w => by rw [hp]; exact he _ _ _ _ _ _ w
      rw [← hp] at HD
      clear he hp
      cases p
      · have HF : Hid (htEq x y = false) := by show _ = _; rw [HS.out, HD.out]; rfl
        go_wp2_with fail
        go_quiet (fail)
        go_wp2
        go_ret
        exact ⟨by rw [HF.out]; rfl, hB.trans ((below_drewN' wr nq).mono hB.size)⟩
      · have HF : Hid (htEq x y = htEq (x.drop (i + 1)) (y.drop (i + 1))) := by show _ = _; rw [HS.out, HD.out]; rfl
        go_wp2_with fail
        go_quiet (fail)
        go_wp2
        exact ⟨⟨i + 1, by omega, by go_num, HF, hB.trans ((below_drewN' wr nq).mono hB.size)⟩, by simp [intOf]; omega⟩
    · have HF : Hid (htEq x y = true) := by
        show _ = _
        have e1 : x.drop i = [] := List.drop_eq_nil_of_le (by omega)
        have e2 : y.drop i = [] := List.drop_eq_nil_of_le (by have := HL.out; omega)
        rw [HS.out, e1, e2]; rfl
      go_wp2
      go_ret
      exact ⟨by rw [HF.out]; rfl, hB⟩
set_option maxHeartbeats 1000000 in
theorem hits_s_nil (a1 a2 : Option Addr) (c1 c2 : Nat) (w : World) :
    Calls Try.prog 11 #[.slice a1 0 c1, .slice a2 0 c2] w fun e w' => e = .returned (.bool true) ∧ Below w.heap.size w w' := by
  go_enter Try.func11, Try.ntmps11
  go_wp2
  go_loop [5] (fun v => v = .int .i64 0) (fun _ => 0)
  case atStart => rfl
  case round =>
    subst hrel
    go_wp2
    go_ret
    exact ⟨rfl, Below.refl _ _⟩
theorem hits_s_any (x y : List (Nat × Nat × Nat)) (v u : Value) (w : World) (hx : HtIn w v x) (hy : HtIn w u y) :
    Calls Try.prog 11 #[v, u] w fun e w' => e = .returned (.bool (htEq x y)) ∧ Below w.heap.size w w' := by
  obtain ⟨a1, c1, rfl, h1, hx⟩ := hx
  obtain ⟨a2, c2, rfl, h2, hy⟩ := hy
  by_cases hlen : x.length = y.length
  · rcases hx with hx | ⟨b1, o1, rfl, hl1, hx⟩
    · subst hx
      have : y = [] := List.eq_nil_of_length_eq_zero (by simpa using hlen.symm)
      subst this
      exact hits_s_nil a1 a2 c1 c2 w
    · rcases hy with hy | ⟨b2, o2, rfl, hl2, hy⟩
      · subst hy
        have : x = [] := List.eq_nil_of_length_eq_zero (by simpa using hlen)
        subst this
        exact hits_s_nil _ a2 c1 c2 w
      · rw [← hlen]
        exact hits_s_same x y b1 o1 b2 o2 c1 c2 h1 hlen w hl1 hl2 hx hy
  · exact hits_s_len x y a1 a2 c1 c2 h1 h2 hlen w
end Go.Proofs.Ytciaagphclddjaa
namespace Go.Proofs.Ytciaagphclddjaa
set_option linter.unusedSimpArgs false
set_option linter.unusedVariables false
set_option maxRecDepth 100000
open Go.RowKit
/-- The numbers l lie in block b from off on. -/
def IsAt (w : World) (b off : Nat) (l : List Nat) : Prop := ∀ (i x : Nat), l[i]? = some x → w.cell? ⟨b, off + i, none⟩ = some (.int .i64 (x : Int))
/-- A slice that reads as the numbers l. -/
def IsIn (w : World) (v : Value) (l : List Nat) : Prop := ∃ a cap, v = .slice a l.length cap ∧ l.length ≤ maxLen ∧ (l = [] ∨ ∃ b off, a = some ⟨b, off, none⟩ ∧ b < w.heap.size ∧ IsAt w b off l)
theorem IsAt.below {w w' : World} {B b off : Nat} {l : List Nat} (h : IsAt w b off l) (hb : Below B w w') (hlt : b < B) : IsAt w' b off l :=
  fun i n hn => (hb.cell (p := ⟨b, _, none⟩) hlt).trans (h i n hn)
theorem IsIn.below {w w' : World} {v : Value} {l : List Nat} (h : IsIn w v l) (hb : Below w.heap.size w w') : IsIn w' v l := by
  obtain ⟨a, cap, rfl, hm, h | ⟨b, off, rfl, hlt, hn⟩⟩ := h
  · exact ⟨a, cap, rfl, hm, Or.inl h⟩
  · exact ⟨_, cap, rfl, hm, Or.inr ⟨b, off, rfl, Nat.lt_of_lt_of_le hlt hb.size, hn.below hb hlt⟩⟩
theorem isIn_nil (w : World) : IsIn w (.slice none 0 0) [] := ⟨none, 0, rfl, by simp, Or.inl rfl⟩
theorem isIn_form {w : World} {v : Value} {l : List Nat} (h : IsIn w v l) : ∃ a cap, v = .slice a l.length cap ∧ l.length ≤ maxLen := by
  obtain ⟨a, cap, h1, h2, _⟩ := h
  exact ⟨a, cap, h1, h2⟩
theorem drop_at {α : Type} (x : List α) (i : Nat) (n : α) (hn : x[i]? = some n) : x.drop i = n :: x.drop (i + 1) := by
  have hi : i < x.length := by
    rcases Nat.lt_or_ge i x.length with h | h
    · exact h
    · rw [List.getElem?_eq_none h] at hn; cases hn
  rw [List.drop_eq_getElem_cons hi]
  rw [List.getElem?_eq_getElem hi] at hn
  rw [Option.some.inj hn]
/-- New memory of numbers. -/
theorem is_new (w : World) (l : List Nat) (o : Obj) (ho : o = .cells (l.map fun x : Nat => Value.int .i64 (x : Int)).toArray 3 (0, 0)) (hm : l.length ≤ maxLen) : IsIn (w.alloc o) (.slice (some ⟨w.heap.size, 0, none⟩) l.length l.length) l := by
  refine ⟨_, _, rfl, hm, Or.inr ⟨w.heap.size, 0, rfl, by simp, fun i x hx => ?_⟩⟩
  subst ho
  rw [World.cell?_alloc_at (w := w) _ _ w.heap.size (0 + i) rfl]
  simp [hx]
end Go.Proofs.Ytciaagphclddjaa
