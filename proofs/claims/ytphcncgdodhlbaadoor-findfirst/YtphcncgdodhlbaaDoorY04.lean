/- What a pattern fits, in a text, from a place to another one; the laws of it. What is found of a pattern, the first, and one behind the other: plain mathematics. Two spans are the same. Spans of a text in memory. What is wrong with a pattern, a text, a place: plain words, no function. Lists of numbers in memory. Small facts on lists of nodes in memory. What the document asks of package mean. Trees are told by their nodes: plain mathematics. What the document asks of package find: All. What the document asks of package find. class.with. -/
import Derived.Test.YtphcncgdodhlbaaDoorY03
import Derived.Test.YtphcncgdodhlbaaDoorY02
import Derived.KernelRfl
import Derived.OwnWalk
import Derived.Deep.AppendLies
import Derived.Test.YtphcncgdodhlbaaDoorY01
namespace Go.Proofs.YtphcncgdodhlbaaDoor
set_option linter.unusedSimpArgs false
set_option linter.unusedVariables false
set_option maxRecDepth 100000
open Go.RowKit

/-- As often as one likes, within N. -/
inductive Str (N : Nat) (R : Nat → Nat → Prop) : Nat → Nat → Prop
  | nil (i : Nat) : i ≤ N → Str N R i i
  | cons (i k j : Nat) : R i k → Str N R k j → Str N R i j
/-- A pattern fits a text from i to j. -/
def Fit (s : List UInt8) : Rx → Nat → Nat → Prop
  | .leaf n, i, j => if n.op = 1 then ∃ c, s[i]? = some c ∧ n.c.has c.toNat = true ∧ j = i + 1 else if n.op = 8 then i = 0 ∧ j = 0 else if n.op = 9 then i = s.length ∧ j = s.length else i = j ∧ i ≤ s.length
  | .one n a, i, j => if n.op = 5 then Str s.length (Fit s a) i j else if n.op = 6 then ∃ k, Fit s a i k ∧ Str s.length (Fit s a) k j else (i = j ∧ i ≤ s.length) ∨ Fit s a i j
  | .two n a b, i, j => if n.op = 3 then ∃ k, Fit s a i k ∧ Fit s b k j else Fit s a i j ∨ Fit s b i j
theorem Str.le {N : Nat} {R : Nat → Nat → Prop} (h : ∀ i j, R i j → i ≤ j ∧ j ≤ N) : ∀ {i j : Nat}, Str N R i j → i ≤ j ∧ j ≤ N := by
  intro i j hs
  induction hs with
  | nil i hi => exact ⟨Nat.le_refl _, hi⟩
  | cons i k j h1 _ ih => exact ⟨Nat.le_trans (h i k h1).1 ih.1, ih.2⟩
theorem fit_le (s : List UInt8) : ∀ (t : Rx) (i j : Nat), Fit s t i j → i ≤ j ∧ j ≤ s.length
  | .leaf n, i, j, h => by
    unfold Fit at h
    split at h
    · obtain ⟨c, h1, _, rfl⟩ := h
      have : i < s.length := by
        rcases Nat.lt_or_ge i s.length with h' | h'
        · exact h'
        · rw [List.getElem?_eq_none h'] at h1; cases h1
      omega
    · split at h
      · omega
      · split at h <;> omega
  | .one n a, i, j, h => by
    unfold Fit at h
    split at h
    · exact Str.le (fit_le s a) h
    · split at h
      · obtain ⟨k, h1, h2⟩ := h
        have := fit_le s a i k h1
        have := Str.le (fit_le s a) h2
        omega
      · rcases h with h | h
        · omega
        · exact fit_le s a i j h
  | .two n a b, i, j, h => by
    unfold Fit at h
    split at h
    · obtain ⟨k, h1, h2⟩ := h
      have := fit_le s a i k h1
      have := fit_le s b k j h2
      omega
    · rcases h with h | h
      · exact fit_le s a i j h
      · exact fit_le s b i j h
/-- What fits from a place to itself may be nothing. -/
theorem fit_self (s : List UInt8) : ∀ (t : Rx) (i : Nat), Fit s t i i → t.emp = true
  | .leaf n, i, h => by
    unfold Fit at h
    unfold Rx.emp
    split at h
    · obtain ⟨c, _, _, h⟩ := h; omega
    · rename_i h1; simp [h1]
  | .one n a, i, h => by
    unfold Fit at h
    unfold Rx.emp
    split at h
    · rename_i h5; simp [h5]
    · split at h
      · rename_i h6
        rw [if_pos h6]
        obtain ⟨k, h1, h2⟩ := h
        have q1 := fit_le s a i k h1
        have q2 := Str.le (fit_le s a) h2
        obtain rfl : k = i := by omega
        exact fit_self s a k h1
      · rename_i h6; rw [if_neg h6]
  | .two n a b, i, h => by
    unfold Fit at h
    unfold Rx.emp
    split at h
    · rename_i h3
      rw [if_pos h3]
      obtain ⟨k, h1, h2⟩ := h
      have q1 := fit_le s a i k h1
      have q2 := fit_le s b k i h2
      obtain rfl : k = i := by omega
      rw [fit_self s a k h1, fit_self s b k h2]; rfl
    · rename_i h3
      rw [if_neg h3]
      rcases h with h | h
      · rw [fit_self s a i h]; rfl
      · rw [fit_self s b i h]; simp
theorem Str.trans {N : Nat} {R : Nat → Nat → Prop} {i j k : Nat} (h1 : Str N R i j) (h2 : Str N R j k) : Str N R i k := by
  induction h1 with
  | nil => exact h2
  | cons i m j h _ ih => exact .cons i m k h (ih h2)
theorem Str.mono {N : Nat} {R Q : Nat → Nat → Prop} (h : ∀ i j, R i j → Q i j) {i j : Nat} (hs : Str N R i j) : Str N Q i j := by
  induction hs with
  | nil i hi => exact .nil i hi
  | cons i k j h1 _ ih => exact .cons i k j (h i k h1) ih
theorem Str.one {N : Nat} {R : Nat → Nat → Prop} (h : ∀ i j, R i j → i ≤ j ∧ j ≤ N) {i j : Nat} (hr : R i j) : Str N R i j := .cons i j j hr (.nil j (h i j hr).2)
/-- A star of a star is the star. -/
theorem Str.flat {N : Nat} {R : Nat → Nat → Prop} {i j : Nat} (hs : Str N (Str N R) i j) : Str N R i j := by
  induction hs with
  | nil i hi => exact .nil i hi
  | cons i k j h1 _ ih => exact h1.trans ih
/-- The other way round. -/
theorem Str.turn {N : Nat} {R Q : Nat → Nat → Prop} (h : ∀ i j, R i j → i ≤ j ∧ j ≤ N) (hq : ∀ i j, R i j → Q (N - j) (N - i)) {i j : Nat} (hs : Str N R i j) : Str N Q (N - j) (N - i) := by
  induction hs with
  | nil i hi => exact .nil _ (by omega)
  | cons i k j h1 hs ih =>
    refine ih.trans (.cons _ (N - i) _ (hq i k h1) (.nil _ (by omega)))
theorem get_rev (s : List UInt8) (i : Nat) (h : i < s.length) : s.reverse[s.length - (i + 1)]? = s[i]? := by
  rw [List.getElem?_reverse (by omega)]
  congr 1
  omega
theorem fit_turn (s : List UInt8) : ∀ (t : Rx), t.Ok → ∀ (i j : Nat), Fit s t i j → Fit s.reverse t.turn (s.length - j) (s.length - i)
  | .leaf n, ht, i, j, h => by
    have hle := fit_le s _ i j h
    unfold Fit at h
    unfold Rx.turn Fit
    rw [List.length_reverse]
    by_cases h1 : n.op = 1
    · rw [if_pos h1] at h
      rw [if_pos (show n.flip.op = 1 from (flip_eq 1 (by decide) (by decide)).2 h1)]
      obtain ⟨c, hc, hk, rfl⟩ := h
      refine ⟨c, ?_, hk, by omega⟩
      rw [get_rev s i (by omega)]
      exact hc
    · rw [if_neg h1] at h
      rw [if_neg (show ¬ n.flip.op = 1 from fun e => h1 ((flip_eq 1 (by decide) (by decide)).1 e))]
      by_cases h8 : n.op = 8
      · rw [if_pos h8] at h
        rw [if_neg (show ¬ n.flip.op = 8 from by simp [Nd.flip, flipOp, h8]), if_pos (show n.flip.op = 9 from by simp [Nd.flip, flipOp, h8])]
        omega
      · rw [if_neg h8] at h
        by_cases h9 : n.op = 9
        · rw [if_pos h9] at h
          rw [if_pos (show n.flip.op = 8 from by simp [Nd.flip, flipOp, h9])]
          omega
        · rw [if_neg h9] at h
          rw [if_neg (show ¬ n.flip.op = 8 from by simp [Nd.flip, flipOp, h8, h9]), if_neg (show ¬ n.flip.op = 9 from by simp [Nd.flip, flipOp, h8, h9])]
          omega
  | .one n a, ht, i, j, h => by
    have hle := fit_le s _ i j h
    unfold Fit at h
    unfold Rx.turn Fit
    rw [List.length_reverse]
    have ih := fit_turn s a ht.2
    by_cases h5 : n.op = 5
    · rw [if_pos h5] at h
      rw [if_pos (show n.flip.op = 5 from (flip_eq 5 (by decide) (by decide)).2 h5)]
      exact Str.turn (fit_le s a) ih h
    · rw [if_neg h5] at h
      rw [if_neg (show ¬ n.flip.op = 5 from fun e => h5 ((flip_eq 5 (by decide) (by decide)).1 e))]
      by_cases h6 : n.op = 6
      · rw [if_pos h6] at h
        rw [if_pos (show n.flip.op = 6 from (flip_eq 6 (by decide) (by decide)).2 h6)]
        obtain ⟨k, h1, h2⟩ := h
        have key : ∀ {x y : Nat}, Str s.length (Fit s.reverse a.turn) x y → ∀ z, Fit s.reverse a.turn y z → ∃ m, Fit s.reverse a.turn x m ∧ Str s.length (Fit s.reverse a.turn) m z := by
          intro x y hxy
          have hr : ∀ i j, Fit s.reverse a.turn i j → i ≤ j ∧ j ≤ s.length := fun i j h => by have := fit_le s.reverse a.turn i j h; rw [List.length_reverse] at this; exact this
          induction hxy with
          | nil x hx => intro z hz; exact ⟨z, hz, .nil z (hr _ _ hz).2⟩
          | cons x m y hx _ ih2 =>
            intro z hz
            obtain ⟨m', h3, h4⟩ := ih2 z hz
            exact ⟨m, hx, .cons m m' z h3 h4⟩
        exact key (Str.turn (fit_le s a) ih h2) _ (ih i k h1)
      · rw [if_neg h6] at h
        rw [if_neg (show ¬ n.flip.op = 6 from fun e => h6 ((flip_eq 6 (by decide) (by decide)).1 e))]
        rcases h with h | h
        · exact Or.inl (by omega)
        · exact Or.inr (ih i j h)
  | .two n a b, ht, i, j, h => by
    have hle := fit_le s _ i j h
    unfold Fit at h
    unfold Rx.turn
    have iha := fit_turn s a ht.2.1
    have ihb := fit_turn s b ht.2.2
    by_cases h3 : n.op = 3
    · rw [if_pos h3] at h ⊢
      unfold Fit
      rw [if_pos (show n.flip.op = 3 from (flip_eq 3 (by decide) (by decide)).2 h3)]
      obtain ⟨k, h1, h2⟩ := h
      exact ⟨s.length - k, ihb k j h2, iha i k h1⟩
    · rw [if_neg h3] at h ⊢
      unfold Fit
      rw [if_neg (show ¬ n.flip.op = 3 from fun e => h3 ((flip_eq 3 (by decide) (by decide)).1 e))]
      rcases h with h | h
      · exact Or.inl (iha i j h)
      · exact Or.inr (ihb i j h)
/-- BACKWARDS IT FITS BACKWARDS. -/
theorem fit_turn_iff (s : List UInt8) (t : Rx) (ht : t.Ok) (i j : Nat) (hi : i ≤ s.length) (hj : j ≤ s.length) : Fit s t i j ↔ Fit s.reverse t.turn (s.length - j) (s.length - i) := by
  constructor
  · exact fit_turn s t ht i j
  · intro h
    have := fit_turn s.reverse t.turn (Rx.turn_ok t ht) _ _ h
    rw [List.reverse_reverse, Rx.turn_turn, List.length_reverse] at this
    rw [show s.length - (s.length - i) = i by omega, show s.length - (s.length - j) = j by omega] at this
    exact this
/-- The places to which it fits, rising. -/
def EndsR (s : List UInt8) (t : Rx) (i : Nat) (l : List Nat) : Prop := l.Pairwise (· < ·) ∧ ∀ j, j ∈ l ↔ Fit s t i j
theorem ends_total (s : List UInt8) (t : Rx) (i : Nat) : ∃ l, EndsR s t i l := by
  refine ⟨(List.range (s.length + 1)).filter fun j => @decide (Fit s t i j) (Classical.propDecidable _), List.Pairwise.filter _ List.pairwise_lt_range, fun j => ?_⟩
  rw [List.mem_filter, List.mem_range, @decide_eq_true_iff (Fit s t i j) (Classical.propDecidable _)]
  exact ⟨fun h => h.2, fun h => ⟨by have := fit_le s t i j h; omega, h⟩⟩
theorem rise_eq : ∀ (x y : List Nat), x.Pairwise (· < ·) → y.Pairwise (· < ·) → (∀ j, j ∈ x ↔ j ∈ y) → x = y
  | [], [], _, _, _ => rfl
  | [], b :: y, _, _, h => by have := (h b).2 (by simp); simp at this
  | a :: x, [], _, _, h => by have := (h a).1 (by simp); simp at this
  | a :: x, b :: y, hx, hy, h => by
    rw [List.pairwise_cons] at hx hy
    have hab : a = b := by
      have h1 := (h a).1 (by simp)
      have h2 := (h b).2 (by simp)
      rw [List.mem_cons] at h1 h2
      rcases h1 with h1 | h1
      · exact h1
      · rcases h2 with h2 | h2
        · exact h2.symm
        · have := hx.1 b h2
          have := hy.1 a h1
          omega
    subst hab
    have : x = y := rise_eq x y hx.2 hy.2 (fun j => by
      have hj := h j
      rw [List.mem_cons, List.mem_cons] at hj
      constructor
      · intro hm
        have := hx.1 j hm
        rcases hj.1 (Or.inr hm) with e | e
        · omega
        · exact e
      · intro hm
        have := hy.1 j hm
        rcases hj.2 (Or.inr hm) with e | e
        · omega
        · exact e)
    rw [this]
theorem EndsR.same {s : List UInt8} {t u : Rx} {i : Nat} {x y : List Nat} (hx : EndsR s t i x) (hy : EndsR s u i y) (h : ∀ j, Fit s t i j ↔ Fit s u i j) : x = y :=
  rise_eq x y hx.1 hy.1 fun j => (hx.2 j).trans ((h j).trans (hy.2 j).symm)
theorem EndsR.le {s : List UInt8} {t : Rx} {i : Nat} {x : List Nat} (hx : EndsR s t i x) : ∀ j ∈ x, i ≤ j ∧ j ≤ s.length := fun j hj => fit_le s t i j ((hx.2 j).1 hj)
theorem rise_len : ∀ (x : List Nat) (n m : Nat), x.Pairwise (· < ·) → (∀ j ∈ x, n ≤ j ∧ j < m) → n + x.length ≤ m ∨ x = []
  | [], _, _, _, _ => Or.inr rfl
  | a :: x, n, m, h, hb => by
    left
    rw [List.pairwise_cons] at h
    have ha := hb a (by simp)
    rcases rise_len x (a + 1) m h.2 (fun j hj => ⟨h.1 j hj, (hb j (by simp [hj])).2⟩) with h1 | h1
    · simp; omega
    · subst h1; simp; omega
theorem EndsR.len {s : List UInt8} {t : Rx} {i : Nat} {x : List Nat} (hx : EndsR s t i x) : x.length ≤ s.length + 1 := by
  rcases rise_len x 0 (s.length + 1) hx.1 (fun j hj => by have := hx.le j hj; omega) with h | h
  · omega
  · rw [h]; simp
/-- All of it is fitted just if the last end is its length. -/
theorem EndsR.all {s : List UInt8} {t : Rx} {i : Nat} {x : List Nat} (hx : EndsR s t i x) : x.getLast? = some s.length ↔ Fit s t i s.length := by
  rw [← hx.2]
  constructor
  · intro h; exact List.mem_of_getLast? h
  · intro h
    obtain ⟨l, b, e⟩ := List.append_of_mem h
    cases b with
    | nil => rw [e]; simp
    | cons c b =>
      exfalso
      have h1 := hx.1
      rw [e] at h1
      have h2 := (List.pairwise_append.1 h1).2.1
      rw [List.pairwise_cons] at h2
      have h3 := h2.1 c (by simp)
      have h4 := hx.le c (by rw [e]; simp)
      omega
end Go.Proofs.YtphcncgdodhlbaaDoor
namespace Go.Proofs.YtphcncgdodhlbaaDoor
set_option linter.unusedSimpArgs false
set_option linter.unusedVariables false
set_option maxRecDepth 100000
open Go.RowKit
/-- From place k nothing is fitted. -/
def NoFit (s : List UInt8) (t : Rx) (k : Nat) : Prop := ∀ j, ¬ Fit s t k j
/-- What is found from place i on: none ahead, none longer. -/
def FndR (s : List UInt8) (t : Rx) (i : Nat) : Option (Nat × Nat) → Prop
  | none => ∀ k, i ≤ k → k ≤ s.length → NoFit s t k
  | some (a, b) => i ≤ a ∧ (∀ k, i ≤ k → k < a → NoFit s t k) ∧ Fit s t a b ∧ ∀ c, Fit s t a c → c ≤ b
theorem FndR.le {s : List UInt8} {t : Rx} {i a b : Nat} (h : FndR s t i (some (a, b))) : i ≤ a ∧ a ≤ b ∧ b ≤ s.length := by
  obtain ⟨h1, _, h2, _⟩ := h
  have := fit_le s t a b h2
  omega
theorem FndR.out {s : List UInt8} {t : Rx} {i : Nat} (h : s.length < i) : FndR s t i none := fun k h1 h2 => by omega
theorem FndR.step {s : List UInt8} {t : Rx} {i : Nat} {r : Option (Nat × Nat)} (hn : NoFit s t i) (h : FndR s t (i + 1) r) : FndR s t i r := by
  cases r with
  | none =>
    intro k h1 h2
    rcases Nat.eq_or_lt_of_le h1 with rfl | h1
    · exact hn
    · exact h k h1 h2
  | some x =>
    obtain ⟨a, b⟩ := x
    obtain ⟨h1, h2, h3, h4⟩ := h
    refine ⟨by omega, fun k g1 g2 => ?_, h3, h4⟩
    rcases Nat.eq_or_lt_of_le g1 with rfl | g1
    · exact hn
    · exact h2 k g1 g2
theorem FndR.unstep {s : List UInt8} {t : Rx} {i : Nat} {r : Option (Nat × Nat)} (hn : NoFit s t i) (h : FndR s t i r) : FndR s t (i + 1) r := by
  cases r with
  | none => exact fun k h1 h2 => h k (by omega) h2
  | some x =>
    obtain ⟨a, b⟩ := x
    obtain ⟨h1, h2, h3, h4⟩ := h
    have : i ≠ a := fun e => hn b (e ▸ h3)
    exact ⟨by omega, fun k g1 g2 => h2 k (by omega) g2, h3, h4⟩
theorem FndR.uniq {s : List UInt8} {t : Rx} {i : Nat} {r r' : Option (Nat × Nat)} (h : FndR s t i r) (h' : FndR s t i r') : r = r' := by
  cases r with
  | none =>
    cases r' with
    | none => rfl
    | some x =>
      obtain ⟨a, b⟩ := x
      have hl := h'.le
      exact absurd h'.2.2.1 (h a hl.1 (by omega) b)
  | some x =>
    obtain ⟨a, b⟩ := x
    cases r' with
    | none =>
      have hl := h.le
      exact absurd h.2.2.1 (h' a hl.1 (by omega) b)
    | some y =>
      obtain ⟨c, d⟩ := y
      obtain ⟨h1, h2, h3, h4⟩ := h
      obtain ⟨g1, g2, g3, g4⟩ := h'
      have e : a = c := by
        rcases Nat.lt_trichotomy a c with e | e | e
        · exact absurd h3 (g2 a h1 e b)
        · exact e
        · exact absurd g3 (h2 c g1 e d)
      subst e
      have := h4 d g3
      have := g4 b h3
      congr 2
      omega
/-- The last of what rises is the greatest. -/
theorem rise_last {l : List Nat} (h : l.Pairwise (· < ·)) {b : Nat} (hb : l.getLast? = some b) : ∀ c ∈ l, c ≤ b := by
  obtain ⟨r, rfl⟩ : ∃ r, l = r ++ [b] := by
    obtain ⟨ys, hys⟩ := List.getLast?_eq_some_iff.1 hb
    exact ⟨ys, hys⟩
  intro c hc
  rw [List.pairwise_append] at h
  rcases List.mem_append.1 hc with hc | hc
  · exact Nat.le_of_lt (h.2.2 c hc b (by simp))
  · rw [List.mem_singleton.1 hc]; exact Nat.le_refl _
theorem EndsR.none {s : List UInt8} {t : Rx} {i : Nat} (h : EndsR s t i []) : NoFit s t i := fun j hj => by
  have := (h.2 j).2 hj
  cases this
theorem FndR.here {s : List UInt8} {t : Rx} {i b : Nat} {l : List Nat} (h : EndsR s t i l) (hb : l.getLast? = some b) : FndR s t i (some (i, b)) :=
  ⟨Nat.le_refl _, fun k h1 h2 => by omega, (h.2 b).1 (List.mem_of_getLast? hb), fun c hc => rise_last h.1 hb c ((h.2 c).2 hc)⟩
theorem fnd_total (s : List UInt8) (t : Rx) : ∀ d i, s.length + 1 - i ≤ d → ∃ r, FndR s t i r
  | 0, i, h => ⟨none, FndR.out (by omega)⟩
  | d + 1, i, h => by
    rcases Nat.lt_or_ge s.length i with h1 | h1
    · exact ⟨none, FndR.out h1⟩
    · obtain ⟨l, hl⟩ := ends_total s t i
      cases hb : l.getLast? with
      | none =>
        have e : l = [] := List.getLast?_eq_none_iff.1 hb
        subst e
        obtain ⟨r, hr⟩ := fnd_total s t d (i + 1) (by omega)
        exact ⟨r, hr.step hl.none⟩
      | some b => exact ⟨_, FndR.here hl hb⟩
/-- Where one goes on behind a span. -/
def nextAt (x : Nat × Nat) : Nat := if x.1 = x.2 then x.2 + 1 else x.2
/-- All that is found from a place on, one behind the other. -/
inductive AllR (s : List UInt8) (t : Rx) : Nat → List (Nat × Nat) → Prop
  | nil (i : Nat) : FndR s t i none → AllR s t i []
  | cons (i : Nat) (x : Nat × Nat) (l : List (Nat × Nat)) : FndR s t i (some x) → AllR s t (nextAt x) l → AllR s t i (x :: l)
theorem nextAt_lt {s : List UInt8} {t : Rx} {i : Nat} {x : Nat × Nat} (h : FndR s t i (some x)) : i < nextAt x ∧ nextAt x ≤ s.length + 1 := by
  obtain ⟨a, b⟩ := x
  have := h.le
  unfold nextAt
  simp only
  split <;> omega
theorem all_total (s : List UInt8) (t : Rx) : ∀ d i, s.length + 1 - i ≤ d → ∃ l, AllR s t i l
  | 0, i, h => ⟨[], .nil i (FndR.out (by omega))⟩
  | d + 1, i, h => by
    obtain ⟨r, hr⟩ := fnd_total s t _ i (Nat.le_refl _)
    cases r with
    | none => exact ⟨[], .nil i hr⟩
    | some x =>
      have h1 := nextAt_lt hr
      obtain ⟨l, hl⟩ := all_total s t d (nextAt x) (by omega)
      exact ⟨x :: l, .cons i x l hr hl⟩
theorem AllR.uniq {s : List UInt8} {t : Rx} {i : Nat} {l : List (Nat × Nat)} (h : AllR s t i l) : ∀ l', AllR s t i l' → l = l' := by
  induction h with
  | nil i h =>
    intro l' h'
    cases h' with
    | nil _ _ => rfl
    | cons _ x r hx _ => cases h.uniq hx
  | cons i x r hx _ ih =>
    intro l' h'
    cases h' with
    | nil _ h0 => cases hx.uniq h0
    | cons _ y r' hy hr =>
      obtain rfl := Option.some.inj (hx.uniq hy)
      rw [ih r' hr]
theorem AllR.len {s : List UInt8} {t : Rx} {i : Nat} {l : List (Nat × Nat)} (h : AllR s t i l) : l.length ≤ s.length + 1 - i := by
  induction h with
  | nil i h => simp
  | cons i x r hx _ ih =>
    have := nextAt_lt hx
    simp
    omega
theorem AllR.mem {s : List UInt8} {t : Rx} {i : Nat} {l : List (Nat × Nat)} (h : AllR s t i l) : ∀ x ∈ l, i ≤ x.1 ∧ x.1 ≤ x.2 ∧ x.2 ≤ s.length := by
  induction h with
  | nil i h => intro x hx; cases hx
  | cons i y r hy _ ih =>
    have hn := nextAt_lt hy
    intro x hx
    rcases List.mem_cons.1 hx with rfl | hx
    · exact hy.le
    · have := ih x hx
      omega
end Go.Proofs.YtphcncgdodhlbaaDoor
namespace Go.Proofs.YtphcncgdodhlbaaDoor
set_option linter.unusedSimpArgs false
set_option linter.unusedVariables false
set_option maxRecDepth 100000
open Go.RowKit
theorem list2sp {α : Type} (l : List α) (h : l.length = 2) : ∃ a b, l = [a, b] := by
  match l, h with
  | [a, b], _ => exact ⟨a, b, rfl⟩
/-- Two spans are the same. -/
theorem eqSpd (d : Nat) (a b c e : Int) (w : World) : (Op.equalIn (d + 1 + 1) 28 (.agg #[.int .i64 a, .int .i64 b]) (.agg #[.int .i64 c, .int .i64 e])).run Tryd.prog w = .ok (a == c && b == e) w := by
  have hs : Tryd.prog.underlying 28 = some (.struct (Tryd.prog.fieldsOf 28)) := by kernel_rfl
  have hp : Tryd.prog.stoodInHeld 28 = false := by kernel_rfl
  rw [run_equalIn_struct w (d + 1) _ _ _ hs hp]
  have hf : (Tryd.prog.fieldsOf 28).toList.map (fun f => (f.type, f.offset, f.name == "_")) = [(3, 0, false), (3, 1, false)] := by kernel_rfl
  generalize (Tryd.prog.fieldsOf 28).toList = fs at hf
  obtain ⟨f0, f1, rfl⟩ := list2sp fs (by have := congrArg List.length hf; simpa using this)
  · simp only [List.map_cons, List.map_nil, List.cons.injEq, Prod.mk.injEq, and_true] at hf
    obtain ⟨⟨t0, o0, n0⟩, ⟨t1, o1, n1⟩⟩ := hf
    have n0' : f0.name ≠ "_" := by simpa using n0
    have n1' : f1.name ≠ "_" := by simpa using n1
    have hi : ∀ (a b : Int) (w : World), (Op.equalIn (d + 1) 3 (.int .i64 a) (.int .i64 b)).run Tryd.prog w = .ok (a == b) w := fun a b w => run_equalIn_int w d 3 .i64 .i64 a b Tryd.underlying3
    have q0 : ∀ (x y : Int) (w : World), (part 3 #[.int .i64 x, .int .i64 y] 0).run Tryd.prog w = .ok (.int .i64 x) w := fun _ _ _ => by kernel_rfl
    have q1 : ∀ (x y : Int) (w : World), (part 3 #[.int .i64 x, .int .i64 y] 1).run Tryd.prog w = .ok (.int .i64 y) w := fun _ _ _ => by kernel_rfl
    simp only [Op.eqFields, t0, o0, t1, o1, ne_eq, n0', n1', not_false_eq_true, if_true, Sem.run_bind, q0, q1, Result.andThen_ok, hi, Sem.run_ite, Sem.run_pure]
    cases h1 : a == c <;> cases h2 : b == e <;> simp [q1, hi, h2]
theorem eqSp (a b c e : Int) (w : World) : (Op.equalIn 10000 28 (.agg #[.int .i64 a, .int .i64 b]) (.agg #[.int .i64 c, .int .i64 e])).run Tryd.prog w = .ok (a == c && b == e) w := eqSpd 9998 a b c e w
end Go.Proofs.YtphcncgdodhlbaaDoor
namespace Go.Proofs.YtphcncgdodhlbaaDoor
set_option linter.unusedSimpArgs false
set_option linter.unusedVariables false
set_option maxRecDepth 100000
open Go.RowKit
/-- A span as a value. -/
abbrev spV (x : Nat × Nat) : Value := .agg #[.int .i64 (x.1 : Int), .int .i64 (x.2 : Int)]
/-- The spans l lie in block b from off on. -/
def SpAt (w : World) (b off : Nat) (l : List (Nat × Nat)) : Prop := ∀ (i : Nat) (x : Nat × Nat), l[i]? = some x → w.cell? ⟨b, off + i * 2, none⟩ = some (.int .i64 (x.1 : Int)) ∧ w.cell? ⟨b, off + i * 2 + 1, none⟩ = some (.int .i64 (x.2 : Int))
/-- A slice that reads as the spans l. -/
def SpIn (w : World) (v : Value) (l : List (Nat × Nat)) : Prop := ∃ a cap, v = .slice a l.length cap ∧ l.length ≤ maxLen ∧ (l = [] ∨ ∃ b off, a = some ⟨b, off, none⟩ ∧ b < w.heap.size ∧ SpAt w b off l)
theorem SpAt.below {w w' : World} {B b off : Nat} {l : List (Nat × Nat)} (h : SpAt w b off l) (hb : Below B w w') (hlt : b < B) : SpAt w' b off l := fun i n hn =>
  ⟨(hb.cell (p := ⟨b, _, none⟩) hlt).trans (h i n hn).1, (hb.cell (p := ⟨b, _, none⟩) hlt).trans (h i n hn).2⟩
theorem SpIn.below {w w' : World} {v : Value} {l : List (Nat × Nat)} (h : SpIn w v l) (hb : Below w.heap.size w w') : SpIn w' v l := by
  obtain ⟨a, cap, rfl, hm, h | ⟨b, off, rfl, hlt, hn⟩⟩ := h
  · exact ⟨a, cap, rfl, hm, Or.inl h⟩
  · exact ⟨_, cap, rfl, hm, Or.inr ⟨b, off, rfl, Nat.lt_of_lt_of_le hlt hb.size, hn.below hb hlt⟩⟩
theorem spIn_nil (w : World) : SpIn w (.slice none 0 0) [] := ⟨none, 0, rfl, by simp, Or.inl rfl⟩
theorem spIn_form {w : World} {v : Value} {l : List (Nat × Nat)} (h : SpIn w v l) : ∃ a cap, v = .slice a l.length cap ∧ l.length ≤ maxLen := by
  obtain ⟨a, cap, h1, h2, _⟩ := h
  exact ⟨a, cap, h1, h2⟩
def spCells : List (Nat × Nat) → List Value
  | [] => []
  | x :: r => .int .i64 (x.1 : Int) :: .int .i64 (x.2 : Int) :: spCells r
theorem spCells_append : ∀ (x y : List (Nat × Nat)), spCells (x ++ y) = spCells x ++ spCells y
  | [], y => rfl
  | n :: r, y => by simp [spCells, spCells_append r y]
theorem spCells_len : ∀ (x : List (Nat × Nat)), (spCells x).length = x.length * 2
  | [] => rfl
  | n :: r => by simp [spCells, spCells_len r]; omega
theorem spCells_one : ∀ (x : List (Nat × Nat)), ∀ u ∈ spCells x, u.oneCell' = true
  | [], u, h => by simp [spCells] at h
  | n :: r, u, h => by
    simp [spCells] at h
    rcases h with rfl | rfl | h
    · rfl
    · rfl
    · exact spCells_one r u h
theorem spCells_at : ∀ (l : List (Nat × Nat)) (i : Nat) (x : Nat × Nat), l[i]? = some x → (spCells l)[i * 2]? = some (.int .i64 (x.1 : Int)) ∧ (spCells l)[i * 2 + 1]? = some (.int .i64 (x.2 : Int))
  | [], i, n, h => by simp at h
  | m :: r, 0, n, h => by
    simp at h
    subst h
    exact ⟨rfl, rfl⟩
  | m :: r, i + 1, n, h => by
    have := spCells_at r i n (by simpa using h)
    rw [show (i + 1) * 2 = i * 2 + 1 + 1 by omega]
    simpa [spCells] using this
/-- A slice of the call's own that reads as the spans l. -/
def SpOwn (w : World) (B : Nat) (v : Value) (l : List (Nat × Nat)) : Prop := w.ownsRow B 28 2 v l.length (spCells l)
theorem SpOwn.nil (w : World) (B : Nat) : SpOwn w B (.slice none 0 0) [] := ⟨rfl, Or.inl ⟨rfl, rfl⟩⟩
theorem SpOwn.isIn {w : World} {B : Nat} {v : Value} {l : List (Nat × Nat)} (h : SpOwn w B v l) (hm : l.length ≤ maxLen) : SpIn w v l := by
  rcases h.2 with ⟨hv, h0⟩ | ⟨g, cap, cur, hv, hb, hg, hc, _⟩
  · have e : l = [] := List.eq_nil_of_length_eq_zero h0
    subst e
    rw [hv]
    exact spIn_nil w
  · refine ⟨_, _, hv, hm, Or.inr ⟨g, 0, rfl, ?_, ?_⟩⟩
    · rcases Nat.lt_or_ge g w.heap.size with h' | h'
      · exact h'
      · rw [Array.getElem?_eq_none h'] at hg; cases hg
    · intro i x hx
      have hc := spCells_at l i x hx
      have h1 := h.cells (g := g) (by rw [hv]; rfl) (i * 2) _ hc.1
      have h2 := h.cells (g := g) (by rw [hv]; rfl) (i * 2 + 1) _ hc.2
      rw [Addr.add_lit] at h1 h2
      exact ⟨h1, h2⟩
theorem SpOwn.kept {w w' : World} {B : Nat} {v : Value} {l : List (Nat × Nat)} (h : SpOwn w B v l) (hb : Below w.heap.size w w') : SpOwn w' B v l := by
  refine World.ownsRow.kept (row := none) h ⟨hb.os, hb.tape, hb.output, hb.size, fun k hk _ => hb.block k hk⟩ ?_
  cases hv : v.ownBlock with
  | none => exact Or.inl rfl
  | some x => exact Or.inr (by simp)
theorem SpOwn.form {w : World} {B : Nat} {v : Value} {l : List (Nat × Nat)} (h : SpOwn w B v l) : ∃ a cap, v = .slice a l.length cap := by
  rcases h.2 with ⟨hv, h0⟩ | ⟨g, cap, cur, hv, _⟩
  · exact ⟨none, 0, by rw [hv, h0]⟩
  · exact ⟨_, _, hv⟩
theorem SpOwn.grown {w w' : World} {B : Nat} {v : Value} {l : List (Nat × Nat)} (h : SpOwn w B v l) (hB : B ≤ w.heap.size) (hg : w.grownBy w' v.ownBlock) : Below B w w' := by
  refine ⟨hg.os, hg.tape, hg.output, hg.size, fun k hk => hg.block k (by omega) ?_⟩
  intro e
  rcases h.2 with ⟨hv, _⟩ | ⟨b, cap, cur, hv, hb, _⟩
  · rw [hv] at e; cases e
  · rw [hv] at e
    injection e with e
    simp only at e
    omega
/-- append of one span, which lies in a new row. -/
theorem wpList_append_sp {ops : Array Oper} {rest : List Oper} {o : Oper} {a : Act} {Q : Exit → Act → World → Prop} {w : World} (hgd : o.guard = none) (s x : Operand)
    (ho : o.op = .call { callee := .builtin .append, args := #[s, x], argTypes := #[25, 25] })
    (B : Nat) (v : Value) (hs : a.eval s = v) (l : List (Nat × Nat)) (hown : SpOwn w B v l) (g2 c2 : Nat) (y : Nat × Nat) (hx : a.eval x = .slice (some ⟨g2, 0, none⟩) 1 c2)
    (hnew : w.cell? ⟨g2, 0, none⟩ = some (.int .i64 (y.1 : Int))) (hnew2 : w.cell? ⟨g2, 1, none⟩ = some (.int .i64 (y.2 : Int))) (hlen : l.length ≤ 1000000000) (hbase : B ≤ w.heap.size)
    (h : ∀ g cap w', SpOwn w' B (.slice (some ⟨g, 0, none⟩) (l.length + 1) cap) (l ++ [y]) → w.grownBy w' v.ownBlock → B ≤ g → g < w'.heap.size → wpList Tryd.prog ops Q rest (a.put o.dst (.slice (some ⟨g, 0, none⟩) (l.length + 1) cap)) w') : wpList Tryd.prog ops Q (o :: rest) a w := by
  have hinfo : (Tryd.prog.info? 28).map (fun i => (i.zero, i.size, i.bytes)) = some (some (.agg #[.int .i64 0, .int .i64 0]), 2, 16) := by kernel_rfl
  obtain ⟨i0, hi, hz0, hz1, hz2⟩ := info_parts hinfo
  refine wpList_append_lies w hgd s x 25 ho B 28 i0 _ 2 16 Tryd.underlying25 hi hz0 hz1 hz2 rfl (by decide) v l.length (spCells l) hs hown ⟨g2, 0, none⟩ 1 c2 (spCells [y]) hx rfl ?_ (spCells_one [y]) (by omega) (by unfold maxLen; omega) (by omega) hbase _ rfl ?_
  · intro j u hj
    match j, hj with
    | 0, hj =>
      simp [spCells] at hj
      subst hj
      rw [Addr.add_lit]
      exact hnew
    | 1, hj =>
      simp [spCells] at hj
      subst hj
      rw [Addr.add_lit]
      exact hnew2
    | j + 2, hj => simp [spCells] at hj
  · intro g cap w' h1 h2 h3 h4
    have e : SpOwn w' B (.slice (some ⟨g, 0, none⟩) (l.length + 1) cap) (l ++ [y]) := by
      unfold SpOwn
      rw [spCells_append]
      simpa using h1
    have hg : B ≤ g := by
      rcases h3 with h3 | h3
      · rcases hown.2 with ⟨hv, _⟩ | ⟨g', cap', cur, hv, hb, _⟩
        · rw [hv] at h3; cases h3
        · rw [hv] at h3
          injection h3 with h3
          simp at h3
          omega
      · omega
    exact h g cap w' e h2 hg h4
end Go.Proofs.YtphcncgdodhlbaaDoor
namespace Go.Proofs.YtphcncgdodhlbaaDoor
set_option linter.unusedSimpArgs false
set_option linter.unusedVariables false
set_option maxRecDepth 100000
open Go.RowKit
/-- What is wrong with a pattern or a text of n bytes. -/
def meanF (ns : List Nd) (n : Nat) : Int := if faultL ns = 0 then (if 400 < n then 3 else 0) else faultL ns
/-- What is wrong with them or a place. -/
def meanE (ns : List Nd) (n : Nat) (i : Int) : Int := if meanF ns n = 0 then (if 0 ≤ i ∧ i ≤ n then 0 else 1) else meanF ns n
theorem meanF_zero (ns : List Nd) (n : Nat) : meanF ns n = 0 ↔ faultL ns = 0 ∧ n ≤ 400 := by
  unfold meanF
  by_cases h : faultL ns = 0
  · rw [if_pos h]
    by_cases h4 : 400 < n
    · rw [if_pos h4]; simp; omega
    · rw [if_neg h4]; simp [h]; omega
  · rw [if_neg h]; simp [h]
theorem meanE_zero (ns : List Nd) (n : Nat) (i : Int) : meanE ns n i = 0 ↔ faultL ns = 0 ∧ n ≤ 400 ∧ 0 ≤ i ∧ i ≤ n := by
  unfold meanE
  by_cases h : meanF ns n = 0
  · rw [if_pos h]
    obtain ⟨h1, h2⟩ := (meanF_zero ns n).1 h
    by_cases h3 : 0 ≤ i ∧ i ≤ n
    · rw [if_pos h3]; simp [h1, h2, h3]
    · rw [if_neg h3]; simp [h1, h2]; omega
  · rw [if_neg h]
    constructor
    · intro h'; exact absurd h' h
    · rintro ⟨h1, h2, _⟩; exact absurd ((meanF_zero ns n).2 ⟨h1, h2⟩) h
end Go.Proofs.YtphcncgdodhlbaaDoor
namespace Go.Proofs.YtphcncgdodhlbaaDoor
set_option linter.unusedSimpArgs false
set_option linter.unusedVariables false
set_option maxRecDepth 100000
open Go.RowKit
/-- The numbers l lie in block b from off on. -/
def IsAt (w : World) (b off : Nat) (l : List Nat) : Prop := ∀ (i x : Nat), l[i]? = some x → w.cell? ⟨b, off + i, none⟩ = some (.int .i64 (x : Int))
/-- A slice that reads as the numbers l. -/
def IsIn (w : World) (v : Value) (l : List Nat) : Prop := ∃ a cap, v = .slice a l.length cap ∧ l.length ≤ maxLen ∧ (l = [] ∨ ∃ b off, a = some ⟨b, off, none⟩ ∧ b < w.heap.size ∧ IsAt w b off l)
theorem IsAt.below {w w' : World} {B b off : Nat} {l : List Nat} (h : IsAt w b off l) (hb : Below B w w') (hlt : b < B) : IsAt w' b off l :=
  fun i n hn => (hb.cell (p := ⟨b, _, none⟩) hlt).trans (h i n hn)
theorem IsIn.below {w w' : World} {v : Value} {l : List Nat} (h : IsIn w v l) (hb : Below w.heap.size w w') : IsIn w' v l := by
  obtain ⟨a, cap, rfl, hm, h | ⟨b, off, rfl, hlt, hn⟩⟩ := h
  · exact ⟨a, cap, rfl, hm, Or.inl h⟩
  · exact ⟨_, cap, rfl, hm, Or.inr ⟨b, off, rfl, Nat.lt_of_lt_of_le hlt hb.size, hn.below hb hlt⟩⟩
theorem isIn_nil (w : World) : IsIn w (.slice none 0 0) [] := ⟨none, 0, rfl, by simp, Or.inl rfl⟩
theorem isIn_form {w : World} {v : Value} {l : List Nat} (h : IsIn w v l) : ∃ a cap, v = .slice a l.length cap ∧ l.length ≤ maxLen := by
  obtain ⟨a, cap, h1, h2, _⟩ := h
  exact ⟨a, cap, h1, h2⟩
theorem drop_at {α : Type} (x : List α) (i : Nat) (n : α) (hn : x[i]? = some n) : x.drop i = n :: x.drop (i + 1) := by
  have hi : i < x.length := by
    rcases Nat.lt_or_ge i x.length with h | h
    · exact h
    · rw [List.getElem?_eq_none h] at hn; cases hn
  rw [List.drop_eq_getElem_cons hi]
  rw [List.getElem?_eq_getElem hi] at hn
  rw [Option.some.inj hn]
/-- New memory of numbers. -/
theorem is_new (w : World) (l : List Nat) (o : Obj) (ho : o = .cells (l.map fun x : Nat => Value.int .i64 (x : Int)).toArray 3 (0, 0)) (hm : l.length ≤ maxLen) : IsIn (w.alloc o) (.slice (some ⟨w.heap.size, 0, none⟩) l.length l.length) l := by
  refine ⟨_, _, rfl, hm, Or.inr ⟨w.heap.size, 0, rfl, by simp, fun i x hx => ?_⟩⟩
  subst ho
  rw [World.cell?_alloc_at (w := w) _ _ w.heap.size (0 + i) rfl]
  simp [hx]
end Go.Proofs.YtphcncgdodhlbaaDoor
namespace Go.Proofs.YtphcncgdodhlbaaDoor
set_option linter.unusedSimpArgs false
set_option linter.unusedVariables false
set_option maxRecDepth 100000
open Go.RowKit

theorem nsIn_nil (w : World) : NsIn w (.slice none 0 0) [] := ⟨none, 0, rfl, by simp, Or.inl rfl⟩
theorem nsIn_form {w : World} {v : Value} {ns : List Nd} (h : NsIn w v ns) : ∃ a cap, v = .slice a ns.length cap ∧ ns.length ≤ maxLen := by
  obtain ⟨a, cap, h1, h2, _⟩ := h
  exact ⟨a, cap, h1, h2⟩
theorem nsEq_refl (x : List Nd) : nsEq x x = true := (nsEq_iff x x).2 rfl
end Go.Proofs.YtphcncgdodhlbaaDoor
namespace Go.Proofs.YtphcncgdodhlbaaDoor
set_option linter.unusedSimpArgs false
set_option linter.unusedVariables false
set_option maxRecDepth 100000
open Go.RowKit
/-- What the document asks of Ends. -/
structure MeanN : Prop where
  bad : ∀ ns v (s : ByteArray) (i : Int) w, NsIn w v ns → (∀ n ∈ ns, n.wf) → s.size ≤ maxLen → ¬ meanE ns s.size i = 0 → Calls Tryd.prog 15 #[v, .string s, .int .i64 i] w fun e w' => ∃ u, e = .returned (.tuple #[u, errV (meanE ns s.size i)]) ∧ Below w.heap.size w w' ∧ IsIn w' u []
  ends : ∀ (t : Rx) v (s : ByteArray) (i : Nat) l w, Tab w → t.Ok → NsIn w v t.flat → (∀ n ∈ t.flat, n.wf) → meanE t.flat s.size i = 0 → EndsR s.data.toList t i l → Calls Tryd.prog 15 #[v, .string s, .int .i64 (i : Int)] w fun e w' => ∃ u, e = .returned (.tuple #[u, .nilIface]) ∧ Below w.heap.size w w' ∧ IsIn w' u l
end Go.Proofs.YtphcncgdodhlbaaDoor
namespace Go.Proofs.YtphcncgdodhlbaaDoor
set_option linter.unusedSimpArgs false
set_option linter.unusedVariables false
set_option maxRecDepth 100000
open Go.RowKit

theorem flat_inj : ∀ (t u : Rx), t.Ok → u.Ok → ∀ (p q : List Nd), t.flat ++ p = u.flat ++ q → t = u ∧ p = q
  | .leaf n, .leaf m, ht, hu, p, q, h => by
    simp [Rx.flat] at h
    exact ⟨by rw [h.1], h.2⟩
  | .leaf n, .one m a, ht, hu, p, q, h => by
    simp [Rx.flat] at h
    have h1 : prt n.op = 0 := ht
    have h2 := hu.1
    rw [h.1] at h1
    omega
  | .leaf n, .two m a b, ht, hu, p, q, h => by
    simp [Rx.flat] at h
    have h1 : prt n.op = 0 := ht
    have h2 := hu.1
    rw [h.1] at h1
    omega
  | .one n a, .leaf m, ht, hu, p, q, h => by
    simp [Rx.flat] at h
    have h1 : prt m.op = 0 := hu
    have h2 := ht.1
    rw [h.1] at h2
    omega
  | .one n a, .one m b, ht, hu, p, q, h => by
    simp [Rx.flat] at h
    obtain ⟨h1, h2⟩ := flat_inj a b ht.2 hu.2 p q h.2
    exact ⟨by rw [h.1, h1], h2⟩
  | .one n a, .two m b c, ht, hu, p, q, h => by
    simp [Rx.flat] at h
    have h1 := ht.1
    have h2 := hu.1
    rw [h.1] at h1
    omega
  | .two n a b, .leaf m, ht, hu, p, q, h => by
    simp [Rx.flat] at h
    have h1 : prt m.op = 0 := hu
    have h2 := ht.1
    rw [h.1] at h2
    omega
  | .two n a b, .one m c, ht, hu, p, q, h => by
    simp [Rx.flat] at h
    have h1 := ht.1
    have h2 := hu.1
    rw [h.1] at h1
    omega
  | .two n a b, .two m c d, ht, hu, p, q, h => by
    simp only [Rx.flat, List.cons_append, List.append_assoc, List.cons.injEq] at h
    obtain ⟨h1, h2⟩ := flat_inj a c ht.2.1 hu.2.1 _ _ h.2
    obtain ⟨h3, h4⟩ := flat_inj b d ht.2.2 hu.2.2 _ _ h2
    exact ⟨by rw [h.1, h1, h3], h4⟩
theorem tree_inj (t u : Rx) (ht : t.Ok) (hu : u.Ok) (h : t.flat = u.flat) : t = u := (flat_inj t u ht hu [] [] (by rw [h])).1
end Go.Proofs.YtphcncgdodhlbaaDoor
namespace Go.Proofs.YtphcncgdodhlbaaDoor
set_option linter.unusedSimpArgs false
set_option linter.unusedVariables false
set_option maxRecDepth 100000
open Go.RowKit
/-- The number of an error: none is found. -/
def fndE : Option (Nat × Nat) → Int
  | none => 4
  | some _ => 0
/-- A span, or none, as it is answered. -/
def fndX : Option (Nat × Nat) → Nat × Nat
  | none => (0, 0)
  | some x => x
/-- Of All. -/
structure FindL (X : World → Prop) : Prop where
  bad : ∀ ns v (s : ByteArray) w, NsIn w v ns → (∀ n ∈ ns, n.wf) → s.size ≤ maxLen → ¬ meanF ns s.size = 0 → Calls Tryd.prog 12 #[v, .string s] w fun e w' => ∃ u, e = .returned (.tuple #[u, errV (meanF ns s.size)]) ∧ Below w.heap.size w w' ∧ SpIn w' u []
  all : ∀ (t : Rx) v (s : ByteArray) l w, X w → t.Ok → NsIn w v t.flat → (∀ n ∈ t.flat, n.wf) → meanF t.flat s.size = 0 → AllR s.data.toList t 0 l → Calls Tryd.prog 12 #[v, .string s] w fun e w' => ∃ u, e = .returned (.tuple #[u, .nilIface]) ∧ Below w.heap.size w w' ∧ SpIn w' u l
end Go.Proofs.YtphcncgdodhlbaaDoor
namespace Go.Proofs.YtphcncgdodhlbaaDoor
set_option linter.unusedSimpArgs false
set_option linter.unusedVariables false
set_option maxRecDepth 100000
open Go.RowKit
/-- What the document asks of Find (X: what the library's tables hold). -/
structure FindC (X : World → Prop) : Prop where
  bad : ∀ ns v (s : ByteArray) (i : Int) w, NsIn w v ns → (∀ n ∈ ns, n.wf) → s.size ≤ maxLen → ¬ meanE ns s.size i = 0 → Calls Tryd.prog 10 #[v, .string s, .int .i64 i] w fun e w' => e = .returned (.tuple #[spV (0, 0), errV (meanE ns s.size i)]) ∧ Below w.heap.size w w'
  find : ∀ (t : Rx) v (s : ByteArray) (i : Nat) r w, X w → t.Ok → NsIn w v t.flat → (∀ n ∈ t.flat, n.wf) → meanE t.flat s.size i = 0 → FndR s.data.toList t i r → Calls Tryd.prog 10 #[v, .string s, .int .i64 (i : Int)] w fun e w' => e = .returned (.tuple #[spV (fndX r), errV (fndE r)]) ∧ Below w.heap.size w w'
/-- What Find answers: an error's number, a span. -/
def Fo (ns : List Nd) (s : List UInt8) (i c : Int) (x : Nat × Nat) : Prop :=
  (¬ meanE ns s.length i = 0 ∧ c = meanE ns s.length i ∧ x = (0, 0)) ∨ (meanE ns s.length i = 0 ∧ ∃ t : Rx, t.Ok ∧ ns = t.flat ∧ ∃ r, FndR s t i.toNat r ∧ c = fndE r ∧ x = fndX r)
theorem FindC.any {X : World → Prop} (P : FindC X) (ns : List Nd) (s : ByteArray) (hs : s.size ≤ maxLen) (i : Int) (hw : ∀ n ∈ ns, n.wf) : ∃ c x, Fo ns s.data.toList i c x ∧ ∀ v w, X w → NsIn w v ns → Calls Tryd.prog 10 #[v, .string s, .int .i64 i] w fun e w' => e = .returned (.tuple #[spV x, errV c]) ∧ Below w.heap.size w w' := by
  have hl : s.data.toList.length = s.size := by simp
  by_cases hE : meanE ns s.size i = 0
  · obtain ⟨hf, h4, h0, h1⟩ := (meanE_zero ns s.size i).1 hE
    obtain ⟨t, ht, rfl⟩ := tree_of ns ((faultL_zero ns).1 hf).2.2
    obtain ⟨r, hr⟩ := fnd_total s.data.toList t _ i.toNat (Nat.le_refl _)
    refine ⟨fndE r, fndX r, Or.inr ⟨by rw [hl]; exact hE, t, ht, rfl, r, hr, rfl, rfl⟩, fun v w hX hN => ?_⟩
    have := P.find t v s i.toNat r w hX ht hN hw (by rw [Int.toNat_of_nonneg h0]; exact hE) hr
    rwa [Int.toNat_of_nonneg h0] at this
  · exact ⟨_, _, Or.inl ⟨by rw [hl]; exact hE, by rw [hl], rfl⟩, fun v w hX hN => P.bad ns v s i w hN hw hs hE⟩
/-- LATER IS NO EARLIER. -/
theorem FndR.later {s : List UInt8} {t : Rx} {a b : Nat} {r q : Option (Nat × Nat)} (hab : a ≤ b) (h : FndR s t a r) (g : FndR s t b q) : (r = none → q = none) ∧ (∀ x, r = some x → (x.1 < b ∨ q = some x) ∧ ∀ y, q = some y → x.1 ≤ y.1) := by
  constructor
  · rintro rfl
    exact g.uniq (fun k h1 h2 => h k (by omega) h2)
  · rintro ⟨c, d⟩ rfl
    refine ⟨?_, ?_⟩
    · rcases Nat.lt_or_ge c b with h1 | h1
      · exact Or.inl h1
      · exact Or.inr (g.uniq ⟨h1, fun k h2 h3 => h.2.1 k (by omega) h3, h.2.2⟩)
    · rintro ⟨e, f⟩ rfl
      rcases Nat.lt_or_ge e c with h1 | h1
      · exact absurd g.2.2.1 (h.2.1 e (by have := g.1; omega) h1 f)
      · exact h1
theorem meanE_cases (ns : List Nd) (n : Nat) (i : Int) : (¬ meanF ns n = 0 ∧ meanE ns n i = meanF ns n) ∨ (meanF ns n = 0 ∧ (meanE ns n i = 0 ∨ meanE ns n i = 1)) := by
  unfold meanE
  by_cases h : meanF ns n = 0
  · rw [if_pos h]
    right
    refine ⟨h, ?_⟩
    split
    · exact Or.inl rfl
    · exact Or.inr rfl
  · rw [if_neg h]
    exact Or.inl ⟨h, rfl⟩
theorem fo_later {ns : List Nd} {s : List UInt8} {a b c d : Int} {x y : Nat × Nat} (hab : a ≤ b) (h : Fo ns s a c x) (g : Fo ns s b d y) : (c = 4 → ¬ d = 0) ∧ (c = 0 → d = 4 → (x.1 : Int) < b) ∧ (c = 0 → d = 0 → x.1 ≤ y.1 ∧ ((x.1 : Int) < b ∨ x = y)) := by
  have ha := meanE_cases ns s.length a
  have hb := meanE_cases ns s.length b
  rcases h with ⟨h1, h2, h3⟩ | ⟨h1, t, ht, rfl, r, hr, rfl, rfl⟩
  · refine ⟨fun e => ?_, fun e => by omega, fun e => by omega⟩
    rcases g with ⟨g1, g2, g3⟩ | ⟨g1, _⟩
    · omega
    · omega
  · rcases g with ⟨g1, g2, g3⟩ | ⟨g1, u, hu, hut, q, hq, rfl, rfl⟩
    · refine ⟨fun e => by omega, fun e e' => by omega, fun e e' => by omega⟩
    · obtain rfl := tree_inj t u ht hu hut
      have ia := ((meanE_zero _ _ a).1 h1).2.2
      have ib := ((meanE_zero _ _ b).1 g1).2.2
      have key := FndR.later (show a.toNat ≤ b.toNat by omega) hr hq
      refine ⟨fun e e' => ?_, fun e e' => ?_, fun e e' => ?_⟩
      · cases r with
        | none => rw [key.1 rfl] at e'; cases e'
        | some x => cases e
      · cases r with
        | none => cases e
        | some x =>
          cases q with
          | some y => cases e'
          | none =>
            rcases (key.2 x rfl).1 with h' | h'
            · simp only [fndX]; omega
            · cases h'
      · cases r with
        | none => cases e
        | some x =>
          cases q with
          | none => cases e'
          | some y =>
            have k2 := key.2 x rfl
            refine ⟨k2.2 y rfl, ?_⟩
            rcases k2.1 with h' | h'
            · left; simp only [fndX]; omega
            · right; exact (Option.some.inj h').symm
end Go.Proofs.YtphcncgdodhlbaaDoor
namespace Go.Proofs.YtphcncgdodhlbaaDoor
set_option linter.unusedSimpArgs false
set_option linter.unusedVariables false
set_option maxRecDepth 100000
open Go.RowKit
set_option maxHeartbeats 400000 in
theorem with_any (k : C4) (x : Int) (w : World) (h : 0 ≤ x) (h2 : x < 256) :
    Calls Tryd.prog 23 #[k.v, .int .u8 x] w fun e w' => e = .returned (k.add x).v ∧ Below w.heap.size w w' := by
  have hw := k.get (x/64).toNat (by omega)
  have hs := k.set (x/64).toNat (by omega)
  go_enter Tryd.func23, Tryd.ntmps23
  go_wp2
  refine bodyPost_ret (v := (k.add x).v) (by simp [results, Tryd.results23, go_sem]; exact ⟨rfl, rfl, rfl, rfl⟩) rfl ⟨rfl, ?_⟩
  exact ((Below.refl _ _).alloc (Nat.le_refl _) _).alloc (by simp) _
end Go.Proofs.YtphcncgdodhlbaaDoor
