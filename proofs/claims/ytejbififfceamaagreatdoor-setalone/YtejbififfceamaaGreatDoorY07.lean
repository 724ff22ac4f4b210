/- What a pattern fits, in a text, from a place to another one; the laws of it. What is found of a pattern, the first, and one behind the other: plain mathematics. What a pattern's text is, as a whole, and what stands in all that it fits: plain mathematics. Sets of patterns: what is added, removed, told and scanned. Plain mathematics. -/
import Derived.Test.YtejbififfceamaaGreatDoorY04
import Derived.Test.YtejbififfceamaaGreatDoorY06
namespace Go.Proofs.YtejbififfceamaaGreatDoor
set_option linter.unusedSimpArgs false
set_option linter.unusedVariables false
set_option maxRecDepth 100000
open Go.RowKit

/-- As often as one likes, within N. -/
inductive Str (N : Nat) (R : Nat → Nat → Prop) : Nat → Nat → Prop
  | nil (i : Nat) : i ≤ N → Str N R i i
  | cons (i k j : Nat) : R i k → Str N R k j → Str N R i j
/-- A pattern fits a text from i to j. -/
def Fit (s : List UInt8) : Rx → Nat → Nat → Prop
  | .leaf n, i, j => if n.op = 1 then ∃ c, s[i]? = some c ∧ n.c.has c.toNat = true ∧ j = i + 1 else if n.op = 8 then i = 0 ∧ j = 0 else if n.op = 9 then i = s.length ∧ j = s.length else i = j ∧ i ≤ s.length
  | .one n a, i, j => if n.op = 5 then Str s.length (Fit s a) i j else if n.op = 6 then ∃ k, Fit s a i k ∧ Str s.length (Fit s a) k j else (i = j ∧ i ≤ s.length) ∨ Fit s a i j
  | .two n a b, i, j => if n.op = 3 then ∃ k, Fit s a i k ∧ Fit s b k j else Fit s a i j ∨ Fit s b i j
theorem Str.le {N : Nat} {R : Nat → Nat → Prop} (h : ∀ i j, R i j → i ≤ j ∧ j ≤ N) : ∀ {i j : Nat}, Str N R i j → i ≤ j ∧ j ≤ N := by
  intro i j hs
  induction hs with
  | nil i hi => exact ⟨Nat.le_refl _, hi⟩
  | cons i k j h1 _ ih => exact ⟨Nat.le_trans (h i k h1).1 ih.1, ih.2⟩
theorem fit_le (s : List UInt8) : ∀ (t : Rx) (i j : Nat), Fit s t i j → i ≤ j ∧ j ≤ s.length
  | .leaf n, i, j, h => by
    unfold Fit at h
    split at h
    · obtain ⟨c, h1, _, rfl⟩ := h
      have : i < s.length := by
        rcases Nat.lt_or_ge i s.length with h' | h'
        · exact h'
        · rw [List.getElem?_eq_none h'] at h1; cases h1
      omega
    · split at h
      · omega
      · split at h <;> omega
  | .one n a, i, j, h => by
    unfold Fit at h
    split at h
    · exact Str.le (fit_le s a) h
    · split at h
      · obtain ⟨k, h1, h2⟩ := h
        have := fit_le s a i k h1
        have := Str.le (fit_le s a) h2
        omega
      · rcases h with h | h
        · omega
        · exact fit_le s a i j h
  | .two n a b, i, j, h => by
    unfold Fit at h
    split at h
    · obtain ⟨k, h1, h2⟩ := h
      have := fit_le s a i k h1
      have := fit_le s b k j h2
      omega
    · rcases h with h | h
      · exact fit_le s a i j h
      · exact fit_le s b i j h
/-- What fits from a place to itself may be nothing. -/
theorem fit_self (s : List UInt8) : ∀ (t : Rx) (i : Nat), Fit s t i i → t.emp = true
  | .leaf n, i, h => by
    unfold Fit at h
    unfold Rx.emp
    split at h
    · obtain ⟨c, _, _, h⟩ := h; omega
    · rename_i h1; simp [h1]
  | .one n a, i, h => by
    unfold Fit at h
    unfold Rx.emp
    split at h
    · rename_i h5; simp [h5]
    · split at h
      · rename_i h6
        rw [if_pos h6]
        obtain ⟨k, h1, h2⟩ := h
        have q1 := fit_le s a i k h1
        have q2 := Str.le (fit_le s a) h2
        obtain rfl : k = i := by omega
        exact fit_self s a k h1
      · rename_i h6; rw [if_neg h6]
  | .two n a b, i, h => by
    unfold Fit at h
    unfold Rx.emp
    split at h
    · rename_i h3
      rw [if_pos h3]
      obtain ⟨k, h1, h2⟩ := h
      have q1 := fit_le s a i k h1
      have q2 := fit_le s b k i h2
      obtain rfl : k = i := by omega
      rw [fit_self s a k h1, fit_self s b k h2]; rfl
    · rename_i h3
      rw [if_neg h3]
      rcases h with h | h
      · rw [fit_self s a i h]; rfl
      · rw [fit_self s b i h]; simp
theorem Str.trans {N : Nat} {R : Nat → Nat → Prop} {i j k : Nat} (h1 : Str N R i j) (h2 : Str N R j k) : Str N R i k := by
  induction h1 with
  | nil => exact h2
  | cons i m j h _ ih => exact .cons i m k h (ih h2)
theorem Str.mono {N : Nat} {R Q : Nat → Nat → Prop} (h : ∀ i j, R i j → Q i j) {i j : Nat} (hs : Str N R i j) : Str N Q i j := by
  induction hs with
  | nil i hi => exact .nil i hi
  | cons i k j h1 _ ih => exact .cons i k j (h i k h1) ih
theorem Str.one {N : Nat} {R : Nat → Nat → Prop} (h : ∀ i j, R i j → i ≤ j ∧ j ≤ N) {i j : Nat} (hr : R i j) : Str N R i j := .cons i j j hr (.nil j (h i j hr).2)
/-- A star of a star is the star. -/
theorem Str.flat {N : Nat} {R : Nat → Nat → Prop} {i j : Nat} (hs : Str N (Str N R) i j) : Str N R i j := by
  induction hs with
  | nil i hi => exact .nil i hi
  | cons i k j h1 _ ih => exact h1.trans ih
/-- The other way round. -/
theorem Str.turn {N : Nat} {R Q : Nat → Nat → Prop} (h : ∀ i j, R i j → i ≤ j ∧ j ≤ N) (hq : ∀ i j, R i j → Q (N - j) (N - i)) {i j : Nat} (hs : Str N R i j) : Str N Q (N - j) (N - i) := by
  induction hs with
  | nil i hi => exact .nil _ (by omega)
  | cons i k j h1 hs ih =>
    refine ih.trans (.cons _ (N - i) _ (hq i k h1) (.nil _ (by omega)))
theorem get_rev (s : List UInt8) (i : Nat) (h : i < s.length) : s.reverse[s.length - (i + 1)]? = s[i]? := by
  rw [List.getElem?_reverse (by omega)]
  congr 1
  omega
theorem fit_turn (s : List UInt8) : ∀ (t : Rx), t.Ok → ∀ (i j : Nat), Fit s t i j → Fit s.reverse t.turn (s.length - j) (s.length - i)
  | .leaf n, ht, i, j, h => by
    have hle := fit_le s _ i j h
    unfold Fit at h
    unfold Rx.turn Fit
    rw [List.length_reverse]
    by_cases h1 : n.op = 1
    · rw [if_pos h1] at h
      rw [if_pos (show n.flip.op = 1 from (flip_eq 1 (by decide) (by decide)).2 h1)]
      obtain ⟨c, hc, hk, rfl⟩ := h
      refine ⟨c, ?_, hk, by omega⟩
      rw [get_rev s i (by omega)]
      exact hc
    · rw [if_neg h1] at h
      rw [if_neg (show ¬ n.flip.op = 1 from fun e => h1 ((flip_eq 1 (by decide) (by decide)).1 e))]
      by_cases h8 : n.op = 8
      · rw [if_pos h8] at h
        rw [if_neg (show ¬ n.flip.op = 8 from by simp [Nd.flip, flipOp, h8]), if_pos (show n.flip.op = 9 from by simp [Nd.flip, flipOp, h8])]
        omega
      · rw [if_neg h8] at h
        by_cases h9 : n.op = 9
        · rw [if_pos h9] at h
          rw [if_pos (show n.flip.op = 8 from by simp [Nd.flip, flipOp, h9])]
          omega
        · rw [if_neg h9] at h
          rw [if_neg (show ¬ n.flip.op = 8 from by simp [Nd.flip, flipOp, h8, h9]), if_neg (show ¬ n.flip.op = 9 from by simp [Nd.flip, flipOp, h8, h9])]
          omega
  | .one n a, ht, i, j, h => by
    have hle := fit_le s _ i j h
    unfold Fit at h
    unfold Rx.turn Fit
    rw [List.length_reverse]
    have ih := fit_turn s a ht.2
    by_cases h5 : n.op = 5
    · rw [if_pos h5] at h
      rw [if_pos (show n.flip.op = 5 from (flip_eq 5 (by decide) (by decide)).2 h5)]
      exact Str.turn (fit_le s a) ih h
    · rw [if_neg h5] at h
      rw [if_neg (show ¬ n.flip.op = 5 from fun e => h5 ((flip_eq 5 (by decide) (by decide)).1 e))]
      by_cases h6 : n.op = 6
      · rw [if_pos h6] at h
        rw [if_pos (show n.flip.op = 6 from (flip_eq 6 (by decide) (by decide)).2 h6)]
        obtain ⟨k, h1, h2⟩ := h
        have key : ∀ {x y : Nat}, Str s.length (Fit s.reverse a.turn) x y → ∀ z, Fit s.reverse a.turn y z → ∃ m, Fit s.reverse a.turn x m ∧ Str s.length (Fit s.reverse a.turn) m z := by
          intro x y hxy
          have hr : ∀ i j, Fit s.reverse a.turn i j → i ≤ j ∧ j ≤ s.length := fun i j h => by have := fit_le s.reverse a.turn i j h; rw [List.length_reverse] at this; exact this
          induction hxy with
          | nil x hx => intro z hz; exact ⟨z, hz, .nil z (hr _ _ hz).2⟩
          | cons x m y hx _ ih2 =>
            intro z hz
            obtain ⟨m', h3, h4⟩ := ih2 z hz
            exact ⟨m, hx, .cons m m' z h3 h4⟩
        exact key (Str.turn (fit_le s a) ih h2) _ (ih i k h1)
      · rw [if_neg h6] at h
        rw [if_neg (show ¬ n.flip.op = 6 from fun e => h6 ((flip_eq 6 (by decide) (by decide)).1 e))]
        rcases h with h | h
        · exact Or.inl (by omega)
        · exact Or.inr (ih i j h)
  | .two n a b, ht, i, j, h => by
    have hle := fit_le s _ i j h
    unfold Fit at h
    unfold Rx.turn
    have iha := fit_turn s a ht.2.1
    have ihb := fit_turn s b ht.2.2
    by_cases h3 : n.op = 3
    · rw [if_pos h3] at h ⊢
      unfold Fit
      rw [if_pos (show n.flip.op = 3 from (flip_eq 3 (by decide) (by decide)).2 h3)]
      obtain ⟨k, h1, h2⟩ := h
      exact ⟨s.length - k, ihb k j h2, iha i k h1⟩
    · rw [if_neg h3] at h ⊢
      unfold Fit
      rw [if_neg (show ¬ n.flip.op = 3 from fun e => h3 ((flip_eq 3 (by decide) (by decide)).1 e))]
      rcases h with h | h
      · exact Or.inl (iha i j h)
      · exact Or.inr (ihb i j h)
/-- BACKWARDS IT FITS BACKWARDS. -/
theorem fit_turn_iff (s : List UInt8) (t : Rx) (ht : t.Ok) (i j : Nat) (hi : i ≤ s.length) (hj : j ≤ s.length) : Fit s t i j ↔ Fit s.reverse t.turn (s.length - j) (s.length - i) := by
  constructor
  · exact fit_turn s t ht i j
  · intro h
    have := fit_turn s.reverse t.turn (Rx.turn_ok t ht) _ _ h
    rw [List.reverse_reverse, Rx.turn_turn, List.length_reverse] at this
    rw [show s.length - (s.length - i) = i by omega, show s.length - (s.length - j) = j by omega] at this
    exact this
/-- The places to which it fits, rising. -/
def EndsR (s : List UInt8) (t : Rx) (i : Nat) (l : List Nat) : Prop := l.Pairwise (· < ·) ∧ ∀ j, j ∈ l ↔ Fit s t i j
theorem ends_total (s : List UInt8) (t : Rx) (i : Nat) : ∃ l, EndsR s t i l := by
  refine ⟨(List.range (s.length + 1)).filter fun j => @decide (Fit s t i j) (Classical.propDecidable _), List.Pairwise.filter _ List.pairwise_lt_range, fun j => ?_⟩
  rw [List.mem_filter, List.mem_range, @decide_eq_true_iff (Fit s t i j) (Classical.propDecidable _)]
  exact ⟨fun h => h.2, fun h => ⟨by have := fit_le s t i j h; omega, h⟩⟩
theorem rise_eq : ∀ (x y : List Nat), x.Pairwise (· < ·) → y.Pairwise (· < ·) → (∀ j, j ∈ x ↔ j ∈ y) → x = y
  | [], [], _, _, _ => rfl
  | [], b :: y, _, _, h => by have := (h b).2 (by simp); simp at this
  | a :: x, [], _, _, h => by have := (h a).1 (by simp); simp at this
  | a :: x, b :: y, hx, hy, h => by
    rw [List.pairwise_cons] at hx hy
    have hab : a = b := by
      have h1 := (h a).1 (by simp)
      have h2 := (h b).2 (by simp)
      rw [List.mem_cons] at h1 h2
      rcases h1 with h1 | h1
      · exact h1
      · rcases h2 with h2 | h2
        · exact h2.symm
        · have := hx.1 b h2
          have := hy.1 a h1
          omega
    subst hab
    have : x = y := rise_eq x y hx.2 hy.2 (fun j => by
      have hj := h j
      rw [List.mem_cons, List.mem_cons] at hj
      constructor
      · intro hm
        have := hx.1 j hm
        rcases hj.1 (Or.inr hm) with e | e
        · omega
        · exact e
      · intro hm
        have := hy.1 j hm
        rcases hj.2 (Or.inr hm) with e | e
        · omega
        · exact e)
    rw [this]
theorem EndsR.same {s : List UInt8} {t u : Rx} {i : Nat} {x y : List Nat} (hx : EndsR s t i x) (hy : EndsR s u i y) (h : ∀ j, Fit s t i j ↔ Fit s u i j) : x = y :=
  rise_eq x y hx.1 hy.1 fun j => (hx.2 j).trans ((h j).trans (hy.2 j).symm)
theorem EndsR.le {s : List UInt8} {t : Rx} {i : Nat} {x : List Nat} (hx : EndsR s t i x) : ∀ j ∈ x, i ≤ j ∧ j ≤ s.length := fun j hj => fit_le s t i j ((hx.2 j).1 hj)
theorem rise_len : ∀ (x : List Nat) (n m : Nat), x.Pairwise (· < ·) → (∀ j ∈ x, n ≤ j ∧ j < m) → n + x.length ≤ m ∨ x = []
  | [], _, _, _, _ => Or.inr rfl
  | a :: x, n, m, h, hb => by
    left
    rw [List.pairwise_cons] at h
    have ha := hb a (by simp)
    rcases rise_len x (a + 1) m h.2 (fun j hj => ⟨h.1 j hj, (hb j (by simp [hj])).2⟩) with h1 | h1
    · simp; omega
    · subst h1; simp; omega
theorem EndsR.len {s : List UInt8} {t : Rx} {i : Nat} {x : List Nat} (hx : EndsR s t i x) : x.length ≤ s.length + 1 := by
  rcases rise_len x 0 (s.length + 1) hx.1 (fun j hj => by have := hx.le j hj; omega) with h | h
  · omega
  · rw [h]; simp
/-- All of it is fitted just if the last end is its length. -/
theorem EndsR.all {s : List UInt8} {t : Rx} {i : Nat} {x : List Nat} (hx : EndsR s t i x) : x.getLast? = some s.length ↔ Fit s t i s.length := by
  rw [← hx.2]
  constructor
  · intro h; exact List.mem_of_getLast? h
  · intro h
    obtain ⟨l, b, e⟩ := List.append_of_mem h
    cases b with
    | nil => rw [e]; simp
    | cons c b =>
      exfalso
      have h1 := hx.1
      rw [e] at h1
      have h2 := (List.pairwise_append.1 h1).2.1
      rw [List.pairwise_cons] at h2
      have h3 := h2.1 c (by simp)
      have h4 := hx.le c (by rw [e]; simp)
      omega
end Go.Proofs.YtejbififfceamaaGreatDoor
namespace Go.Proofs.YtejbififfceamaaGreatDoor
set_option linter.unusedSimpArgs false
set_option linter.unusedVariables false
set_option maxRecDepth 100000
open Go.RowKit
/-- From place k nothing is fitted. -/
def NoFit (s : List UInt8) (t : Rx) (k : Nat) : Prop := ∀ j, ¬ Fit s t k j
/-- What is found from place i on: none ahead, none longer. -/
def FndR (s : List UInt8) (t : Rx) (i : Nat) : Option (Nat × Nat) → Prop
  | none => ∀ k, i ≤ k → k ≤ s.length → NoFit s t k
  | some (a, b) => i ≤ a ∧ (∀ k, i ≤ k → k < a → NoFit s t k) ∧ Fit s t a b ∧ ∀ c, Fit s t a c → c ≤ b
theorem FndR.le {s : List UInt8} {t : Rx} {i a b : Nat} (h : FndR s t i (some (a, b))) : i ≤ a ∧ a ≤ b ∧ b ≤ s.length := by
  obtain ⟨h1, _, h2, _⟩ := h
  have := fit_le s t a b h2
  omega
theorem FndR.out {s : List UInt8} {t : Rx} {i : Nat} (h : s.length < i) : FndR s t i none := fun k h1 h2 => by omega
theorem FndR.step {s : List UInt8} {t : Rx} {i : Nat} {r : Option (Nat × Nat)} (hn : NoFit s t i) (h : FndR s t (i + 1) r) : FndR s t i r := by
  cases r with
  | none =>
    intro k h1 h2
    rcases Nat.eq_or_lt_of_le h1 with rfl | h1
    · exact hn
    · exact h k h1 h2
  | some x =>
    obtain ⟨a, b⟩ := x
    obtain ⟨h1, h2, h3, h4⟩ := h
    refine ⟨by omega, fun k g1 g2 => ?_, h3, h4⟩
    rcases Nat.eq_or_lt_of_le g1 with rfl | g1
    · exact hn
    · exact h2 k g1 g2
theorem FndR.unstep {s : List UInt8} {t : Rx} {i : Nat} {r : Option (Nat × Nat)} (hn : NoFit s t i) (h : FndR s t i r) : FndR s t (i + 1) r := by
  cases r with
  | none => exact fun k h1 h2 => h k (by omega) h2
  | some x =>
    obtain ⟨a, b⟩ := x
    obtain ⟨h1, h2, h3, h4⟩ := h
    have : i ≠ a := fun e => hn b (e ▸ h3)
    exact ⟨by omega, fun k g1 g2 => h2 k (by omega) g2, h3, h4⟩
theorem FndR.uniq {s : List UInt8} {t : Rx} {i : Nat} {r r' : Option (Nat × Nat)} (h : FndR s t i r) (h' : FndR s t i r') : r = r' := by
  cases r with
  | none =>
    cases r' with
    | none => rfl
    | some x =>
      obtain ⟨a, b⟩ := x
      have hl := h'.le
      exact absurd h'.2.2.1 (h a hl.1 (by omega) b)
  | some x =>
    obtain ⟨a, b⟩ := x
    cases r' with
    | none =>
      have hl := h.le
      exact absurd h.2.2.1 (h' a hl.1 (by omega) b)
    | some y =>
      obtain ⟨c, d⟩ := y
      obtain ⟨h1, h2, h3, h4⟩ := h
      obtain ⟨g1, g2, g3, g4⟩ := h'
      have e : a = c := by
        rcases Nat.lt_trichotomy a c with e | e | e
        · exact absurd h3 (g2 a h1 e b)
        · exact e
        · exact absurd g3 (h2 c g1 e d)
      subst e
      have := h4 d g3
      have := g4 b h3
      congr 2
      omega
/-- The last of what rises is the greatest. -/
theorem rise_last {l : List Nat} (h : l.Pairwise (· < ·)) {b : Nat} (hb : l.getLast? = some b) : ∀ c ∈ l, c ≤ b := by
  obtain ⟨r, rfl⟩ : ∃ r, l = r ++ [b] := by
    obtain ⟨ys, hys⟩ := List.getLast?_eq_some_iff.1 hb
    exact ⟨ys, hys⟩
  intro c hc
  rw [List.pairwise_append] at h
  rcases List.mem_append.1 hc with hc | hc
  · exact Nat.le_of_lt (h.2.2 c hc b (by simp))
  · rw [List.mem_singleton.1 hc]; exact Nat.le_refl _
theorem EndsR.none {s : List UInt8} {t : Rx} {i : Nat} (h : EndsR s t i []) : NoFit s t i := fun j hj => by
  have := (h.2 j).2 hj
  cases this
theorem FndR.here {s : List UInt8} {t : Rx} {i b : Nat} {l : List Nat} (h : EndsR s t i l) (hb : l.getLast? = some b) : FndR s t i (some (i, b)) :=
  ⟨Nat.le_refl _, fun k h1 h2 => by omega, (h.2 b).1 (List.mem_of_getLast? hb), fun c hc => rise_last h.1 hb c ((h.2 c).2 hc)⟩
theorem fnd_total (s : List UInt8) (t : Rx) : ∀ d i, s.length + 1 - i ≤ d → ∃ r, FndR s t i r
  | 0, i, h => ⟨none, FndR.out (by omega)⟩
  | d + 1, i, h => by
    rcases Nat.lt_or_ge s.length i with h1 | h1
    · exact ⟨none, FndR.out h1⟩
    · obtain ⟨l, hl⟩ := ends_total s t i
      cases hb : l.getLast? with
      | none =>
        have e : l = [] := List.getLast?_eq_none_iff.1 hb
        subst e
        obtain ⟨r, hr⟩ := fnd_total s t d (i + 1) (by omega)
        exact ⟨r, hr.step hl.none⟩
      | some b => exact ⟨_, FndR.here hl hb⟩
/-- Where one goes on behind a span. -/
def nextAt (x : Nat × Nat) : Nat := if x.1 = x.2 then x.2 + 1 else x.2
/-- All that is found from a place on, one behind the other. -/
inductive AllR (s : List UInt8) (t : Rx) : Nat → List (Nat × Nat) → Prop
  | nil (i : Nat) : FndR s t i none → AllR s t i []
  | cons (i : Nat) (x : Nat × Nat) (l : List (Nat × Nat)) : FndR s t i (some x) → AllR s t (nextAt x) l → AllR s t i (x :: l)
theorem nextAt_lt {s : List UInt8} {t : Rx} {i : Nat} {x : Nat × Nat} (h : FndR s t i (some x)) : i < nextAt x ∧ nextAt x ≤ s.length + 1 := by
  obtain ⟨a, b⟩ := x
  have := h.le
  unfold nextAt
  simp only
  split <;> omega
theorem all_total (s : List UInt8) (t : Rx) : ∀ d i, s.length + 1 - i ≤ d → ∃ l, AllR s t i l
  | 0, i, h => ⟨[], .nil i (FndR.out (by omega))⟩
  | d + 1, i, h => by
    obtain ⟨r, hr⟩ := fnd_total s t _ i (Nat.le_refl _)
    cases r with
    | none => exact ⟨[], .nil i hr⟩
    | some x =>
      have h1 := nextAt_lt hr
      obtain ⟨l, hl⟩ := all_total s t d (nextAt x) (by omega)
      exact ⟨x :: l, .cons i x l hr hl⟩
theorem AllR.uniq {s : List UInt8} {t : Rx} {i : Nat} {l : List (Nat × Nat)} (h : AllR s t i l) : ∀ l', AllR s t i l' → l = l' := by
  induction h with
  | nil i h =>
    intro l' h'
    cases h' with
    | nil _ _ => rfl
    | cons _ x r hx _ => cases h.uniq hx
  | cons i x r hx _ ih =>
    intro l' h'
    cases h' with
    | nil _ h0 => cases hx.uniq h0
    | cons _ y r' hy hr =>
      obtain rfl := Option.some.inj (hx.uniq hy)
      rw [ih r' hr]
theorem AllR.len {s : List UInt8} {t : Rx} {i : Nat} {l : List (Nat × Nat)} (h : AllR s t i l) : l.length ≤ s.length + 1 - i := by
  induction h with
  | nil i h => simp
  | cons i x r hx _ ih =>
    have := nextAt_lt hx
    simp
    omega
theorem AllR.mem {s : List UInt8} {t : Rx} {i : Nat} {l : List (Nat × Nat)} (h : AllR s t i l) : ∀ x ∈ l, i ≤ x.1 ∧ x.1 ≤ x.2 ∧ x.2 ≤ s.length := by
  induction h with
  | nil i h => intro x hx; cases hx
  | cons i y r hy _ ih =>
    have hn := nextAt_lt hy
    intro x hx
    rcases List.mem_cons.1 hx with rfl | hx
    · exact hy.le
    · have := ih x hx
      omega
end Go.Proofs.YtejbififfceamaaGreatDoor
namespace Go.Proofs.YtejbififfceamaaGreatDoor
set_option linter.unusedSimpArgs false
set_option linter.unusedVariables false
set_option maxRecDepth 100000
open Go.RowKit
/-- The one byte of a class. -/
def C4.only (k : C4) : Option UInt8 := if ((List.range 256).filter k.has).length = 1 then ((List.range 256).filter k.has).head?.map (fun b => UInt8.ofNat b) else none
/-- The one text that a pattern fits. -/
def Rx.whl : Rx → Option (List UInt8)
  | .leaf n => if n.op = 1 then n.c.only.map (fun c => [c]) else if n.op = 2 then some [] else none
  | .one _ _ => none
  | .two n a b => if n.op = 3 then a.whl.bind (fun x => b.whl.map (fun y => x ++ y)) else none
/-- The longer one, the first if they are as long. -/
def longer (x y : List UInt8) : List UInt8 := if x.length < y.length then y else x
/-- What stands in all that a pattern fits. -/
def Rx.ned : Rx → List UInt8
  | .leaf n => ((Rx.leaf n).whl).getD []
  | .one n a => if n.op = 6 then a.ned else []
  | .two n a b => match (Rx.two n a b).whl with
    | some x => x
    | none => if n.op = 3 then longer a.ned b.ned else []
/-- The piece of a text from one place to another one. -/
def cut (s : List UInt8) (i j : Nat) : List UInt8 := (s.drop i).take (j - i)
theorem cut_len {s : List UInt8} {i j : Nat} (h : i ≤ j) (hj : j ≤ s.length) : (cut s i j).length = j - i := by
  unfold cut
  rw [List.length_take, List.length_drop]
  omega
theorem cut_trans {s : List UInt8} {i k j : Nat} (h1 : i ≤ k) (h2 : k ≤ j) : cut s i j = cut s i k ++ cut s k j := by
  unfold cut
  have e : j - i = (k - i) + (j - k) := by omega
  rw [e, List.take_add, List.drop_drop]
  congr 3
  omega
theorem cut_self (s : List UInt8) (i : Nat) : cut s i i = [] := by simp [cut]
theorem only_has {k : C4} {c : UInt8} (h : k.only = some c) (b : UInt8) : k.has b.toNat = true ↔ b = c := by
  unfold C4.only at h
  split at h
  · rename_i h1
    obtain ⟨x, hx⟩ : ∃ x, (List.range 256).filter k.has = [x] := List.length_eq_one_iff.1 h1
    rw [hx] at h
    simp at h
    have hm : ∀ y, y < 256 → (k.has y = true ↔ y = x) := by
      intro y hy
      have : y ∈ (List.range 256).filter k.has ↔ y = x := by rw [hx, List.mem_singleton]
      rw [List.mem_filter, List.mem_range] at this
      rw [← this]
      exact ⟨fun h => ⟨hy, h⟩, fun h => h.2⟩
    have hx256 : x < 256 := by
      have : x ∈ (List.range 256).filter k.has := by rw [hx]; simp
      rw [List.mem_filter, List.mem_range] at this
      exact this.1
    rw [hm b.toNat b.toNat_lt, ← h]
    constructor
    · intro e
      rw [← e]
      simp
    · intro e
      rw [e]
      simp
      omega
  · cases h
/-- What a pattern that has a whole fits is that one. -/
theorem whl_fit (s : List UInt8) : ∀ (t : Rx), t.Ok → (∀ n ∈ t.flat, 1 ≤ n.op ∧ n.op ≤ 9) → ∀ (x : List UInt8), t.whl = some x → ∀ i j, Fit s t i j ↔ (j = i + x.length ∧ j ≤ s.length ∧ cut s i j = x)
  | .leaf n, hk, ho, x, hx, i, j => by
    simp only [Rx.whl] at hx
    simp only [Fit]
    by_cases h1 : n.op = 1
    · rw [if_pos h1] at hx ⊢
      cases hc : n.c.only with
      | none => rw [hc] at hx; cases hx
      | some c =>
        rw [hc] at hx
        simp at hx
        subst hx
        constructor
        · rintro ⟨d, hd, hh, rfl⟩
          have hdc := (only_has hc d).1 hh
          subst hdc
          have hlt : i < s.length := by
            rcases Nat.lt_or_ge i s.length with h' | h'
            · exact h'
            · rw [List.getElem?_eq_none h'] at hd; cases hd
          refine ⟨by simp, by omega, ?_⟩
          unfold cut
          rw [List.drop_eq_getElem_cons hlt, show i + 1 - i = 1 from by omega]
          rw [List.getElem?_eq_getElem hlt] at hd
          simp [Option.some.inj hd]
        · rintro ⟨rfl, hj, he⟩
          simp at hj
          have hlt : i < s.length := by omega
          refine ⟨c, ?_, (only_has hc c).2 rfl, by simp⟩
          have h0 := congrArg (fun l => l[0]?) he
          simpa [cut, List.getElem?_take, List.getElem?_drop] using h0
    · rw [if_neg h1] at hx ⊢
      by_cases h2 : n.op = 2
      · rw [if_pos h2] at hx
        rw [if_neg (by omega), if_neg (by omega)]
        simp at hx
        subst hx
        constructor
        · rintro ⟨rfl, hi⟩
          exact ⟨by simp, hi, cut_self _ _⟩
        · rintro ⟨rfl, hj, _⟩
          exact ⟨by simp, by simpa using hj⟩
      · rw [if_neg h2] at hx; cases hx
  | .one n a, hk, ho, x, hx, i, j => by simp [Rx.whl] at hx
  | .two n a b, hk, ho, x, hx, i, j => by
    simp only [Rx.whl] at hx
    by_cases h3 : n.op = 3
    · rw [if_pos h3] at hx
      simp only [Fit, if_pos h3]
      cases hxa : a.whl with
      | none => rw [hxa] at hx; cases hx
      | some xa =>
        cases hxb : b.whl with
        | none => rw [hxa, hxb] at hx; cases hx
        | some xb =>
          rw [hxa, hxb] at hx
          simp at hx
          subst hx
          have fa := whl_fit s a hk.2.1 (fun m hm => ho m (by simp [Rx.flat, hm])) xa hxa
          have fb := whl_fit s b hk.2.2 (fun m hm => ho m (by simp [Rx.flat, hm])) xb hxb
          constructor
          · rintro ⟨k, h1, h2⟩
            obtain ⟨rfl, hk1, e1⟩ := (fa i k).1 h1
            obtain ⟨rfl, hk2, e2⟩ := (fb _ j).1 h2
            refine ⟨by simp; omega, hk2, ?_⟩
            rw [cut_trans (k := i + xa.length) (by omega) (by omega), e1, e2]
          · rintro ⟨rfl, hj, he⟩
            rw [List.length_append] at hj he
            have hc := cut_trans (s := s) (i := i) (k := i + xa.length) (j := i + (xa.length + xb.length)) (by omega) (by omega)
            rw [he] at hc
            have hl := cut_len (s := s) (i := i) (j := i + xa.length) (by omega) (by omega)
            obtain ⟨e1, e2⟩ := List.append_inj hc (by rw [hl]; omega)
            refine ⟨i + xa.length, (fa _ _).2 ⟨rfl, by omega, e1.symm⟩, (fb _ _).2 ⟨by simp; omega, by rw [List.length_append]; omega, ?_⟩⟩
            rw [List.length_append]
            exact e2.symm
    · rw [if_neg h3] at hx; cases hx
theorem longer_cases (x y : List UInt8) : longer x y = x ∨ longer x y = y := by unfold longer; split <;> simp
/-- What is needed stands in all that is fitted. -/
theorem ned_fit (s : List UInt8) : ∀ (t : Rx), t.Ok → (∀ n ∈ t.flat, 1 ≤ n.op ∧ n.op ≤ 9) → ∀ i j, Fit s t i j → ∃ p q, cut s i j = p ++ t.ned ++ q
  | .leaf n, hk, ho, i, j, hf => by
    unfold Rx.ned
    cases hx : (Rx.leaf n).whl with
    | none => exact ⟨[], cut s i j, by simp⟩
    | some x =>
      obtain ⟨_, _, e⟩ := (whl_fit s (.leaf n) hk ho x hx i j).1 hf
      exact ⟨[], [], by simp [e]⟩
  | .one n a, hk, ho, i, j, hf => by
    unfold Rx.ned
    by_cases h6 : n.op = 6
    · rw [if_pos h6]
      simp only [Fit] at hf
      rw [if_neg (by omega), if_pos h6] at hf
      obtain ⟨k, h1, h2⟩ := hf
      have hle : ∀ i j, Fit s a i j → i ≤ j ∧ j ≤ s.length := fit_le s a
      obtain ⟨p, q, e⟩ := ned_fit s a hk.2 (fun m hm => ho m (by simp [Rx.flat, hm])) i k h1
      refine ⟨p, q ++ cut s k j, ?_⟩
      rw [cut_trans (k := k) (hle i k h1).1 (Str.le hle h2).1, e]
      simp
    · rw [if_neg h6]
      exact ⟨[], cut s i j, by simp⟩
  | .two n a b, hk, ho, i, j, hf => by
    unfold Rx.ned
    cases hx : (Rx.two n a b).whl with
    | some x =>
      obtain ⟨_, _, e⟩ := (whl_fit s (.two n a b) hk ho x hx i j).1 hf
      exact ⟨[], [], by simp [e]⟩
    | none =>
      simp only
      by_cases h3 : n.op = 3
      · rw [if_pos h3]
        simp only [Fit, if_pos h3] at hf
        obtain ⟨k, h1, h2⟩ := hf
        rw [cut_trans (k := k) (fit_le s a i k h1).1 (fit_le s b k j h2).1]
        rcases longer_cases a.ned b.ned with e | e
        · rw [e]
          obtain ⟨p, q, e'⟩ := ned_fit s a hk.2.1 (fun m hm => ho m (by simp [Rx.flat, hm])) i k h1
          exact ⟨p, q ++ cut s k j, by rw [e']; simp⟩
        · rw [e]
          obtain ⟨p, q, e'⟩ := ned_fit s b hk.2.2 (fun m hm => ho m (by simp [Rx.flat, hm])) k j h2
          exact ⟨cut s i k ++ p, q, by rw [e']; simp⟩
      · rw [if_neg h3]
        exact ⟨[], cut s i j, by simp⟩
end Go.Proofs.YtejbififfceamaaGreatDoor
namespace Go.Proofs.YtejbififfceamaaGreatDoor
set_option linter.unusedSimpArgs false
set_option linter.unusedVariables false
set_option maxRecDepth 100000
open Go.RowKit
/-- A pattern of a set: its number, its text, as a tree. -/
structure Mbr where
  id : Nat
  text : ByteArray
  pat : Rx
/-- A set: its patterns, the last number, the filter, how many were tried. -/
structure SetS where
  ms : List Mbr
  last : Nat
  on : Bool
  tried : Nat
def set0 : SetS := ⟨[], 0, false, 0⟩
def Mbr.ok (m : Mbr) : Prop := 1 ≤ m.id ∧ m.text.size ≤ 200 ∧ Whole m.text.data.toList (.ok m.pat) ∧ ¬ 60 < m.pat.flat.length
structure SetS.Ok (σ : SetS) : Prop where
  len : σ.ms.length ≤ 12
  rise : σ.ms.Pairwise (fun a b => a.id < b.id)
  each : ∀ m ∈ σ.ms, m.ok ∧ m.id ≤ σ.last
  tri : σ.tried ≤ 12
theorem set0_ok : set0.Ok := ⟨by simp [set0], by simp [set0], by simp [set0], by simp [set0]⟩
theorem Mbr.ok.good {m : Mbr} (h : m.ok) : m.pat.Good := whole_good _ _ h.2.2.1
theorem Mbr.ok.isOk {m : Mbr} (h : m.ok) : m.pat.Ok := h.good.isOk
theorem Mbr.ok.fault {m : Mbr} (h : m.ok) : faultL m.pat.flat = 0 := good_fault _ h.good (by have := h.2.2.2; omega)
/-- What Add answers: number, place, fault; the set behind it. -/
inductive AddR (σ : SetS) (s : ByteArray) : Nat → Int → Int → SetS → Prop
  | bad (ms : List Nd) (k e : Int) : PsR s ms k e → ¬ e = 0 → AddR σ s 0 k e σ
  | full (t : Rx) : s.size ≤ 200 → Whole s.data.toList (.ok t) → ¬ 60 < t.flat.length → 12 ≤ σ.ms.length → AddR σ s 0 0 3 σ
  | ok (t : Rx) : s.size ≤ 200 → Whole s.data.toList (.ok t) → ¬ 60 < t.flat.length → σ.ms.length < 12 → AddR σ s (σ.last + 1) 0 0 ⟨σ.ms ++ [⟨σ.last + 1, s, t⟩], σ.last + 1, σ.on, σ.tried⟩
theorem add_total (σ : SetS) (s : ByteArray) : ∃ n k e σ', AddR σ s n k e σ' := by
  obtain ⟨ms, k, e, h⟩ := psR_total s
  by_cases he : e = 0
  · cases h with
    | full => cases he
    | bad => cases he
    | many => cases he
    | ok t h1 h2 h3 =>
      by_cases h4 : 12 ≤ σ.ms.length
      · exact ⟨_, _, _, _, .full t h1 h2 h3 h4⟩
      · exact ⟨_, _, _, _, .ok t h1 h2 h3 (by omega)⟩
  · exact ⟨_, _, _, _, .bad ms k e h he⟩
theorem AddR.isOk {σ σ' : SetS} {s : ByteArray} {n : Nat} {k e : Int} (h : AddR σ s n k e σ') (hσ : σ.Ok) : σ'.Ok := by
  cases h with
  | bad ms k e _ _ => exact hσ
  | full => exact hσ
  | ok t h1 h2 h3 h4 =>
    refine ⟨by simp; omega, ?_, fun m hm => ?_, hσ.tri⟩
    · simp only
      rw [List.pairwise_append]
      refine ⟨hσ.rise, by simp, fun a ha b hb => ?_⟩
      rw [List.mem_singleton.1 hb]
      have := (hσ.each a ha).2
      simp only
      omega
    · rcases List.mem_append.1 hm with hm | hm
      · exact ⟨(hσ.each m hm).1, by have := (hσ.each m hm).2; simp only; omega⟩
      · rw [List.mem_singleton.1 hm]
        exact ⟨⟨by simp only; omega, h1, h2, h3⟩, Nat.le_refl _⟩
theorem AddR.last {σ σ' : SetS} {s : ByteArray} {n : Nat} {k e : Int} (h : AddR σ s n k e σ') : σ.last ≤ σ'.last ∧ σ'.last ≤ σ.last + 1 := by
  cases h <;> simp <;> omega
/-- The numbers, told. -/
def SetS.has (σ : SetS) (n : Int) : Bool := σ.ms.any (fun m => (m.id : Int) == n)
def SetS.delE (σ : SetS) (n : Int) : Int := if σ.has n then 0 else 4
def SetS.del (σ : SetS) (n : Int) : SetS := ⟨σ.ms.filter (fun m => !((m.id : Int) == n)), σ.last, σ.on, σ.tried⟩
theorem SetS.del_no {σ : SetS} {n : Int} (h : σ.has n = false) : σ.del n = σ := by
  unfold SetS.del
  have : σ.ms.filter (fun m => !((m.id : Int) == n)) = σ.ms := by
    rw [List.filter_eq_self]
    intro m hm
    unfold SetS.has at h
    rw [List.any_eq_false] at h
    have := h m hm
    simpa using this
  rw [this]
theorem SetS.Ok.del {σ : SetS} (h : σ.Ok) (n : Int) : (σ.del n).Ok :=
  ⟨Nat.le_trans (List.length_filter_le _ _) h.len, h.rise.filter _, fun m hm => h.each m (List.mem_filter.1 hm).1, h.tri⟩
def SetS.filt (σ : SetS) (b : Bool) : SetS := ⟨σ.ms, σ.last, b, σ.tried⟩
theorem SetS.Ok.filt {σ : SetS} (h : σ.Ok) (b : Bool) : (σ.filt b).Ok := ⟨h.len, h.rise, h.each, h.tri⟩
/-- A set's patterns, as List tells them. -/
def SetS.items (σ : SetS) : List (Nat × ByteArray) := σ.ms.map (fun m => (m.id, m.text))
/-- A word stands in a text. -/
def Stnd (x s : List UInt8) : Prop := ∃ i, i + x.length ≤ s.length ∧ cut s i (i + x.length) = x
noncomputable def Mbr.try (m : Mbr) (s : List UInt8) : Bool := @decide (Stnd m.pat.ned s) (Classical.propDecidable _)
/-- How many are tried. -/
noncomputable def triedL (on : Bool) (ms : List Mbr) (s : List UInt8) : Nat := (ms.filter (fun m => m.try s || !on)).length
theorem triedL_off (ms : List Mbr) (s : List UInt8) : triedL false ms s = ms.length := by
  unfold triedL
  rw [List.filter_eq_self.2]
  intro m _
  simp
theorem triedL_le (on : Bool) (ms : List Mbr) (s : List UInt8) : triedL on ms s ≤ ms.length := List.length_filter_le _ _
theorem triedL_snoc (on : Bool) (ms : List Mbr) (m : Mbr) (s : List UInt8) : triedL on (ms ++ [m]) s = triedL on ms s + (if m.try s || !on then 1 else 0) := by
  unfold triedL
  rw [List.filter_append, List.length_append]
  congr 1
  by_cases hc : (m.try s || !on) = true
  · rw [List.filter_cons, if_pos hc, if_pos hc]; simp
  · rw [List.filter_cons, if_neg hc, if_neg hc]; simp
/-- All that is found of patterns, one behind the other. -/
inductive AllsR (s : List UInt8) : List Mbr → List (Nat × Nat × Nat) → Prop
  | nil : AllsR s [] []
  | cons (m : Mbr) (r : List Mbr) (l : List (Nat × Nat)) (h : List (Nat × Nat × Nat)) : AllR s m.pat 0 l → AllsR s r h → AllsR s (m :: r) (l.map (fun x => (m.id, x.1, x.2)) ++ h)
theorem alls_total (s : List UInt8) : ∀ ms : List Mbr, ∃ h, AllsR s ms h
  | [] => ⟨[], .nil⟩
  | m :: r => by
    obtain ⟨l, hl⟩ := all_total s m.pat _ 0 (Nat.le_refl _)
    obtain ⟨h, hh⟩ := alls_total s r
    exact ⟨_, .cons m r l h hl hh⟩
theorem AllsR.uniq {s : List UInt8} {ms : List Mbr} {h h' : List (Nat × Nat × Nat)} (a : AllsR s ms h) (b : AllsR s ms h') : h = h' := by
  induction a generalizing h' with
  | nil => cases b; rfl
  | cons m r l h hl _ ih =>
    cases b with
    | cons _ _ l' h2 hl' hr' => rw [hl.uniq _ hl', ih hr']
theorem AllsR.append {s : List UInt8} {a b : List Mbr} {x y : List (Nat × Nat × Nat)} (h : AllsR s a x) (g : AllsR s b y) : AllsR s (a ++ b) (x ++ y) := by
  induction h with
  | nil => exact g
  | cons m r l h hl _ ih =>
    rw [List.append_assoc]
    exact .cons m _ l _ hl ih
theorem AllsR.one {s : List UInt8} (m : Mbr) {l : List (Nat × Nat)} (h : AllR s m.pat 0 l) : AllsR s [m] (l.map (fun x => (m.id, x.1, x.2))) := by
  have := AllsR.cons m [] l [] h .nil
  rwa [List.append_nil] at this
theorem AllsR.split {s : List UInt8} {a b : List Mbr} {h : List (Nat × Nat × Nat)} (g : AllsR s (a ++ b) h) : ∃ x y, h = x ++ y ∧ AllsR s a x ∧ AllsR s b y := by
  induction a generalizing h with
  | nil => exact ⟨[], h, rfl, .nil, g⟩
  | cons m r ih =>
    cases g with
    | cons _ _ l h2 hl hr =>
      obtain ⟨x, y, rfl, h3, h4⟩ := ih hr
      exact ⟨_, y, (List.append_assoc _ _ _).symm, .cons m r l x hl h3, h4⟩
theorem AllsR.len {s : List UInt8} {ms : List Mbr} {h : List (Nat × Nat × Nat)} (a : AllsR s ms h) : h.length ≤ ms.length * (s.length + 1) := by
  induction a with
  | nil => simp
  | cons m r l h hl _ ih =>
    have := hl.len
    simp only [List.length_append, List.length_map, List.length_cons, Nat.succ_mul]
    omega
/-- What Scan answers: fault, hits; the set behind it. -/
inductive ScanR (σ : SetS) (s : ByteArray) : Int → List (Nat × Nat × Nat) → SetS → Prop
  | full : 400 < s.size → ScanR σ s 3 [] σ
  | ok (h : List (Nat × Nat × Nat)) : s.size ≤ 400 → AllsR s.data.toList σ.ms h → ScanR σ s 0 h ⟨σ.ms, σ.last, σ.on, triedL σ.on σ.ms s.data.toList⟩
theorem scan_total (σ : SetS) (s : ByteArray) : ∃ e h σ', ScanR σ s e h σ' := by
  rcases Nat.lt_or_ge 400 s.size with h | h
  · exact ⟨_, _, _, .full h⟩
  · obtain ⟨l, hl⟩ := alls_total s.data.toList σ.ms
    exact ⟨_, _, _, .ok l h hl⟩
theorem ScanR.isOk {σ σ' : SetS} {s : ByteArray} {e : Int} {h : List (Nat × Nat × Nat)} (g : ScanR σ s e h σ') (hσ : σ.Ok) : σ'.Ok := by
  cases g with
  | full => exact hσ
  | ok => exact ⟨hσ.len, hσ.rise, hσ.each, Nat.le_trans (triedL_le _ _ _) hσ.len⟩
theorem ScanR.last {σ σ' : SetS} {s : ByteArray} {e : Int} {h : List (Nat × Nat × Nat)} (g : ScanR σ s e h σ') : σ'.last = σ.last ∧ σ'.ms = σ.ms ∧ σ'.on = σ.on := by
  cases g <;> exact ⟨rfl, rfl, rfl⟩
theorem ScanR.len {σ σ' : SetS} {s : ByteArray} {e : Int} {h : List (Nat × Nat × Nat)} (g : ScanR σ s e h σ') (hσ : σ.Ok) : h.length ≤ 4812 := by
  cases g with
  | full => simp
  | ok _ h1 h2 =>
    have h3 := h2.len
    have h4 : σ.ms.length * (s.data.toList.length + 1) ≤ 12 * 401 := Nat.mul_le_mul hσ.len (by simp; omega)
    omega
/-- One step of a script. -/
structure Stp3 where
  what : Int
  text : ByteArray
  n : Int
end Go.Proofs.YtejbififfceamaaGreatDoor
