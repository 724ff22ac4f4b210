/- What a pattern fits, in a text, from a place to another one; the laws of it. What a pattern's text is, as a whole, and what stands in all that it fits: plain mathematics. What the document asks of package lit. What the document's own functions answer: Stands; pieces of a text. class.with. class.Of. class.Of at one letter. What is found of a pattern, the first, and one behind the other: plain mathematics. Small facts on lists of nodes in memory. The laws' own patterns: the letter a, once, as often as one likes, once at least; what is found of them. -/
import Derived.Test.YtlejbnmeeonblaaDoorY03
import Derived.Test.YtlejbnmeeonblaaDoorY02
import Derived.Test.YtlejbnmeeonblaaDoorY01
namespace Go.Proofs.YtlejbnmeeonblaaDoor
set_option linter.unusedSimpArgs false
set_option linter.unusedVariables false
set_option maxRecDepth 100000
open Go.RowKit

/-- As often as one likes, within N. -/
inductive Str (N : Nat) (R : Nat → Nat → Prop) : Nat → Nat → Prop
  | nil (i : Nat) : i ≤ N → Str N R i i
  | cons (i k j : Nat) : R i k → Str N R k j → Str N R i j
/-- A pattern fits a text from i to j. -/
def Fit (s : List UInt8) : Rx → Nat → Nat → Prop
  | .leaf n, i, j => if n.op = 1 then ∃ c, s[i]? = some c ∧ n.c.has c.toNat = true ∧ j = i + 1 else if n.op = 8 then i = 0 ∧ j = 0 else if n.op = 9 then i = s.length ∧ j = s.length else i = j ∧ i ≤ s.length
  | .one n a, i, j => if n.op = 5 then Str s.length (Fit s a) i j else if n.op = 6 then ∃ k, Fit s a i k ∧ Str s.length (Fit s a) k j else (i = j ∧ i ≤ s.length) ∨ Fit s a i j
  | .two n a b, i, j => if n.op = 3 then ∃ k, Fit s a i k ∧ Fit s b k j else Fit s a i j ∨ Fit s b i j
theorem Str.le {N : Nat} {R : Nat → Nat → Prop} (h : ∀ i j, R i j → i ≤ j ∧ j ≤ N) : ∀ {i j : Nat}, Str N R i j → i ≤ j ∧ j ≤ N := by
  intro i j hs
  induction hs with
  | nil i hi => exact ⟨Nat.le_refl _, hi⟩
  | cons i k j h1 _ ih => exact ⟨Nat.le_trans (h i k h1).1 ih.1, ih.2⟩
theorem fit_le (s : List UInt8) : ∀ (t : Rx) (i j : Nat), Fit s t i j → i ≤ j ∧ j ≤ s.length
  | .leaf n, i, j, h => by
    unfold Fit at h
    split at h
    · obtain ⟨c, h1, _, rfl⟩ := h
      have : i < s.length := by
        rcases Nat.lt_or_ge i s.length with h' | h'
        · exact h'
        · rw [List.getElem?_eq_none h'] at h1; cases h1
      omega
    · split at h
      · omega
      · split at h <;> omega
  | .one n a, i, j, h => by
    unfold Fit at h
    split at h
    · exact Str.le (fit_le s a) h
    · split at h
      · obtain ⟨k, h1, h2⟩ := h
        have := fit_le s a i k h1
        have := Str.le (fit_le s a) h2
        omega
      · rcases h with h | h
        · omega
        · exact fit_le s a i j h
  | .two n a b, i, j, h => by
    unfold Fit at h
    split at h
    · obtain ⟨k, h1, h2⟩ := h
      have := fit_le s a i k h1
      have := fit_le s b k j h2
      omega
    · rcases h with h | h
      · exact fit_le s a i j h
      · exact fit_le s b i j h
/-- What fits from a place to itself may be nothing. -/
theorem fit_self (s : List UInt8) : ∀ (t : Rx) (i : Nat), Fit s t i i → t.emp = true
  | .leaf n, i, h => by
    unfold Fit at h
    unfold Rx.emp
    split at h
    · obtain ⟨c, _, _, h⟩ := h; omega
    · rename_i h1; simp [h1]
  | .one n a, i, h => by
    unfold Fit at h
    unfold Rx.emp
    split at h
    · rename_i h5; simp [h5]
    · split at h
      · rename_i h6
        rw [if_pos h6]
        obtain ⟨k, h1, h2⟩ := h
        have q1 := fit_le s a i k h1
        have q2 := Str.le (fit_le s a) h2
        obtain rfl : k = i := by omega
        exact fit_self s a k h1
      · rename_i h6; rw [if_neg h6]
  | .two n a b, i, h => by
    unfold Fit at h
    unfold Rx.emp
    split at h
    · rename_i h3
      rw [if_pos h3]
      obtain ⟨k, h1, h2⟩ := h
      have q1 := fit_le s a i k h1
      have q2 := fit_le s b k i h2
      obtain rfl : k = i := by omega
      rw [fit_self s a k h1, fit_self s b k h2]; rfl
    · rename_i h3
      rw [if_neg h3]
      rcases h with h | h
      · rw [fit_self s a i h]; rfl
      · rw [fit_self s b i h]; simp
theorem Str.trans {N : Nat} {R : Nat → Nat → Prop} {i j k : Nat} (h1 : Str N R i j) (h2 : Str N R j k) : Str N R i k := by
  induction h1 with
  | nil => exact h2
  | cons i m j h _ ih => exact .cons i m k h (ih h2)
theorem Str.mono {N : Nat} {R Q : Nat → Nat → Prop} (h : ∀ i j, R i j → Q i j) {i j : Nat} (hs : Str N R i j) : Str N Q i j := by
  induction hs with
  | nil i hi => exact .nil i hi
  | cons i k j h1 _ ih => exact .cons i k j (h i k h1) ih
theorem Str.one {N : Nat} {R : Nat → Nat → Prop} (h : ∀ i j, R i j → i ≤ j ∧ j ≤ N) {i j : Nat} (hr : R i j) : Str N R i j := .cons i j j hr (.nil j (h i j hr).2)
/-- A star of a star is the star. -/
theorem Str.flat {N : Nat} {R : Nat → Nat → Prop} {i j : Nat} (hs : Str N (Str N R) i j) : Str N R i j := by
  induction hs with
  | nil i hi => exact .nil i hi
  | cons i k j h1 _ ih => exact h1.trans ih
/-- The other way round. -/
theorem Str.turn {N : Nat} {R Q : Nat → Nat → Prop} (h : ∀ i j, R i j → i ≤ j ∧ j ≤ N) (hq : ∀ i j, R i j → Q (N - j) (N - i)) {i j : Nat} (hs : Str N R i j) : Str N Q (N - j) (N - i) := by
  induction hs with
  | nil i hi => exact .nil _ (by omega)
  | cons i k j h1 hs ih =>
    refine ih.trans (.cons _ (N - i) _ (hq i k h1) (.nil _ (by omega)))
theorem get_rev (s : List UInt8) (i : Nat) (h : i < s.length) : s.reverse[s.length - (i + 1)]? = s[i]? := by
  rw [List.getElem?_reverse (by omega)]
  congr 1
  omega
theorem fit_turn (s : List UInt8) : ∀ (t : Rx), t.Ok → ∀ (i j : Nat), Fit s t i j → Fit s.reverse t.turn (s.length - j) (s.length - i)
  | .leaf n, ht, i, j, h => by
    have hle := fit_le s _ i j h
    unfold Fit at h
    unfold Rx.turn Fit
    rw [List.length_reverse]
    by_cases h1 : n.op = 1
    · rw [if_pos h1] at h
      rw [if_pos (show n.flip.op = 1 from (flip_eq 1 (by decide) (by decide)).2 h1)]
      obtain ⟨c, hc, hk, rfl⟩ := h
      refine ⟨c, ?_, hk, by omega⟩
      rw [get_rev s i (by omega)]
      exact hc
    · rw [if_neg h1] at h
      rw [if_neg (show ¬ n.flip.op = 1 from fun e => h1 ((flip_eq 1 (by decide) (by decide)).1 e))]
      by_cases h8 : n.op = 8
      · rw [if_pos h8] at h
        rw [if_neg (show ¬ n.flip.op = 8 from by simp [Nd.flip, flipOp, h8]), if_pos (show n.flip.op = 9 from by simp [Nd.flip, flipOp, h8])]
        omega
      · rw [if_neg h8] at h
        by_cases h9 : n.op = 9
        · rw [if_pos h9] at h
          rw [if_pos (show n.flip.op = 8 from by simp [Nd.flip, flipOp, h9])]
          omega
        · rw [if_neg h9] at h
          rw [if_neg (show ¬ n.flip.op = 8 from by simp [Nd.flip, flipOp, h8, h9]), if_neg (show ¬ n.flip.op = 9 from by simp [Nd.flip, flipOp, h8, h9])]
          omega
  | .one n a, ht, i, j, h => by
    have hle := fit_le s _ i j h
    unfold Fit at h
    unfold Rx.turn Fit
    rw [List.length_reverse]
    have ih := fit_turn s a ht.2
    by_cases h5 : n.op = 5
    · rw [if_pos h5] at h
      rw [if_pos (show n.flip.op = 5 from (flip_eq 5 (by decide) (by decide)).2 h5)]
      exact Str.turn (fit_le s a) ih h
    · rw [if_neg h5] at h
      rw [if_neg (show ¬ n.flip.op = 5 from fun e => h5 ((flip_eq 5 (by decide) (by decide)).1 e))]
      by_cases h6 : n.op = 6
      · rw [if_pos h6] at h
        rw [if_pos (show n.flip.op = 6 from (flip_eq 6 (by decide) (by decide)).2 h6)]
        obtain ⟨k, h1, h2⟩ := h
        have key : ∀ {x y : Nat}, Str s.length (Fit s.reverse a.turn) x y → ∀ z, Fit s.reverse a.turn y z → ∃ m, Fit s.reverse a.turn x m ∧ Str s.length (Fit s.reverse a.turn) m z := by
          intro x y hxy
          have hr : ∀ i j, Fit s.reverse a.turn i j → i ≤ j ∧ j ≤ s.length := fun i j h => by have := fit_le s.reverse a.turn i j h; rw [List.length_reverse] at this; exact this
          induction hxy with
          | nil x hx => intro z hz; exact ⟨z, hz, .nil z (hr _ _ hz).2⟩
          | cons x m y hx _ ih2 =>
            intro z hz
            obtain ⟨m', h3, h4⟩ := ih2 z hz
            exact ⟨m, hx, .cons m m' z h3 h4⟩
        exact key (Str.turn (fit_le s a) ih h2) _ (ih i k h1)
      · rw [if_neg h6] at h
        rw [if_neg (show ¬ n.flip.op = 6 from fun e => h6 ((flip_eq 6 (by decide) (by decide)).1 e))]
        rcases h with h | h
        · exact Or.inl (by omega)
        · exact Or.inr (ih i j h)
  | .two n a b, ht, i, j, h => by
    have hle := fit_le s _ i j h
    unfold Fit at h
    unfold Rx.turn
    have iha := fit_turn s a ht.2.1
    have ihb := fit_turn s b ht.2.2
    by_cases h3 : n.op = 3
    · rw [if_pos h3] at h ⊢
      unfold Fit
      rw [if_pos (show n.flip.op = 3 from (flip_eq 3 (by decide) (by decide)).2 h3)]
      obtain ⟨k, h1, h2⟩ := h
      exact ⟨s.length - k, ihb k j h2, iha i k h1⟩
    · rw [if_neg h3] at h ⊢
      unfold Fit
      rw [if_neg (show ¬ n.flip.op = 3 from fun e => h3 ((flip_eq 3 (by decide) (by decide)).1 e))]
      rcases h with h | h
      · exact Or.inl (iha i j h)
      · exact Or.inr (ihb i j h)
/-- BACKWARDS IT FITS BACKWARDS. -/
theorem fit_turn_iff (s : List UInt8) (t : Rx) (ht : t.Ok) (i j : Nat) (hi : i ≤ s.length) (hj : j ≤ s.length) : Fit s t i j ↔ Fit s.reverse t.turn (s.length - j) (s.length - i) := by
  constructor
  · exact fit_turn s t ht i j
  · intro h
    have := fit_turn s.reverse t.turn (Rx.turn_ok t ht) _ _ h
    rw [List.reverse_reverse, Rx.turn_turn, List.length_reverse] at this
    rw [show s.length - (s.length - i) = i by omega, show s.length - (s.length - j) = j by omega] at this
    exact this
/-- The places to which it fits, rising. -/
def EndsR (s : List UInt8) (t : Rx) (i : Nat) (l : List Nat) : Prop := l.Pairwise (· < ·) ∧ ∀ j, j ∈ l ↔ Fit s t i j
theorem ends_total (s : List UInt8) (t : Rx) (i : Nat) : ∃ l, EndsR s t i l := by
  refine ⟨(List.range (s.length + 1)).filter fun j => @decide (Fit s t i j) (Classical.propDecidable _), List.Pairwise.filter _ List.pairwise_lt_range, fun j => ?_⟩
  rw [List.mem_filter, List.mem_range, @decide_eq_true_iff (Fit s t i j) (Classical.propDecidable _)]
  exact ⟨fun h => h.2, fun h => ⟨by have := fit_le s t i j h; omega, h⟩⟩
theorem rise_eq : ∀ (x y : List Nat), x.Pairwise (· < ·) → y.Pairwise (· < ·) → (∀ j, j ∈ x ↔ j ∈ y) → x = y
  | [], [], _, _, _ => rfl
  | [], b :: y, _, _, h => by have := (h b).2 (by simp); simp at this
  | a :: x, [], _, _, h => by have := (h a).1 (by simp); simp at this
  | a :: x, b :: y, hx, hy, h => by
    rw [List.pairwise_cons] at hx hy
    have hab : a = b := by
      have h1 := (h a).1 (by simp)
      have h2 := (h b).2 (by simp)
      rw [List.mem_cons] at h1 h2
      rcases h1 with h1 | h1
      · exact h1
      · rcases h2 with h2 | h2
        · exact h2.symm
        · have := hx.1 b h2
          have := hy.1 a h1
          omega
    subst hab
    have : x = y := rise_eq x y hx.2 hy.2 (fun j => by
      have hj := h j
      rw [List.mem_cons, List.mem_cons] at hj
      constructor
      · intro hm
        have := hx.1 j hm
        rcases hj.1 (Or.inr hm) with e | e
        · omega
        · exact e
      · intro hm
        have := hy.1 j hm
        rcases hj.2 (Or.inr hm) with e | e
        · omega
        · exact e)
    rw [this]
theorem EndsR.same {s : List UInt8} {t u : Rx} {i : Nat} {x y : List Nat} (hx : EndsR s t i x) (hy : EndsR s u i y) (h : ∀ j, Fit s t i j ↔ Fit s u i j) : x = y :=
  rise_eq x y hx.1 hy.1 fun j => (hx.2 j).trans ((h j).trans (hy.2 j).symm)
theorem EndsR.le {s : List UInt8} {t : Rx} {i : Nat} {x : List Nat} (hx : EndsR s t i x) : ∀ j ∈ x, i ≤ j ∧ j ≤ s.length := fun j hj => fit_le s t i j ((hx.2 j).1 hj)
theorem rise_len : ∀ (x : List Nat) (n m : Nat), x.Pairwise (· < ·) → (∀ j ∈ x, n ≤ j ∧ j < m) → n + x.length ≤ m ∨ x = []
  | [], _, _, _, _ => Or.inr rfl
  | a :: x, n, m, h, hb => by
    left
    rw [List.pairwise_cons] at h
    have ha := hb a (by simp)
    rcases rise_len x (a + 1) m h.2 (fun j hj => ⟨h.1 j hj, (hb j (by simp [hj])).2⟩) with h1 | h1
    · simp; omega
    · subst h1; simp; omega
theorem EndsR.len {s : List UInt8} {t : Rx} {i : Nat} {x : List Nat} (hx : EndsR s t i x) : x.length ≤ s.length + 1 := by
  rcases rise_len x 0 (s.length + 1) hx.1 (fun j hj => by have := hx.le j hj; omega) with h | h
  · omega
  · rw [h]; simp
/-- All of it is fitted just if the last end is its length. -/
theorem EndsR.all {s : List UInt8} {t : Rx} {i : Nat} {x : List Nat} (hx : EndsR s t i x) : x.getLast? = some s.length ↔ Fit s t i s.length := by
  rw [← hx.2]
  constructor
  · intro h; exact List.mem_of_getLast? h
  · intro h
    obtain ⟨l, b, e⟩ := List.append_of_mem h
    cases b with
    | nil => rw [e]; simp
    | cons c b =>
      exfalso
      have h1 := hx.1
      rw [e] at h1
      have h2 := (List.pairwise_append.1 h1).2.1
      rw [List.pairwise_cons] at h2
      have h3 := h2.1 c (by simp)
      have h4 := hx.le c (by rw [e]; simp)
      omega
end Go.Proofs.YtlejbnmeeonblaaDoor
namespace Go.Proofs.YtlejbnmeeonblaaDoor
set_option linter.unusedSimpArgs false
set_option linter.unusedVariables false
set_option maxRecDepth 100000
open Go.RowKit
/-- The one byte of a class. -/
def C4.only (k : C4) : Option UInt8 := if ((List.range 256).filter k.has).length = 1 then ((List.range 256).filter k.has).head?.map (fun b => UInt8.ofNat b) else none
/-- The one text that a pattern fits. -/
def Rx.whl : Rx → Option (List UInt8)
  | .leaf n => if n.op = 1 then n.c.only.map (fun c => [c]) else if n.op = 2 then some [] else none
  | .one _ _ => none
  | .two n a b => if n.op = 3 then a.whl.bind (fun x => b.whl.map (fun y => x ++ y)) else none
/-- The longer one, the first if they are as long. -/
def longer (x y : List UInt8) : List UInt8 := if x.length < y.length then y else x
/-- What stands in all that a pattern fits. -/
def Rx.ned : Rx → List UInt8
  | .leaf n => ((Rx.leaf n).whl).getD []
  | .one n a => if n.op = 6 then a.ned else []
  | .two n a b => match (Rx.two n a b).whl with
    | some x => x
    | none => if n.op = 3 then longer a.ned b.ned else []
/-- The piece of a text from one place to another one. -/
def cut (s : List UInt8) (i j : Nat) : List UInt8 := (s.drop i).take (j - i)
theorem cut_len {s : List UInt8} {i j : Nat} (h : i ≤ j) (hj : j ≤ s.length) : (cut s i j).length = j - i := by
  unfold cut
  rw [List.length_take, List.length_drop]
  omega
theorem cut_trans {s : List UInt8} {i k j : Nat} (h1 : i ≤ k) (h2 : k ≤ j) : cut s i j = cut s i k ++ cut s k j := by
  unfold cut
  have e : j - i = (k - i) + (j - k) := by omega
  rw [e, List.take_add, List.drop_drop]
  congr 3
  omega
theorem cut_self (s : List UInt8) (i : Nat) : cut s i i = [] := by simp [cut]
theorem only_has {k : C4} {c : UInt8} (h : k.only = some c) (b : UInt8) : k.has b.toNat = true ↔ b = c := by
  unfold C4.only at h
  split at h
  · rename_i h1
    obtain ⟨x, hx⟩ : ∃ x, (List.range 256).filter k.has = [x] := List.length_eq_one_iff.1 h1
    rw [hx] at h
    simp at h
    have hm : ∀ y, y < 256 → (k.has y = true ↔ y = x) := by
      intro y hy
      have : y ∈ (List.range 256).filter k.has ↔ y = x := by rw [hx, List.mem_singleton]
      rw [List.mem_filter, List.mem_range] at this
      rw [← this]
      exact ⟨fun h => ⟨hy, h⟩, fun h => h.2⟩
    have hx256 : x < 256 := by
      have : x ∈ (List.range 256).filter k.has := by rw [hx]; simp
      rw [List.mem_filter, List.mem_range] at this
      exact this.1
    rw [hm b.toNat b.toNat_lt, ← h]
    constructor
    · intro e
      rw [← e]
      simp
    · intro e
      rw [e]
      simp
      omega
  · cases h
/-- What a pattern that has a whole fits is that one. -/
theorem whl_fit (s : List UInt8) : ∀ (t : Rx), t.Ok → (∀ n ∈ t.flat, 1 ≤ n.op ∧ n.op ≤ 9) → ∀ (x : List UInt8), t.whl = some x → ∀ i j, Fit s t i j ↔ (j = i + x.length ∧ j ≤ s.length ∧ cut s i j = x)
  | .leaf n, hk, ho, x, hx, i, j => by
    simp only [Rx.whl] at hx
    simp only [Fit]
    by_cases h1 : n.op = 1
    · rw [if_pos h1] at hx ⊢
      cases hc : n.c.only with
      | none => rw [hc] at hx; cases hx
      | some c =>
        rw [hc] at hx
        simp at hx
        subst hx
        constructor
        · rintro ⟨d, hd, hh, rfl⟩
          have hdc := (only_has hc d).1 hh
          subst hdc
          have hlt : i < s.length := by
            rcases Nat.lt_or_ge i s.length with h' | h'
            · exact h'
            · rw [List.getElem?_eq_none h'] at hd; cases hd
          refine ⟨by simp, by omega, ?_⟩
          unfold cut
          rw [List.drop_eq_getElem_cons hlt, show i + 1 - i = 1 from by omega]
          rw [List.getElem?_eq_getElem hlt] at hd
          simp [Option.some.inj hd]
        · rintro ⟨rfl, hj, he⟩
          simp at hj
          have hlt : i < s.length := by omega
          refine ⟨c, ?_, (only_has hc c).2 rfl, by simp⟩
          have h0 := congrArg (fun l => l[0]?) he
          simpa [cut, List.getElem?_take, List.getElem?_drop] using h0
    · rw [if_neg h1] at hx ⊢
      by_cases h2 : n.op = 2
      · rw [if_pos h2] at hx
        rw [if_neg (by omega), if_neg (by omega)]
        simp at hx
        subst hx
        constructor
        · rintro ⟨rfl, hi⟩
          exact ⟨by simp, hi, cut_self _ _⟩
        · rintro ⟨rfl, hj, _⟩
          exact ⟨by simp, by simpa using hj⟩
      · rw [if_neg h2] at hx; cases hx
  | .one n a, hk, ho, x, hx, i, j => by simp [Rx.whl] at hx
  | .two n a b, hk, ho, x, hx, i, j => by
    simp only [Rx.whl] at hx
    by_cases h3 : n.op = 3
    · rw [if_pos h3] at hx
      simp only [Fit, if_pos h3]
      cases hxa : a.whl with
      | none => rw [hxa] at hx; cases hx
      | some xa =>
        cases hxb : b.whl with
        | none => rw [hxa, hxb] at hx; cases hx
        | some xb =>
          rw [hxa, hxb] at hx
          simp at hx
          subst hx
          have fa := whl_fit s a hk.2.1 (fun m hm => ho m (by simp [Rx.flat, hm])) xa hxa
          have fb := whl_fit s b hk.2.2 (fun m hm => ho m (by simp [Rx.flat, hm])) xb hxb
          constructor
          · rintro ⟨k, h1, h2⟩
            obtain ⟨rfl, hk1, e1⟩ := (fa i k).1 h1
            obtain ⟨rfl, hk2, e2⟩ := (fb _ j).1 h2
            refine ⟨by simp; omega, hk2, ?_⟩
            rw [cut_trans (k := i + xa.length) (by omega) (by omega), e1, e2]
          · rintro ⟨rfl, hj, he⟩
            rw [List.length_append] at hj he
            have hc := cut_trans (s := s) (i := i) (k := i + xa.length) (j := i + (xa.length + xb.length)) (by omega) (by omega)
            rw [he] at hc
            have hl := cut_len (s := s) (i := i) (j := i + xa.length) (by omega) (by omega)
            obtain ⟨e1, e2⟩ := List.append_inj hc (by rw [hl]; omega)
            refine ⟨i + xa.length, (fa _ _).2 ⟨rfl, by omega, e1.symm⟩, (fb _ _).2 ⟨by simp; omega, by rw [List.length_append]; omega, ?_⟩⟩
            rw [List.length_append]
            exact e2.symm
    · rw [if_neg h3] at hx; cases hx
theorem longer_cases (x y : List UInt8) : longer x y = x ∨ longer x y = y := by unfold longer; split <;> simp
/-- What is needed stands in all that is fitted. -/
theorem ned_fit (s : List UInt8) : ∀ (t : Rx), t.Ok → (∀ n ∈ t.flat, 1 ≤ n.op ∧ n.op ≤ 9) → ∀ i j, Fit s t i j → ∃ p q, cut s i j = p ++ t.ned ++ q
  | .leaf n, hk, ho, i, j, hf => by
    unfold Rx.ned
    cases hx : (Rx.leaf n).whl with
    | none => exact ⟨[], cut s i j, by simp⟩
    | some x =>
      obtain ⟨_, _, e⟩ := (whl_fit s (.leaf n) hk ho x hx i j).1 hf
      exact ⟨[], [], by simp [e]⟩
  | .one n a, hk, ho, i, j, hf => by
    unfold Rx.ned
    by_cases h6 : n.op = 6
    · rw [if_pos h6]
      simp only [Fit] at hf
      rw [if_neg (by omega), if_pos h6] at hf
      obtain ⟨k, h1, h2⟩ := hf
      have hle : ∀ i j, Fit s a i j → i ≤ j ∧ j ≤ s.length := fit_le s a
      obtain ⟨p, q, e⟩ := ned_fit s a hk.2 (fun m hm => ho m (by simp [Rx.flat, hm])) i k h1
      refine ⟨p, q ++ cut s k j, ?_⟩
      rw [cut_trans (k := k) (hle i k h1).1 (Str.le hle h2).1, e]
      simp
    · rw [if_neg h6]
      exact ⟨[], cut s i j, by simp⟩
  | .two n a b, hk, ho, i, j, hf => by
    unfold Rx.ned
    cases hx : (Rx.two n a b).whl with
    | some x =>
      obtain ⟨_, _, e⟩ := (whl_fit s (.two n a b) hk ho x hx i j).1 hf
      exact ⟨[], [], by simp [e]⟩
    | none =>
      simp only
      by_cases h3 : n.op = 3
      · rw [if_pos h3]
        simp only [Fit, if_pos h3] at hf
        obtain ⟨k, h1, h2⟩ := hf
        rw [cut_trans (k := k) (fit_le s a i k h1).1 (fit_le s b k j h2).1]
        rcases longer_cases a.ned b.ned with e | e
        · rw [e]
          obtain ⟨p, q, e'⟩ := ned_fit s a hk.2.1 (fun m hm => ho m (by simp [Rx.flat, hm])) i k h1
          exact ⟨p, q ++ cut s k j, by rw [e']; simp⟩
        · rw [e]
          obtain ⟨p, q, e'⟩ := ned_fit s b hk.2.2 (fun m hm => ho m (by simp [Rx.flat, hm])) k j h2
          exact ⟨cut s i k ++ p, q, by rw [e']; simp⟩
      · rw [if_neg h3]
        exact ⟨[], cut s i j, by simp⟩
end Go.Proofs.YtlejbnmeeonblaaDoor
namespace Go.Proofs.YtlejbnmeeonblaaDoor
set_option linter.unusedSimpArgs false
set_option linter.unusedVariables false
set_option maxRecDepth 100000
open Go.RowKit
/-- What the document asks of lit.Needed (X: what the library's tables hold). -/
structure LitN (X : World → Prop) : Prop where
  bad : ∀ ns v w, NsIn w v ns → (∀ n ∈ ns, n.wf) → ¬ faultL ns = 0 → Calls Tryd.prog 10 #[v] w fun e w' => e = .returned (.tuple #[.string ⟨#[]⟩, errV (faultL ns)]) ∧ Below w.heap.size w w'
  need : ∀ (t : Rx) v w, X w → t.Ok → NsIn w v t.flat → (∀ n ∈ t.flat, n.wf) → faultL t.flat = 0 → Calls Tryd.prog 10 #[v] w fun e w' => e = .returned (.tuple #[.string ⟨t.ned.toArray⟩, .nilIface]) ∧ Below w.heap.size w w'
/-- Of lit.Whole. -/
structure LitW (X : World → Prop) : Prop where
  bad : ∀ ns v w, NsIn w v ns → (∀ n ∈ ns, n.wf) → ¬ faultL ns = 0 → Calls Tryd.prog 8 #[v] w fun e w' => e = .returned (.tuple #[.string ⟨#[]⟩, .bool false, errV (faultL ns)]) ∧ Below w.heap.size w w'
  whole : ∀ (t : Rx) v w, X w → t.Ok → NsIn w v t.flat → (∀ n ∈ t.flat, n.wf) → faultL t.flat = 0 → Calls Tryd.prog 8 #[v] w fun e w' => e = .returned (.tuple #[.string ⟨(t.whl.getD []).toArray⟩, .bool t.whl.isSome, .nilIface]) ∧ Below w.heap.size w w'
end Go.Proofs.YtlejbnmeeonblaaDoor
namespace Go.Proofs.YtlejbnmeeonblaaDoor
set_option linter.unusedSimpArgs false
set_option linter.unusedVariables false
set_option maxRecDepth 100000
open Go.RowKit
theorem ba_ext {a b : ByteArray} (h : a.data.toList = b.data.toList) : a = b := by
  cases a with
  | mk x =>
    cases b with
    | mk y =>
      congr 1
      exact Array.toList_inj.1 h
theorem cut_extract (s : ByteArray) (i j : Nat) : (s.extract i j).data.toList = cut s.data.toList i j := by
  rw [ByteArray.data_extract, Array.toList_extract]
  unfold cut
  simp [List.extract]
theorem size_list (s : ByteArray) : s.data.toList.length = s.size := by simp
theorem ba_beq (a b : ByteArray) : (a.toList == b.toList) = true ↔ a = b := by
  rw [beq_iff_eq, ByteArray.toList_eq, ByteArray.toList_eq]
  exact ⟨ba_ext, fun h => by rw [h]⟩
/-- A word stands at a place. -/
def StA (s : ByteArray) (i : Nat) (x : ByteArray) : Prop := i + x.size ≤ s.size ∧ s.extract i (i + x.size) = x
/-- What Stands answers. -/
def StP (s : ByteArray) (i : Nat) (x : ByteArray) (w : World) (e : Ending) (w' : World) : Prop := ∃ y, e = .returned (.bool y) ∧ (y = true ↔ StA s i x) ∧ w' = w
set_option maxHeartbeats 2000000 in
theorem stands_any (s x : ByteArray) (hs : s.size ≤ 1000000) (hx : x.size ≤ 1000000) (i : Nat) (hi : i ≤ s.size) (w : World) :
    Calls Tryd.prog 13 #[.string s, .int .i64 (i : Int), .string x] w (StP s i x w) := by
  have i0 : (0 : Int) ≤ (i : Int) := by omega
  by_cases hle : i + x.size ≤ s.size
  · have g1 : (i : Int) + (x.size : Int) ≤ (s.size : Int) := by omega
    have g2 : (i : Int) ≤ (i : Int) + (x.size : Int) := by omega
    obtain ⟨T, hT⟩ : ∃ T, s.extract i (i + x.size) = T := ⟨_, rfl⟩
    have e1 : ((i : Int) + (x.size : Int)).toNat = i + x.size := by omega
    go_enter Tryd.func13, Tryd.ntmps13
    have HY : Hid (StP s i x w (.returned (.bool (T.toList == x.toList))) w) := ⟨_, rfl, by rw [ba_beq, ← hT]; exact ⟨fun h => ⟨hle, h⟩, fun h => h.2⟩, rfl⟩
    go_wp2
    go_ret
    exact HY.out
  · have g1 : ¬ (i : Int) + (x.size : Int) ≤ (s.size : Int) := by omega
    have HN : Hid (¬ StA s i x) := fun h => hle h.1
    go_enter Tryd.func13, Tryd.ntmps13
    go_wp2
    go_ret
    exact ⟨false, rfl, ⟨fun h => (by cases h), fun h => absurd h HN.out⟩, rfl⟩
end Go.Proofs.YtlejbnmeeonblaaDoor
namespace Go.Proofs.YtlejbnmeeonblaaDoor
set_option linter.unusedSimpArgs false
set_option linter.unusedVariables false
set_option maxRecDepth 100000
open Go.RowKit
set_option maxHeartbeats 400000 in
theorem with_any (k : C4) (x : Int) (w : World) (h : 0 ≤ x) (h2 : x < 256) :
    Calls Tryd.prog 20 #[k.v, .int .u8 x] w fun e w' => e = .returned (k.add x).v ∧ Below w.heap.size w w' := by
  have hw := k.get (x/64).toNat (by omega)
  have hs := k.set (x/64).toNat (by omega)
  go_enter Tryd.func20, Tryd.ntmps20
  go_wp2
  refine bodyPost_ret (v := (k.add x).v) (by simp [results, Tryd.results20, go_sem]; exact ⟨rfl, rfl, rfl, rfl⟩) rfl ⟨rfl, ?_⟩
  exact ((Below.refl _ _).alloc (Nat.le_refl _) _).alloc (by simp) _
end Go.Proofs.YtlejbnmeeonblaaDoor
namespace Go.Proofs.YtlejbnmeeonblaaDoor
set_option linter.unusedSimpArgs false
set_option linter.unusedVariables false
set_option maxRecDepth 100000
open Go.RowKit
set_option maxHeartbeats 1000000 in
theorem of_any (s : ByteArray) (w : World) (hs : s.size ≤ maxLen) :
    Calls Tryd.prog 11 #[.string s] w fun e w' => e = .returned (C4.ofL s.data.toList).v ∧ Below w.heap.size w w' := by
  unfold maxLen at hs
  go_enter Tryd.func11, Tryd.ntmps11
  go_wp2
  go_loopw [7] (fun i wr => ∃ k : Nat, k ≤ s.size ∧ i = .int .i64 k ∧ Below w.heap.size w wr ∧ Hb wr w.heap.size z4 ∧ Hb wr (w.heap.size + 1) (C4.ofL (s.data.toList.take k))) (fun i _ => s.size - (intOf i).toNat)
  case atStart =>
    refine ⟨0, by omega, rfl, ?_, ?_, ?_⟩
    · exact ((Below.refl _ _).alloc (Nat.le_refl _) _).alloc (by simp) _
    · exact (Hb.new _ z4 _ rfl).alloc _
    · exact Hb.new _ z4 _ (by simp)
  case round =>
    obtain ⟨k, hk, rfl, hB, hZ, hC⟩ := hrel
    by_cases hlt : k < s.size
    · obtain ⟨c0, c1, c2, c3, e0, e1, e2, e3⟩ := hC.all
      have i0 : (0 : Int) ≤ (k : Int) := by omega
      have i1 : (k : Int) < (s.size : Int) := by omega
      have hg : s.data.toList[k]? = some s[k] := by
        rw [List.getElem?_eq_getElem (by simpa using hlt)]; rfl
      have hts : s.data.toList.take (k + 1) = s.data.toList.take k ++ [s[k]] := by
        rw [List.take_succ_eq_append_getElem (by simpa using hlt)]; rfl
      have HT : Hid (C4.ofL (s.data.toList.take (k + 1)) = (C4.ofL (s.data.toList.take k)).add (s[k].toNat : Int)) := by rw [hts, C4.ofL_snoc]; exact rfl
      clear hts hg
      have hlb : (s[k].toNat : Int) < 256 := by have := s[k].toNat_lt; omega
      have hl0 : (0 : Int) ≤ (s[k].toNat : Int) := by omega
      go_wp2_with fail
      go_region_with (first | (go_at_call 20; refine (with_any (C4.ofL (s.data.toList.take k)) _ _ hl0 hlb).mono ?_; rintro e w' ⟨rfl, hb⟩; have hC1 := Hb.below hC.drew hb hC.lt; obtain ⟨g0, g1, g2, g3, q0, q1, q2, q3⟩ := hC1.all))
      all_goals
        go_wp2
        refine ⟨⟨k + 1, by omega, by go_num, ?_, ?_, ?_⟩, by simp [intOf]; omega⟩
        · exact below_put4 (hB.drew.trans (hb.mono hB.size)) (by omega) _
        · exact Hb.other4 (Hb.below hZ.drew hb hZ.lt) _ (by omega)
        · rw [HT.out]; exact hC1.put4 _
    · have hk4 : k = s.size := by omega
      subst hk4
      have ht : s.data.toList.take s.size = s.data.toList := List.take_of_length_le (by simp)
      rw [ht] at hC
      clear ht
      obtain ⟨c0, c1, c2, c3, e0, e1, e2, e3⟩ := hC.all
      obtain ⟨d0, d1, d2, d3, f0, f1, f2, f3⟩ := hZ.all
      go_wp2
      have hq := hZ.put4 (C4.ofL s.data.toList)
      refine bodyPost_ret (v := (C4.ofL s.data.toList).v) (by simp [results, Tryd.results11, go_sem, hq.c0, hq.c1, hq.c2, hq.c3]) rfl ⟨rfl, ?_⟩
      exact below_put4 hB (by omega) _
end Go.Proofs.YtlejbnmeeonblaaDoor
namespace Go.Proofs.YtlejbnmeeonblaaDoor
set_option linter.unusedSimpArgs false
set_option linter.unusedVariables false
open Go.RowKit
def kA : C4 := C4.ofL [97]
def kB : C4 := C4.ofL [98]
theorem ofA : ∀ w, Calls Tryd.prog 11 #[.string ⟨#[97]⟩] w fun e w' => e = .returned kA.v ∧ Below w.heap.size w w' := fun w => of_any ⟨#[97]⟩ w (by decide)
theorem ofB : ∀ w, Calls Tryd.prog 11 #[.string ⟨#[98]⟩] w fun e w' => e = .returned kB.v ∧ Below w.heap.size w w' := fun w => of_any ⟨#[98]⟩ w (by decide)
theorem kA_ok : kA.ok ∧ kA.has 97 = true := ⟨ofL_ok _, by unfold kA; rw [ofL_has _ _ (by decide)]; decide⟩
theorem kB_ok : kB.ok ∧ kB.has 98 = true := ⟨ofL_ok _, by unfold kB; rw [ofL_has _ _ (by decide)]; decide⟩
theorem kA_not : kA.ok ∧ kA.has 97 = true ∧ kA.has 98 = false := ⟨ofL_ok _, kA_ok.2, by unfold kA; rw [ofL_has _ _ (by decide)]; decide⟩
end Go.Proofs.YtlejbnmeeonblaaDoor
namespace Go.Proofs.YtlejbnmeeonblaaDoor
set_option linter.unusedSimpArgs false
set_option linter.unusedVariables false
set_option maxRecDepth 100000
open Go.RowKit
/-- From place k nothing is fitted. -/
def NoFit (s : List UInt8) (t : Rx) (k : Nat) : Prop := ∀ j, ¬ Fit s t k j
/-- What is found from place i on: none ahead, none longer. -/
def FndR (s : List UInt8) (t : Rx) (i : Nat) : Option (Nat × Nat) → Prop
  | none => ∀ k, i ≤ k → k ≤ s.length → NoFit s t k
  | some (a, b) => i ≤ a ∧ (∀ k, i ≤ k → k < a → NoFit s t k) ∧ Fit s t a b ∧ ∀ c, Fit s t a c → c ≤ b
theorem FndR.le {s : List UInt8} {t : Rx} {i a b : Nat} (h : FndR s t i (some (a, b))) : i ≤ a ∧ a ≤ b ∧ b ≤ s.length := by
  obtain ⟨h1, _, h2, _⟩ := h
  have := fit_le s t a b h2
  omega
theorem FndR.out {s : List UInt8} {t : Rx} {i : Nat} (h : s.length < i) : FndR s t i none := fun k h1 h2 => by omega
theorem FndR.step {s : List UInt8} {t : Rx} {i : Nat} {r : Option (Nat × Nat)} (hn : NoFit s t i) (h : FndR s t (i + 1) r) : FndR s t i r := by
  cases r with
  | none =>
    intro k h1 h2
    rcases Nat.eq_or_lt_of_le h1 with rfl | h1
    · exact hn
    · exact h k h1 h2
  | some x =>
    obtain ⟨a, b⟩ := x
    obtain ⟨h1, h2, h3, h4⟩ := h
    refine ⟨by omega, fun k g1 g2 => ?_, h3, h4⟩
    rcases Nat.eq_or_lt_of_le g1 with rfl | g1
    · exact hn
    · exact h2 k g1 g2
theorem FndR.unstep {s : List UInt8} {t : Rx} {i : Nat} {r : Option (Nat × Nat)} (hn : NoFit s t i) (h : FndR s t i r) : FndR s t (i + 1) r := by
  cases r with
  | none => exact fun k h1 h2 => h k (by omega) h2
  | some x =>
    obtain ⟨a, b⟩ := x
    obtain ⟨h1, h2, h3, h4⟩ := h
    have : i ≠ a := fun e => hn b (e ▸ h3)
    exact ⟨by omega, fun k g1 g2 => h2 k (by omega) g2, h3, h4⟩
theorem FndR.uniq {s : List UInt8} {t : Rx} {i : Nat} {r r' : Option (Nat × Nat)} (h : FndR s t i r) (h' : FndR s t i r') : r = r' := by
  cases r with
  | none =>
    cases r' with
    | none => rfl
    | some x =>
      obtain ⟨a, b⟩ := x
      have hl := h'.le
      exact absurd h'.2.2.1 (h a hl.1 (by omega) b)
  | some x =>
    obtain ⟨a, b⟩ := x
    cases r' with
    | none =>
      have hl := h.le
      exact absurd h.2.2.1 (h' a hl.1 (by omega) b)
    | some y =>
      obtain ⟨c, d⟩ := y
      obtain ⟨h1, h2, h3, h4⟩ := h
      obtain ⟨g1, g2, g3, g4⟩ := h'
      have e : a = c := by
        rcases Nat.lt_trichotomy a c with e | e | e
        · exact absurd h3 (g2 a h1 e b)
        · exact e
        · exact absurd g3 (h2 c g1 e d)
      subst e
      have := h4 d g3
      have := g4 b h3
      congr 2
      omega
/-- The last of what rises is the greatest. -/
theorem rise_last {l : List Nat} (h : l.Pairwise (· < ·)) {b : Nat} (hb : l.getLast? = some b) : ∀ c ∈ l, c ≤ b := by
  obtain ⟨r, rfl⟩ : ∃ r, l = r ++ [b] := by
    obtain ⟨ys, hys⟩ := List.getLast?_eq_some_iff.1 hb
    exact ⟨ys, hys⟩
  intro c hc
  rw [List.pairwise_append] at h
  rcases List.mem_append.1 hc with hc | hc
  · exact Nat.le_of_lt (h.2.2 c hc b (by simp))
  · rw [List.mem_singleton.1 hc]; exact Nat.le_refl _
theorem EndsR.none {s : List UInt8} {t : Rx} {i : Nat} (h : EndsR s t i []) : NoFit s t i := fun j hj => by
  have := (h.2 j).2 hj
  cases this
theorem FndR.here {s : List UInt8} {t : Rx} {i b : Nat} {l : List Nat} (h : EndsR s t i l) (hb : l.getLast? = some b) : FndR s t i (some (i, b)) :=
  ⟨Nat.le_refl _, fun k h1 h2 => by omega, (h.2 b).1 (List.mem_of_getLast? hb), fun c hc => rise_last h.1 hb c ((h.2 c).2 hc)⟩
theorem fnd_total (s : List UInt8) (t : Rx) : ∀ d i, s.length + 1 - i ≤ d → ∃ r, FndR s t i r
  | 0, i, h => ⟨none, FndR.out (by omega)⟩
  | d + 1, i, h => by
    rcases Nat.lt_or_ge s.length i with h1 | h1
    · exact ⟨none, FndR.out h1⟩
    · obtain ⟨l, hl⟩ := ends_total s t i
      cases hb : l.getLast? with
      | none =>
        have e : l = [] := List.getLast?_eq_none_iff.1 hb
        subst e
        obtain ⟨r, hr⟩ := fnd_total s t d (i + 1) (by omega)
        exact ⟨r, hr.step hl.none⟩
      | some b => exact ⟨_, FndR.here hl hb⟩
/-- Where one goes on behind a span. -/
def nextAt (x : Nat × Nat) : Nat := if x.1 = x.2 then x.2 + 1 else x.2
/-- All that is found from a place on, one behind the other. -/
inductive AllR (s : List UInt8) (t : Rx) : Nat → List (Nat × Nat) → Prop
  | nil (i : Nat) : FndR s t i none → AllR s t i []
  | cons (i : Nat) (x : Nat × Nat) (l : List (Nat × Nat)) : FndR s t i (some x) → AllR s t (nextAt x) l → AllR s t i (x :: l)
theorem nextAt_lt {s : List UInt8} {t : Rx} {i : Nat} {x : Nat × Nat} (h : FndR s t i (some x)) : i < nextAt x ∧ nextAt x ≤ s.length + 1 := by
  obtain ⟨a, b⟩ := x
  have := h.le
  unfold nextAt
  simp only
  split <;> omega
theorem all_total (s : List UInt8) (t : Rx) : ∀ d i, s.length + 1 - i ≤ d → ∃ l, AllR s t i l
  | 0, i, h => ⟨[], .nil i (FndR.out (by omega))⟩
  | d + 1, i, h => by
    obtain ⟨r, hr⟩ := fnd_total s t _ i (Nat.le_refl _)
    cases r with
    | none => exact ⟨[], .nil i hr⟩
    | some x =>
      have h1 := nextAt_lt hr
      obtain ⟨l, hl⟩ := all_total s t d (nextAt x) (by omega)
      exact ⟨x :: l, .cons i x l hr hl⟩
theorem AllR.uniq {s : List UInt8} {t : Rx} {i : Nat} {l : List (Nat × Nat)} (h : AllR s t i l) : ∀ l', AllR s t i l' → l = l' := by
  induction h with
  | nil i h =>
    intro l' h'
    cases h' with
    | nil _ _ => rfl
    | cons _ x r hx _ => cases h.uniq hx
  | cons i x r hx _ ih =>
    intro l' h'
    cases h' with
    | nil _ h0 => cases hx.uniq h0
    | cons _ y r' hy hr =>
      obtain rfl := Option.some.inj (hx.uniq hy)
      rw [ih r' hr]
theorem AllR.len {s : List UInt8} {t : Rx} {i : Nat} {l : List (Nat × Nat)} (h : AllR s t i l) : l.length ≤ s.length + 1 - i := by
  induction h with
  | nil i h => simp
  | cons i x r hx _ ih =>
    have := nextAt_lt hx
    simp
    omega
theorem AllR.mem {s : List UInt8} {t : Rx} {i : Nat} {l : List (Nat × Nat)} (h : AllR s t i l) : ∀ x ∈ l, i ≤ x.1 ∧ x.1 ≤ x.2 ∧ x.2 ≤ s.length := by
  induction h with
  | nil i h => intro x hx; cases hx
  | cons i y r hy _ ih =>
    have hn := nextAt_lt hy
    intro x hx
    rcases List.mem_cons.1 hx with rfl | hx
    · exact hy.le
    · have := ih x hx
      omega
end Go.Proofs.YtlejbnmeeonblaaDoor
namespace Go.Proofs.YtlejbnmeeonblaaDoor
set_option linter.unusedSimpArgs false
set_option linter.unusedVariables false
set_option maxRecDepth 100000
open Go.RowKit

theorem nsIn_nil (w : World) : NsIn w (.slice none 0 0) [] := ⟨none, 0, rfl, by simp, Or.inl rfl⟩
theorem nsIn_form {w : World} {v : Value} {ns : List Nd} (h : NsIn w v ns) : ∃ a cap, v = .slice a ns.length cap ∧ ns.length ≤ maxLen := by
  obtain ⟨a, cap, h1, h2, _⟩ := h
  exact ⟨a, cap, h1, h2⟩
theorem nsEq_refl (x : List Nd) : nsEq x x = true := (nsEq_iff x x).2 rfl
end Go.Proofs.YtlejbnmeeonblaaDoor
namespace Go.Proofs.YtlejbnmeeonblaaDoor
set_option linter.unusedSimpArgs false
set_option linter.unusedVariables false
set_option maxRecDepth 100000
open Go.RowKit
theorem ns_newF (w : World) (ns : List Nd) (hm : ns.length ≤ maxLen) : NsIn (w.alloc (.cells (nsCells ns).toArray 40 (0, 0))) (.slice (some ⟨w.heap.size, 0, none⟩) ns.length ns.length) ns := by
  have e : (w.alloc (.cells (nsCells ns).toArray 40 (0, 0))).heap[w.heap.size]? = some (.cells (nsCells ns).toArray 40 (0, 0)) := by
    show (w.heap.push _)[w.heap.size]? = _
    simp
  have h : NsOwn (w.alloc (.cells (nsCells ns).toArray 40 (0, 0))) w.heap.size (.slice (some ⟨w.heap.size, 0, none⟩) ns.length ns.length) ns :=
    ⟨nsCells_len ns, Or.inr ⟨w.heap.size, ns.length, _, rfl, Nat.le_refl _, e, Nat.le_refl _, hm, by simp [nsCells_len], by simp [← nsCells_len]⟩⟩
  exact h.isIn hm
theorem kA_wfF : kA.wf := ⟨by decide, by decide, by decide, by decide⟩
theorem z4_wfF : z4.wf := ⟨by decide, by decide, by decide, by decide⟩
/-- The letter a. -/
abbrev tLa : Rx := .leaf ⟨1, kA⟩
/-- The letter a, as op says (5: as often as one likes, 6: once at least). -/
abbrev tOp (op : Int) : Rx := .one ⟨op, z4⟩ tLa
theorem tLa_ok : tLa.Ok := rfl
theorem tLa_wf : ∀ n ∈ tLa.flat, n.wf := by
  intro n hn
  simp [Rx.flat] at hn
  subst hn
  exact ⟨by decide, kA_wfF⟩
theorem tLa_fault : faultL tLa.flat = 0 := by
  rw [faultL_zero]
  refine ⟨by simp [Rx.flat], ?_, ?_⟩
  · intro n hn
    simp [Rx.flat] at hn
    subst hn
    exact ⟨by simp, Or.inl rfl⟩
  · have := endF_flat tLa tLa_ok [] [] (tLa.flat.length + 1) (by omega)
    simpa [endE] using this
theorem tOp_ok {op : Int} (h : op = 5 ∨ op = 6) : (tOp op).Ok := by
  refine ⟨?_, rfl⟩
  rcases h with rfl | rfl <;> rfl
theorem tOp_wf {op : Int} (h : op = 5 ∨ op = 6) : ∀ n ∈ (tOp op).flat, n.wf := by
  intro n hn
  simp [Rx.flat] at hn
  rcases hn with rfl | rfl
  · exact ⟨by rcases h with rfl | rfl <;> decide, z4_wfF⟩
  · exact ⟨by decide, kA_wfF⟩
theorem tOp_fault {op : Int} (h : op = 5 ∨ op = 6) : faultL (tOp op).flat = 0 := by
  rw [faultL_zero]
  refine ⟨by simp [Rx.flat], ?_, ?_⟩
  · intro n hn
    simp [Rx.flat] at hn
    rcases hn with rfl | rfl
    · exact ⟨by simp only; omega, Or.inr (show z4.eqb z4 = true by decide)⟩
    · exact ⟨by simp, Or.inl rfl⟩
  · have := endF_flat (tOp op) (tOp_ok h) [] [] ((tOp op).flat.length + 1) (by omega)
    simpa [endE] using this
theorem fitA (s : List UInt8) (i j : Nat) : Fit s tLa i j ↔ ∃ c, s[i]? = some c ∧ kA.has c.toNat = true ∧ j = i + 1 := by
  simp only [Fit, if_true]
theorem fitA_yes {s : List UInt8} {i : Nat} (h : s[i]? = some 97) : Fit s tLa i (i + 1) := (fitA s i _).2 ⟨97, h, kA_ok.2, rfl⟩
theorem fitA_no {s : List UInt8} {i j : Nat} (h : s[i]? = some 98) : ¬ Fit s tLa i j := fun hf => by
  obtain ⟨c, hc, hh, _⟩ := (fitA s i j).1 hf
  rw [h] at hc
  obtain rfl := Option.some.inj hc
  have := kA_not.2.2
  rw [show (98 : UInt8).toNat = 98 from rfl, this] at hh
  cases hh
theorem fitA_out {s : List UInt8} {i j : Nat} (h : s.length ≤ i) : ¬ Fit s tLa i j := fun hf => by
  obtain ⟨c, hc, _⟩ := (fitA s i j).1 hf
  rw [List.getElem?_eq_none h] at hc
  cases hc
theorem fit5 (s : List UInt8) (i j : Nat) : Fit s (tOp 5) i j ↔ Str s.length (Fit s tLa) i j := by
  simp only [Fit, if_true]
theorem fit6 (s : List UInt8) (i j : Nat) : Fit s (tOp 6) i j ↔ ∃ k, Fit s tLa i k ∧ Str s.length (Fit s tLa) k j := by
  show (if (6 : Int) = 5 then _ else if (6 : Int) = 6 then _ else _) ↔ _
  rw [if_neg (by decide), if_pos rfl]
/-- What goes on in steps that end at M at most, ends there at most. -/
theorem str_most {N M : Nat} {R : Nat → Nat → Prop} (h : ∀ i j, R i j → j ≤ M) {i j : Nat} (hs : Str N R i j) : i ≤ M → j ≤ M := by
  induction hs with
  | nil i hi => exact id
  | cons i k j h1 _ ih => exact fun _ => ih (h i k h1)
theorem found_aa : FndR [97, 97] tLa 1 (some (1, 2)) :=
  ⟨Nat.le_refl _, fun k h1 h2 => by omega, fitA_yes rfl, fun c hc => (fit_le _ _ _ _ hc).2⟩
theorem found_baab : FndR [98, 97, 97, 98] (tOp 6) 0 (some (1, 3)) := by
  refine ⟨by omega, fun k _ h2 j hj => ?_, ?_, fun c hc => ?_⟩
  · obtain rfl : k = 0 := by omega
    obtain ⟨m, hm, _⟩ := (fit6 _ _ _).1 hj
    exact fitA_no rfl hm
  · exact (fit6 _ _ _).2 ⟨2, fitA_yes rfl, .cons 2 3 3 (fitA_yes rfl) (.nil 3 (by decide))⟩
  · obtain ⟨m, hm, hs⟩ := (fit6 _ _ _).1 hc
    obtain ⟨_, _, _, rfl⟩ := (fitA _ _ _).1 hm
    refine str_most (M := 3) (fun i j hij => ?_) hs (by omega)
    obtain ⟨d, hd, _, rfl⟩ := (fitA _ _ _).1 hij
    rcases Nat.lt_or_ge i 3 with h1 | h1
    · omega
    · rcases Nat.eq_or_lt_of_le h1 with rfl | h1
      · exact absurd hij (fitA_no rfl)
      · exact absurd hij (fitA_out (by simp; omega))
theorem found_ba : AllR [98, 97] (tOp 5) 0 [(0, 0), (1, 2), (2, 2)] := by
  refine .cons 0 (0, 0) _ ⟨Nat.le_refl _, fun k h1 h2 => by omega, (fit5 _ _ _).2 (.nil 0 (by decide)), fun c hc => ?_⟩ (.cons 1 (1, 2) _ ⟨Nat.le_refl _, fun k h1 h2 => (by omega), (fit5 _ _ _).2 (.cons 1 2 2 (fitA_yes rfl) (.nil 2 (by decide))), fun c hc => (fit_le _ _ _ _ hc).2⟩ (.cons 2 (2, 2) _ ⟨Nat.le_refl _, fun k h1 h2 => (by omega), (fit5 _ _ _).2 (.nil 2 (by decide)), fun c hc => (fit_le _ _ _ _ hc).2⟩ (.nil 3 (FndR.out (by decide)))))
  have hs := (fit5 _ _ _).1 hc
  cases hs with
  | nil _ _ => exact Nat.le_refl _
  | cons _ k _ h1 _ => exact absurd h1 (fitA_no rfl)
end Go.Proofs.YtlejbnmeeonblaaDoor
