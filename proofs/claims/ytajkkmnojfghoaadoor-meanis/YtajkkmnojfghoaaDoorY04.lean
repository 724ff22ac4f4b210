/- What a pattern fits, in a text, from a place to another one; the laws of it. Lists of numbers in memory. Small facts on lists of nodes in memory. What the document asks of package mean. What the document asks of package mean's Yes. Sets of places in memory: rows of bools. What the document's own functions answer: joined. What the document's own functions (package winnowfanref1) answer: In, With, OfText, Others, Count. -/
import Derived.Test.YtajkkmnojfghoaaDoorY03
import Derived.Test.YtajkkmnojfghoaaDoorY02
import Derived.OwnWalk
import Derived.KernelRfl
import Derived.Test.YtajkkmnojfghoaaDoorY01
namespace Go.Proofs.YtajkkmnojfghoaaDoor
set_option linter.unusedSimpArgs false
set_option linter.unusedVariables false
set_option maxRecDepth 100000
open Go.RowKit

/-- As often as one likes, within N. -/
inductive Str (N : Nat) (R : Nat → Nat → Prop) : Nat → Nat → Prop
  | nil (i : Nat) : i ≤ N → Str N R i i
  | cons (i k j : Nat) : R i k → Str N R k j → Str N R i j
/-- A pattern fits a text from i to j. -/
def Fit (s : List UInt8) : Rx → Nat → Nat → Prop
  | .leaf n, i, j => if n.op = 1 then ∃ c, s[i]? = some c ∧ n.c.has c.toNat = true ∧ j = i + 1 else if n.op = 8 then i = 0 ∧ j = 0 else if n.op = 9 then i = s.length ∧ j = s.length else i = j ∧ i ≤ s.length
  | .one n a, i, j => if n.op = 5 then Str s.length (Fit s a) i j else if n.op = 6 then ∃ k, Fit s a i k ∧ Str s.length (Fit s a) k j else (i = j ∧ i ≤ s.length) ∨ Fit s a i j
  | .two n a b, i, j => if n.op = 3 then ∃ k, Fit s a i k ∧ Fit s b k j else Fit s a i j ∨ Fit s b i j
theorem Str.le {N : Nat} {R : Nat → Nat → Prop} (h : ∀ i j, R i j → i ≤ j ∧ j ≤ N) : ∀ {i j : Nat}, Str N R i j → i ≤ j ∧ j ≤ N := by
  intro i j hs
  induction hs with
  | nil i hi => exact ⟨Nat.le_refl _, hi⟩
  | cons i k j h1 _ ih => exact ⟨Nat.le_trans (h i k h1).1 ih.1, ih.2⟩
theorem fit_le (s : List UInt8) : ∀ (t : Rx) (i j : Nat), Fit s t i j → i ≤ j ∧ j ≤ s.length
  | .leaf n, i, j, h => by
    unfold Fit at h
    split at h
    · obtain ⟨c, h1, _, rfl⟩ := h
      have : i < s.length := by
        rcases Nat.lt_or_ge i s.length with h' | h'
        · exact h'
        · rw [List.getElem?_eq_none h'] at h1; cases h1
      omega
    · split at h
      · omega
      · split at h <;> omega
  | .one n a, i, j, h => by
    unfold Fit at h
    split at h
    · exact Str.le (fit_le s a) h
    · split at h
      · obtain ⟨k, h1, h2⟩ := h
        have := fit_le s a i k h1
        have := Str.le (fit_le s a) h2
        omega
      · rcases h with h | h
        · omega
        · exact fit_le s a i j h
  | .two n a b, i, j, h => by
    unfold Fit at h
    split at h
    · obtain ⟨k, h1, h2⟩ := h
      have := fit_le s a i k h1
      have := fit_le s b k j h2
      omega
    · rcases h with h | h
      · exact fit_le s a i j h
      · exact fit_le s b i j h
/-- What fits from a place to itself may be nothing. -/
theorem fit_self (s : List UInt8) : ∀ (t : Rx) (i : Nat), Fit s t i i → t.emp = true
  | .leaf n, i, h => by
    unfold Fit at h
    unfold Rx.emp
    split at h
    · obtain ⟨c, _, _, h⟩ := h; omega
    · rename_i h1; simp [h1]
  | .one n a, i, h => by
    unfold Fit at h
    unfold Rx.emp
    split at h
    · rename_i h5; simp [h5]
    · split at h
      · rename_i h6
        rw [if_pos h6]
        obtain ⟨k, h1, h2⟩ := h
        have q1 := fit_le s a i k h1
        have q2 := Str.le (fit_le s a) h2
        obtain rfl : k = i := by omega
        exact fit_self s a k h1
      · rename_i h6; rw [if_neg h6]
  | .two n a b, i, h => by
    unfold Fit at h
    unfold Rx.emp
    split at h
    · rename_i h3
      rw [if_pos h3]
      obtain ⟨k, h1, h2⟩ := h
      have q1 := fit_le s a i k h1
      have q2 := fit_le s b k i h2
      obtain rfl : k = i := by omega
      rw [fit_self s a k h1, fit_self s b k h2]; rfl
    · rename_i h3
      rw [if_neg h3]
      rcases h with h | h
      · rw [fit_self s a i h]; rfl
      · rw [fit_self s b i h]; simp
theorem Str.trans {N : Nat} {R : Nat → Nat → Prop} {i j k : Nat} (h1 : Str N R i j) (h2 : Str N R j k) : Str N R i k := by
  induction h1 with
  | nil => exact h2
  | cons i m j h _ ih => exact .cons i m k h (ih h2)
theorem Str.mono {N : Nat} {R Q : Nat → Nat → Prop} (h : ∀ i j, R i j → Q i j) {i j : Nat} (hs : Str N R i j) : Str N Q i j := by
  induction hs with
  | nil i hi => exact .nil i hi
  | cons i k j h1 _ ih => exact .cons i k j (h i k h1) ih
theorem Str.one {N : Nat} {R : Nat → Nat → Prop} (h : ∀ i j, R i j → i ≤ j ∧ j ≤ N) {i j : Nat} (hr : R i j) : Str N R i j := .cons i j j hr (.nil j (h i j hr).2)
/-- A star of a star is the star. -/
theorem Str.flat {N : Nat} {R : Nat → Nat → Prop} {i j : Nat} (hs : Str N (Str N R) i j) : Str N R i j := by
  induction hs with
  | nil i hi => exact .nil i hi
  | cons i k j h1 _ ih => exact h1.trans ih
/-- The other way round. -/
theorem Str.turn {N : Nat} {R Q : Nat → Nat → Prop} (h : ∀ i j, R i j → i ≤ j ∧ j ≤ N) (hq : ∀ i j, R i j → Q (N - j) (N - i)) {i j : Nat} (hs : Str N R i j) : Str N Q (N - j) (N - i) := by
  induction hs with
  | nil i hi => exact .nil _ (by omega)
  | cons i k j h1 hs ih =>
    refine ih.trans (.cons _ (N - i) _ (hq i k h1) (.nil _ (by omega)))
theorem get_rev (s : List UInt8) (i : Nat) (h : i < s.length) : s.reverse[s.length - (i + 1)]? = s[i]? := by
  rw [List.getElem?_reverse (by omega)]
  congr 1
  omega
theorem fit_turn (s : List UInt8) : ∀ (t : Rx), t.Ok → ∀ (i j : Nat), Fit s t i j → Fit s.reverse t.turn (s.length - j) (s.length - i)
  | .leaf n, ht, i, j, h => by
    have hle := fit_le s _ i j h
    unfold Fit at h
    unfold Rx.turn Fit
    rw [List.length_reverse]
    by_cases h1 : n.op = 1
    · rw [if_pos h1] at h
      rw [if_pos (show n.flip.op = 1 from (flip_eq 1 (by decide) (by decide)).2 h1)]
      obtain ⟨c, hc, hk, rfl⟩ := h
      refine ⟨c, ?_, hk, by omega⟩
      rw [get_rev s i (by omega)]
      exact hc
    · rw [if_neg h1] at h
      rw [if_neg (show ¬ n.flip.op = 1 from fun e => h1 ((flip_eq 1 (by decide) (by decide)).1 e))]
      by_cases h8 : n.op = 8
      · rw [if_pos h8] at h
        rw [if_neg (show ¬ n.flip.op = 8 from by simp [Nd.flip, flipOp, h8]), if_pos (show n.flip.op = 9 from by simp [Nd.flip, flipOp, h8])]
        omega
      · rw [if_neg h8] at h
        by_cases h9 : n.op = 9
        · rw [if_pos h9] at h
          rw [if_pos (show n.flip.op = 8 from by simp [Nd.flip, flipOp, h9])]
          omega
        · rw [if_neg h9] at h
          rw [if_neg (show ¬ n.flip.op = 8 from by simp [Nd.flip, flipOp, h8, h9]), if_neg (show ¬ n.flip.op = 9 from by simp [Nd.flip, flipOp, h8, h9])]
          omega
  | .one n a, ht, i, j, h => by
    have hle := fit_le s _ i j h
    unfold Fit at h
    unfold Rx.turn Fit
    rw [List.length_reverse]
    have ih := fit_turn s a ht.2
    by_cases h5 : n.op = 5
    · rw [if_pos h5] at h
      rw [if_pos (show n.flip.op = 5 from (flip_eq 5 (by decide) (by decide)).2 h5)]
      exact Str.turn (fit_le s a) ih h
    · rw [if_neg h5] at h
      rw [if_neg (show ¬ n.flip.op = 5 from fun e => h5 ((flip_eq 5 (by decide) (by decide)).1 e))]
      by_cases h6 : n.op = 6
      · rw [if_pos h6] at h
        rw [if_pos (show n.flip.op = 6 from (flip_eq 6 (by decide) (by decide)).2 h6)]
        obtain ⟨k, h1, h2⟩ := h
        have key : ∀ {x y : Nat}, Str s.length (Fit s.reverse a.turn) x y → ∀ z, Fit s.reverse a.turn y z → ∃ m, Fit s.reverse a.turn x m ∧ Str s.length (Fit s.reverse a.turn) m z := by
          intro x y hxy
          have hr : ∀ i j, Fit s.reverse a.turn i j → i ≤ j ∧ j ≤ s.length := fun i j h => by have := fit_le s.reverse a.turn i j h; rw [List.length_reverse] at this; exact this
          induction hxy with
          | nil x hx => intro z hz; exact ⟨z, hz, .nil z (hr _ _ hz).2⟩
          | cons x m y hx _ ih2 =>
            intro z hz
            obtain ⟨m', h3, h4⟩ := ih2 z hz
            exact ⟨m, hx, .cons m m' z h3 h4⟩
        exact key (Str.turn (fit_le s a) ih h2) _ (ih i k h1)
      · rw [if_neg h6] at h
        rw [if_neg (show ¬ n.flip.op = 6 from fun e => h6 ((flip_eq 6 (by decide) (by decide)).1 e))]
        rcases h with h | h
        · exact Or.inl (by omega)
        · exact Or.inr (ih i j h)
  | .two n a b, ht, i, j, h => by
    have hle := fit_le s _ i j h
    unfold Fit at h
    unfold Rx.turn
    have iha := fit_turn s a ht.2.1
    have ihb := fit_turn s b ht.2.2
    by_cases h3 : n.op = 3
    · rw [if_pos h3] at h ⊢
      unfold Fit
      rw [if_pos (show n.flip.op = 3 from (flip_eq 3 (by decide) (by decide)).2 h3)]
      obtain ⟨k, h1, h2⟩ := h
      exact ⟨s.length - k, ihb k j h2, iha i k h1⟩
    · rw [if_neg h3] at h ⊢
      unfold Fit
      rw [if_neg (show ¬ n.flip.op = 3 from fun e => h3 ((flip_eq 3 (by decide) (by decide)).1 e))]
      rcases h with h | h
      · exact Or.inl (iha i j h)
      · exact Or.inr (ihb i j h)
/-- BACKWARDS IT FITS BACKWARDS. -/
theorem fit_turn_iff (s : List UInt8) (t : Rx) (ht : t.Ok) (i j : Nat) (hi : i ≤ s.length) (hj : j ≤ s.length) : Fit s t i j ↔ Fit s.reverse t.turn (s.length - j) (s.length - i) := by
  constructor
  · exact fit_turn s t ht i j
  · intro h
    have := fit_turn s.reverse t.turn (Rx.turn_ok t ht) _ _ h
    rw [List.reverse_reverse, Rx.turn_turn, List.length_reverse] at this
    rw [show s.length - (s.length - i) = i by omega, show s.length - (s.length - j) = j by omega] at this
    exact this
/-- The places to which it fits, rising. -/
def EndsR (s : List UInt8) (t : Rx) (i : Nat) (l : List Nat) : Prop := l.Pairwise (· < ·) ∧ ∀ j, j ∈ l ↔ Fit s t i j
theorem ends_total (s : List UInt8) (t : Rx) (i : Nat) : ∃ l, EndsR s t i l := by
  refine ⟨(List.range (s.length + 1)).filter fun j => @decide (Fit s t i j) (Classical.propDecidable _), List.Pairwise.filter _ List.pairwise_lt_range, fun j => ?_⟩
  rw [List.mem_filter, List.mem_range, @decide_eq_true_iff (Fit s t i j) (Classical.propDecidable _)]
  exact ⟨fun h => h.2, fun h => ⟨by have := fit_le s t i j h; omega, h⟩⟩
theorem rise_eq : ∀ (x y : List Nat), x.Pairwise (· < ·) → y.Pairwise (· < ·) → (∀ j, j ∈ x ↔ j ∈ y) → x = y
  | [], [], _, _, _ => rfl
  | [], b :: y, _, _, h => by have := (h b).2 (by simp); simp at this
  | a :: x, [], _, _, h => by have := (h a).1 (by simp); simp at this
  | a :: x, b :: y, hx, hy, h => by
    rw [List.pairwise_cons] at hx hy
    have hab : a = b := by
      have h1 := (h a).1 (by simp)
      have h2 := (h b).2 (by simp)
      rw [List.mem_cons] at h1 h2
      rcases h1 with h1 | h1
      · exact h1
      · rcases h2 with h2 | h2
        · exact h2.symm
        · have := hx.1 b h2
          have := hy.1 a h1
          omega
    subst hab
    have : x = y := rise_eq x y hx.2 hy.2 (fun j => by
      have hj := h j
      rw [List.mem_cons, List.mem_cons] at hj
      constructor
      · intro hm
        have := hx.1 j hm
        rcases hj.1 (Or.inr hm) with e | e
        · omega
        · exact e
      · intro hm
        have := hy.1 j hm
        rcases hj.2 (Or.inr hm) with e | e
        · omega
        · exact e)
    rw [this]
theorem EndsR.same {s : List UInt8} {t u : Rx} {i : Nat} {x y : List Nat} (hx : EndsR s t i x) (hy : EndsR s u i y) (h : ∀ j, Fit s t i j ↔ Fit s u i j) : x = y :=
  rise_eq x y hx.1 hy.1 fun j => (hx.2 j).trans ((h j).trans (hy.2 j).symm)
theorem EndsR.le {s : List UInt8} {t : Rx} {i : Nat} {x : List Nat} (hx : EndsR s t i x) : ∀ j ∈ x, i ≤ j ∧ j ≤ s.length := fun j hj => fit_le s t i j ((hx.2 j).1 hj)
theorem rise_len : ∀ (x : List Nat) (n m : Nat), x.Pairwise (· < ·) → (∀ j ∈ x, n ≤ j ∧ j < m) → n + x.length ≤ m ∨ x = []
  | [], _, _, _, _ => Or.inr rfl
  | a :: x, n, m, h, hb => by
    left
    rw [List.pairwise_cons] at h
    have ha := hb a (by simp)
    rcases rise_len x (a + 1) m h.2 (fun j hj => ⟨h.1 j hj, (hb j (by simp [hj])).2⟩) with h1 | h1
    · simp; omega
    · subst h1; simp; omega
theorem EndsR.len {s : List UInt8} {t : Rx} {i : Nat} {x : List Nat} (hx : EndsR s t i x) : x.length ≤ s.length + 1 := by
  rcases rise_len x 0 (s.length + 1) hx.1 (fun j hj => by have := hx.le j hj; omega) with h | h
  · omega
  · rw [h]; simp
/-- All of it is fitted just if the last end is its length. -/
theorem EndsR.all {s : List UInt8} {t : Rx} {i : Nat} {x : List Nat} (hx : EndsR s t i x) : x.getLast? = some s.length ↔ Fit s t i s.length := by
  rw [← hx.2]
  constructor
  · intro h; exact List.mem_of_getLast? h
  · intro h
    obtain ⟨l, b, e⟩ := List.append_of_mem h
    cases b with
    | nil => rw [e]; simp
    | cons c b =>
      exfalso
      have h1 := hx.1
      rw [e] at h1
      have h2 := (List.pairwise_append.1 h1).2.1
      rw [List.pairwise_cons] at h2
      have h3 := h2.1 c (by simp)
      have h4 := hx.le c (by rw [e]; simp)
      omega
end Go.Proofs.YtajkkmnojfghoaaDoor
namespace Go.Proofs.YtajkkmnojfghoaaDoor
set_option linter.unusedSimpArgs false
set_option linter.unusedVariables false
set_option maxRecDepth 100000
open Go.RowKit
/-- The numbers l lie in block b from off on. -/
def IsAt (w : World) (b off : Nat) (l : List Nat) : Prop := ∀ (i x : Nat), l[i]? = some x → w.cell? ⟨b, off + i, none⟩ = some (.int .i64 (x : Int))
/-- A slice that reads as the numbers l. -/
def IsIn (w : World) (v : Value) (l : List Nat) : Prop := ∃ a cap, v = .slice a l.length cap ∧ l.length ≤ maxLen ∧ (l = [] ∨ ∃ b off, a = some ⟨b, off, none⟩ ∧ b < w.heap.size ∧ IsAt w b off l)
theorem IsAt.below {w w' : World} {B b off : Nat} {l : List Nat} (h : IsAt w b off l) (hb : Below B w w') (hlt : b < B) : IsAt w' b off l :=
  fun i n hn => (hb.cell (p := ⟨b, _, none⟩) hlt).trans (h i n hn)
theorem IsIn.below {w w' : World} {v : Value} {l : List Nat} (h : IsIn w v l) (hb : Below w.heap.size w w') : IsIn w' v l := by
  obtain ⟨a, cap, rfl, hm, h | ⟨b, off, rfl, hlt, hn⟩⟩ := h
  · exact ⟨a, cap, rfl, hm, Or.inl h⟩
  · exact ⟨_, cap, rfl, hm, Or.inr ⟨b, off, rfl, Nat.lt_of_lt_of_le hlt hb.size, hn.below hb hlt⟩⟩
theorem isIn_nil (w : World) : IsIn w (.slice none 0 0) [] := ⟨none, 0, rfl, by simp, Or.inl rfl⟩
theorem isIn_form {w : World} {v : Value} {l : List Nat} (h : IsIn w v l) : ∃ a cap, v = .slice a l.length cap ∧ l.length ≤ maxLen := by
  obtain ⟨a, cap, h1, h2, _⟩ := h
  exact ⟨a, cap, h1, h2⟩
theorem drop_at {α : Type} (x : List α) (i : Nat) (n : α) (hn : x[i]? = some n) : x.drop i = n :: x.drop (i + 1) := by
  have hi : i < x.length := by
    rcases Nat.lt_or_ge i x.length with h | h
    · exact h
    · rw [List.getElem?_eq_none h] at hn; cases hn
  rw [List.drop_eq_getElem_cons hi]
  rw [List.getElem?_eq_getElem hi] at hn
  rw [Option.some.inj hn]
/-- New memory of numbers. -/
theorem is_new (w : World) (l : List Nat) (o : Obj) (ho : o = .cells (l.map fun x : Nat => Value.int .i64 (x : Int)).toArray 3 (0, 0)) (hm : l.length ≤ maxLen) : IsIn (w.alloc o) (.slice (some ⟨w.heap.size, 0, none⟩) l.length l.length) l := by
  refine ⟨_, _, rfl, hm, Or.inr ⟨w.heap.size, 0, rfl, by simp, fun i x hx => ?_⟩⟩
  subst ho
  rw [World.cell?_alloc_at (w := w) _ _ w.heap.size (0 + i) rfl]
  simp [hx]
end Go.Proofs.YtajkkmnojfghoaaDoor
namespace Go.Proofs.YtajkkmnojfghoaaDoor
set_option linter.unusedSimpArgs false
set_option linter.unusedVariables false
set_option maxRecDepth 100000
open Go.RowKit

theorem nsIn_nil (w : World) : NsIn w (.slice none 0 0) [] := ⟨none, 0, rfl, by simp, Or.inl rfl⟩
theorem nsIn_form {w : World} {v : Value} {ns : List Nd} (h : NsIn w v ns) : ∃ a cap, v = .slice a ns.length cap ∧ ns.length ≤ maxLen := by
  obtain ⟨a, cap, h1, h2, _⟩ := h
  exact ⟨a, cap, h1, h2⟩
theorem nsEq_refl (x : List Nd) : nsEq x x = true := (nsEq_iff x x).2 rfl
end Go.Proofs.YtajkkmnojfghoaaDoor
namespace Go.Proofs.YtajkkmnojfghoaaDoor
set_option linter.unusedSimpArgs false
set_option linter.unusedVariables false
set_option maxRecDepth 100000
open Go.RowKit
/-- What is wrong with a pattern or a text of n bytes. -/
def meanF (ns : List Nd) (n : Nat) : Int := if faultL ns = 0 then (if 400 < n then 3 else 0) else faultL ns
/-- What is wrong with them or a place. -/
def meanE (ns : List Nd) (n : Nat) (i : Int) : Int := if meanF ns n = 0 then (if 0 ≤ i ∧ i ≤ n then 0 else 1) else meanF ns n
theorem meanF_zero (ns : List Nd) (n : Nat) : meanF ns n = 0 ↔ faultL ns = 0 ∧ n ≤ 400 := by
  unfold meanF
  by_cases h : faultL ns = 0
  · rw [if_pos h]
    by_cases h4 : 400 < n
    · rw [if_pos h4]; simp; omega
    · rw [if_neg h4]; simp [h]; omega
  · rw [if_neg h]; simp [h]
theorem meanE_zero (ns : List Nd) (n : Nat) (i : Int) : meanE ns n i = 0 ↔ faultL ns = 0 ∧ n ≤ 400 ∧ 0 ≤ i ∧ i ≤ n := by
  unfold meanE
  by_cases h : meanF ns n = 0
  · rw [if_pos h]
    obtain ⟨h1, h2⟩ := (meanF_zero ns n).1 h
    by_cases h3 : 0 ≤ i ∧ i ≤ n
    · rw [if_pos h3]; simp [h1, h2, h3]
    · rw [if_neg h3]; simp [h1, h2]; omega
  · rw [if_neg h]
    constructor
    · intro h'; exact absurd h' h
    · rintro ⟨h1, h2, _⟩; exact absurd ((meanF_zero ns n).2 ⟨h1, h2⟩) h
/-- What the document asks of Ends. -/
structure MeanN : Prop where
  bad : ∀ ns v (s : ByteArray) (i : Int) w, NsIn w v ns → (∀ n ∈ ns, n.wf) → s.size ≤ maxLen → ¬ meanE ns s.size i = 0 → Calls Tryd.prog 37 #[v, .string s, .int .i64 i] w fun e w' => ∃ u, e = .returned (.tuple #[u, errV (meanE ns s.size i)]) ∧ Below w.heap.size w w' ∧ IsIn w' u []
  ends : ∀ (t : Rx) v (s : ByteArray) (i : Nat) l w, Tab w → t.Ok → NsIn w v t.flat → (∀ n ∈ t.flat, n.wf) → meanE t.flat s.size i = 0 → EndsR s.data.toList t i l → Calls Tryd.prog 37 #[v, .string s, .int .i64 (i : Int)] w fun e w' => ∃ u, e = .returned (.tuple #[u, .nilIface]) ∧ Below w.heap.size w w' ∧ IsIn w' u l
end Go.Proofs.YtajkkmnojfghoaaDoor
namespace Go.Proofs.YtajkkmnojfghoaaDoor
set_option linter.unusedSimpArgs false
set_option linter.unusedVariables false
set_option maxRecDepth 100000
open Go.RowKit
/-- What the document asks of Yes. -/
structure MeanY : Prop where
  bad : ∀ ns v (s : ByteArray) w, NsIn w v ns → (∀ n ∈ ns, n.wf) → s.size ≤ maxLen → ¬ meanF ns s.size = 0 → Calls Tryd.prog 39 #[v, .string s] w fun e w' => e = .returned (.tuple #[.bool false, errV (meanF ns s.size)]) ∧ Below w.heap.size w w'
  yes : ∀ (t : Rx) v (s : ByteArray) (y : Bool) w, Tab w → t.Ok → NsIn w v t.flat → (∀ n ∈ t.flat, n.wf) → meanF t.flat s.size = 0 → (y = true ↔ Fit s.data.toList t 0 s.size) → Calls Tryd.prog 39 #[v, .string s] w fun e w' => e = .returned (.tuple #[.bool y, .nilIface]) ∧ Below w.heap.size w w'
end Go.Proofs.YtajkkmnojfghoaaDoor
namespace Go.Proofs.YtajkkmnojfghoaaDoor
set_option linter.unusedSimpArgs false
set_option linter.unusedVariables false
set_option maxRecDepth 100000
open Go.RowKit
/-- The places 0 to N of A lie in block b from off on. -/
def BsAt (w : World) (b off N : Nat) (A : Nat → Bool) : Prop := ∀ i, i ≤ N → w.cell? ⟨b, off + i, none⟩ = some (.bool (A i))
/-- A slice that reads as the places of A. -/
def BsIn (w : World) (v : Value) (N : Nat) (A : Nat → Bool) : Prop := ∃ b off cap, v = .slice (some ⟨b, off, none⟩) (N + 1) cap ∧ b < w.heap.size ∧ BsAt w b off N A
theorem BsAt.below {w w' : World} {B b off N : Nat} {A : Nat → Bool} (h : BsAt w b off N A) (hb : Below B w w') (hlt : b < B) : BsAt w' b off N A :=
  fun i hi => (hb.cell (p := ⟨b, _, none⟩) hlt).trans (h i hi)
theorem BsIn.below {w w' : World} {v : Value} {N : Nat} {A : Nat → Bool} (h : BsIn w v N A) (hb : Below w.heap.size w w') : BsIn w' v N A := by
  obtain ⟨b, off, cap, rfl, hlt, h⟩ := h
  exact ⟨b, off, cap, rfl, Nat.lt_of_lt_of_le hlt hb.size, h.below hb hlt⟩
def rowB (N : Nat) (A : Nat → Bool) : Array Value := ((List.range (N + 1)).map fun i => Value.bool (A i)).toArray
def upd (A : Nat → Bool) (i : Nat) (x : Bool) : Nat → Bool := fun j => if j = i then x else A j
/-- Block b is a row of the places of A. -/
def BsRow (w : World) (b N : Nat) (A : Nat → Bool) : Prop := w.heap[b]? = some (.cells (rowB N A) 4 (0, 0))
theorem BsRow.lt {w : World} {b N : Nat} {A : Nat → Bool} (h : BsRow w b N A) : b < w.heap.size := by
  rcases Nat.lt_or_ge b w.heap.size with h' | h'
  · exact h'
  · simp [BsRow, Array.getElem?_eq_none h'] at h
theorem rowB_at (N : Nat) (A : Nat → Bool) (i : Nat) (h : i ≤ N) : (rowB N A)[i]? = some (.bool (A i)) := by
  simp [rowB, List.getElem?_range (show i < N + 1 by omega)]
theorem BsRow.at {w : World} {b N : Nat} {A : Nat → Bool} (h : BsRow w b N A) : BsAt w b 0 N A := by
  intro i hi
  rw [Lib.cell_of_heap h, Nat.zero_add, rowB_at N A i hi]
theorem BsRow.isIn {w : World} {b N : Nat} {A : Nat → Bool} (h : BsRow w b N A) (cap : Nat) : BsIn w (.slice (some ⟨b, 0, none⟩) (N + 1) cap) N A := ⟨b, 0, cap, rfl, h.lt, h.at⟩
theorem BsRow.free {w : World} {b N : Nat} {A : Nat → Bool} (h : BsRow w b N A) (i : Nat) : w.frozen? ⟨b, i, none⟩ = false := Lib.frozen_of_heap h i
theorem rowB_set (N : Nat) (A : Nat → Bool) (i : Nat) (x : Bool) : (rowB N A).setIfInBounds i (.bool x) = rowB N (upd A i x) := by
  apply Array.ext_getElem?
  intro j
  rw [Array.getElem?_setIfInBounds]
  by_cases hj : j ≤ N
  · rw [rowB_at N _ j hj, rowB_at N _ j hj]
    by_cases e : i = j
    · subst e
      simp [rowB, upd, hj]
      omega
    · rw [if_neg e]
      simp [upd, Ne.symm e]
  · have h1 : (rowB N A)[j]? = none := Array.getElem?_eq_none (by simp [rowB]; omega)
    have h2 : (rowB N (upd A i x))[j]? = none := Array.getElem?_eq_none (by simp [rowB]; omega)
    rw [h1, h2]
    split
    · rename_i e
      subst e
      rw [if_neg (by simp [rowB]; omega)]
    · rfl
theorem BsRow.set {w : World} {b N : Nat} {A : Nat → Bool} (h : BsRow w b N A) (i : Nat) (x : Bool) : BsRow (w.setCell ⟨b, i, none⟩ (.bool x)) b N (upd A i x) := by
  simp only [BsRow] at h ⊢
  simp [World.setCell, Array.getElem?_modify, h, rowB_set]
theorem BsRow.below {w w' : World} {b N : Nat} {A : Nat → Bool} (h : BsRow w b N A) (hb : Below w.heap.size w w') : BsRow w' b N A := (hb.block b h.lt).trans h
theorem rowB_new (N : Nat) : Array.replicate (N + 1) (Value.bool false) = rowB N fun _ => false := by
  apply Array.ext_getElem?
  intro j
  by_cases hj : j ≤ N
  · rw [rowB_at N _ j hj]
    simp [show j < N + 1 by omega]
  · rw [Array.getElem?_eq_none (by simp; omega), Array.getElem?_eq_none (by simp [rowB]; omega)]
theorem BsRow.new (w : World) (N : Nat) (o : Obj) (ho : o = .cells (Array.replicate (N + 1) (Value.bool false)) 4 (0, 0)) : BsRow (w.alloc o) w.heap.size N fun _ => false := by
  rw [ho, rowB_new]
  show (w.heap.push _)[w.heap.size]? = _
  simp
theorem BsRow.congr {w : World} {b N : Nat} {A B : Nat → Bool} (h : BsRow w b N A) (he : ∀ i, i ≤ N → A i = B i) : BsRow w b N B := by
  have : rowB N A = rowB N B := by
    unfold rowB
    congr 1
    apply List.map_congr_left
    intro i hi
    rw [he i (by have := List.mem_range.1 hi; omega)]
  simp only [BsRow] at h ⊢
  rw [h, this]
theorem BsIn.form {w : World} {v : Value} {N : Nat} {A : Nat → Bool} (h : BsIn w v N A) : ∃ b off cap, v = .slice (some ⟨b, off, none⟩) (N + 1) cap := by
  obtain ⟨b, off, cap, h, _⟩ := h
  exact ⟨b, off, cap, h⟩
end Go.Proofs.YtajkkmnojfghoaaDoor
namespace Go.Proofs.YtajkkmnojfghoaaDoor
set_option linter.unusedSimpArgs false
set_option linter.unusedVariables false
set_option maxRecDepth 100000
open Go.RowKit
theorem made_bools (n : Nat) : madeCells #[Value.bool false] (n * 1) = Array.replicate n (Value.bool false) := by
  apply Array.ext
  · simp [madeCells]
  · intro i h1 h2
    simp [madeCells, Nat.mod_one]
theorem mkB (N : Nat) (hN : N ≤ 1000000) (u : World) : (Instr.makeSlice 95 (.int .i64 ((N : Int) + 1)) (.int .i64 ((N : Int) + 1))).run Tryd.prog u = .ok (.slice (some ⟨u.heap.size, 0, none⟩) (N + 1) (N + 1)) (u.alloc (.cells (rowB N fun _ => false) 4)) := by
  have hinfo : (Tryd.prog.info? 4).map (fun i => (i.zero, i.size, i.bytes)) = some (some (.bool false), 1, 1) := by kernel_rfl
  obtain ⟨i0, hi, hz0, hz1, hz2⟩ := info_parts hinfo
  have h := run_make (P := Tryd.prog) u 95 4 i0 (.bool false) Tryd.underlying95 hi hz0 .i64 .i64 ((N : Int) + 1) ((N : Int) + 1) (by omega) (Int.le_refl _) (by rw [hz2]; omega) (by omega)
  have e : ((N : Int) + 1).toNat = N + 1 := by omega
  rw [e, hz1, show (Value.bool false).cells = #[Value.bool false] from rfl, made_bools, rowB_new] at h
  exact h
theorem BsRow.new' (w : World) (N : Nat) (A : Nat → Bool) : BsRow (w.alloc (.cells (rowB N A) 4)) w.heap.size N A := by
  show (w.heap.push _)[w.heap.size]? = _
  simp
set_option maxHeartbeats 4000000 in
theorem joined_any (N : Nat) (hN : N ≤ 1000000) (A B : Nat → Bool) (v u : Value) (w : World) (hA : BsIn w v N A) (hB : BsIn w u N B) :
    Calls Tryd.prog 83 #[v, u] w fun e w' => ∃ x, e = .returned x ∧ Below w.heap.size w w' ∧ BsIn w' x N fun i => A i || B i := by
  obtain ⟨b1, o1, c1, rfl, l1, hA⟩ := hA
  obtain ⟨b2, o2, c2, rfl, l2, hB⟩ := hB
  have hmk := mkB N hN
  obtain ⟨g, hg⟩ : ∃ g, g = w.heap.size := ⟨_, rfl⟩
  have HNew : Hid (BsRow (w.alloc (.cells (rowB N fun _ => false) 4)) g N fun _ => false) := hg ▸ BsRow.new' w N _
  go_enter Tryd.func83, Tryd.ntmps83
  go_wp2
  rw [← hg]
  have HG := hid hg
  clear hg
  go_loopw [6] (fun v wr => ∃ (i : Nat) (C : Nat → Bool), i ≤ N + 1 ∧ v = .int .i64 i ∧ BsRow wr g N C ∧ Hid (∀ j, C j = (decide (j < i) && (A j || B j))) ∧ Below w.heap.size w wr) (fun v _ => N + 1 - (intOf v).toNat)
  case atStart => exact ⟨0, fun _ => false, by omega, rfl, HNew.out, fun j => by simp, (Below.refl _ _).alloc (Nat.le_refl _) _⟩
  case round =>
    obtain ⟨i, C, hi, rfl, hR, HC, hb⟩ := hrel
    by_cases hil : i < N + 1
    · have a0 := (hA.below hb l1) i (by omega)
      have d0 := (hB.below hb l2) i (by omega)
      have f0 := hR.free i
      have g0 := hR.at i (by omega)
      rw [Nat.zero_add] at g0
      have i0 : (0 : Int) ≤ (i : Int) := by omega
      have i1 : (i : Int) < (N : Int) + 1 := by omega
      cases hx : A i <;> cases hy : B i
      all_goals
        rw [hx] at a0
        rw [hy] at d0
        have HR := hid (hR.set i (A i || B i))
        rw [hx, hy] at HR
        have HC2 : Hid (∀ j, upd C i (A i || B i) j = (decide (j < i + 1) && (A j || B j))) := by
          intro j
          unfold upd
          split
          · rename_i e; subst e; simp
          · rename_i e; rw [HC.out j]; congr 1; exact decide_eq_decide.2 (by omega)
        rw [hx, hy] at HC2
        have HB := hid (hb.setCell (p := ⟨g, i, none⟩) (by simp [HG.out]) (.bool (A i || B i)))
        rw [hx, hy] at HB
        clear hx hy hb hR
        go_wp2
        exact ⟨⟨i + 1, _, by omega, by go_num, HR.out, HC2, HB.out⟩, by simp [intOf]; omega⟩
    · go_wp2
      go_ret
      refine ⟨_, rfl, hb, (hR.congr fun j hj => ?_).isIn _⟩
      rw [HC.out j, decide_eq_true (by omega), Bool.true_and]
end Go.Proofs.YtajkkmnojfghoaaDoor
namespace Go.Proofs.YtajkkmnojfghoaaDoor
set_option linter.unusedSimpArgs false
set_option linter.unusedVariables false
open Go.RowKit

theorem half_step (m i : Nat) : ((m / 2 ^ i : Nat) : Int) / 2 = ((m / 2 ^ (i + 1) : Nat) : Int) := by
  rw [Nat.pow_succ, ← Nat.div_div_eq_div_mul]
  omega
theorem tb_mod (m j : Nat) : (((m / 2 ^ j : Nat) : Int) % 2 == 1) = m.testBit j := by
  rw [tb_eq]
  generalize m / 2 ^ j = z
  by_cases h : z % 2 = 1
  · rw [h]
    have : (z : Int) % 2 = 1 := by omega
    rw [this]; rfl
  · have : ¬ (z : Int) % 2 = 1 := by omega
    simp only [h, decide_false]
    rw [beq_eq_false_iff_ne]
    exact this

theorem wrap_half (z : Nat) (h : z < 18446744073709551616) : Value.int IntKind.u64 (IntKind.u64.wrap ((z : Int) / 2)) = Value.int IntKind.u64 ((z / 2 : Nat) : Int) := by
  have e : (z : Int) / 2 = ((z / 2 : Nat) : Int) := by omega
  rw [e, u64_small _ (by omega)]
theorem wrap_twice (z : Nat) (h : z * 2 < 18446744073709551616) : Value.int IntKind.u64 (IntKind.u64.wrap ((z : Int) * 2)) = Value.int IntKind.u64 ((z * 2 : Nat) : Int) := by
  have e : (z : Int) * 2 = ((z * 2 : Nat) : Int) := by omega
  rw [e, u64_small _ h]
set_option maxHeartbeats 400000 in
theorem in_walk (k : C4) (x : Int) (h0 : 0 ≤ x) (hb : x < 256) (m : Nat) (hm : k.w (x / 64).toNat = (m : Int)) (hml : m < 18446744073709551616) (w : World) :
    Calls Tryd.prog 21 #[k.v, .int .i64 x] w fun e w' => e = .returned (.bool (m.testBit (x % 64).toNat)) ∧ Below w.heap.size w w' := by
  have hw := k.get (x / 64).toNat (by omega)
  rw [hm] at hw
  have HL := (show Hid _ from hml)
  clear hm hml
  go_enter Tryd.func21, Tryd.ntmps21
  go_wp2
  go_loop [5, 6] (fun n i => ∃ j z : Nat, (j : Int) ≤ x % 64 ∧ Hid (z = m / 2 ^ j) ∧ i = .int .i64 j ∧ n = .int .u64 (z : Int)) (fun _ i => (x % 64).toNat - (intOf i).toNat)
  case atStart => exact ⟨0, m, by omega, by show m = m / 2 ^ 0; simp, rfl, rfl⟩
  case round =>
    obtain ⟨j, z, hj, HZ, rfl, rfl⟩ := hrel
    by_cases hlt : (j : Int) < x % 64
    · go_wp2
      go_round
      case rel =>
        have hz : z < 18446744073709551616 := by rw [HZ.out]; exact Nat.lt_of_le_of_lt (Nat.div_le_self _ _) HL.out
        exact ⟨j + 1, z / 2, by omega, by show _ = _; rw [HZ.out, Nat.pow_succ, ← Nat.div_div_eq_div_mul], by go_num, wrap_half z hz⟩
      case measure => simp [intOf]; omega
    · have hj2 : (x % 64).toNat = j := by omega
      have HJ := (show Hid _ from hj2)
      clear hj2
      go_wp2
      go_ret
      refine ⟨?_, (Below.refl _ _).alloc (Nat.le_refl _) _⟩
      show Ending.returned (.bool ((z : Int) % 2 == 1)) = _
      rw [HJ.out, ← tb_mod, ← HZ.out]
theorem in_any (k : C4) (hk : k.ok) (b : Nat) (hb : b < 256) (w : World) :
    Calls Tryd.prog 21 #[k.v, .int .i64 b] w fun e w' => e = .returned (.bool (k.has b)) ∧ Below w.heap.size w w' := by
  obtain ⟨m, hm, hl⟩ := okW_nat (C4.ok_w hk (b / 64))
  have e1 : ((b : Int) / 64).toNat = b / 64 := by omega
  have e2 : ((b : Int) % 64).toNat = b % 64 := by omega
  have h := in_walk k b (by omega) (by omega) m (by rw [e1]; exact hm) hl w
  rw [e2] at h
  have e3 : k.has b = m.testBit (b % 64) := by unfold C4.has; rw [hm, Int.toNat_natCast]
  rw [e3]
  exact h

/-! With: a byte more -/
theorem add_is_or (x j : Nat) (h : x.testBit j = false) : x + 2 ^ j = x ||| 2 ^ j := by
  have hb : x / 2 ^ j % 2 = 0 := by
    rw [tb_eq] at h
    have := of_decide_eq_false h
    omega
  have hp : 0 < 2 ^ j := Nat.two_pow_pos j
  have e1 : x = 2 ^ (j + 1) * (x / 2 ^ j / 2) + x % 2 ^ j := by
    have a1 := Nat.div_add_mod x (2 ^ j)
    have a2 : x / 2 ^ j = 2 * (x / 2 ^ j / 2) := by omega
    rw [Nat.pow_succ, Nat.mul_assoc]
    rw [a2] at a1
    omega
  have hlo : x % 2 ^ j < 2 ^ j := Nat.mod_lt _ hp
  generalize x % 2 ^ j = lo at *
  generalize x / 2 ^ j / 2 = A at *
  have j1 : 2 ^ (j + 1) * A ||| lo = 2 ^ (j + 1) * A + lo := nat_join j _ _ (by rw [Nat.pow_succ, Nat.mul_assoc, Nat.mul_mod_right]) hlo
  have j2 : 2 ^ (j + 1) * A ||| 2 ^ j = 2 ^ (j + 1) * A + 2 ^ j := nat_join (j + 1) _ _ (by rw [Nat.mul_mod_right]) (by rw [Nat.pow_succ]; omega)
  have j3 : (2 ^ (j + 1) * A + 2 ^ j) ||| lo = 2 ^ (j + 1) * A + 2 ^ j + lo := nat_join j _ _ (by rw [Nat.pow_succ, Nat.mul_assoc, ← Nat.mul_succ, Nat.mul_mod_right]) hlo
  rw [e1]
  rw [← j1, Nat.or_assoc, Nat.or_comm lo, ← Nat.or_assoc, j2, j3, j1]
  omega
theorem C4.put_add {k : C4} (hk : k.ok) (b : Nat) (hb : b < 256) (h : k.has b = false) : k.put ((b : Int) / 64).toNat (IntKind.u64.wrap (k.w ((b : Int) / 64).toNat + ((2 ^ ((b : Int) % 64).toNat : Nat) : Int))) = k.add (b : Int) := by
  have e1 : ((b : Int) / 64).toNat = b / 64 := by omega
  have e2 : ((b : Int) % 64).toNat = b % 64 := by omega
  unfold C4.add
  rw [e1, e2]
  obtain ⟨m, hm, hl⟩ := okW_nat (C4.ok_w hk (b / 64))
  have e3 : m.testBit (b % 64) = false := by
    unfold C4.has at h
    rwa [hm, Int.toNat_natCast] at h
  rw [hm]
  congr 1
  have h2 : 2 ^ (b % 64) < 2 ^ 64 := Nat.pow_lt_pow_right (by decide) (by omega)
  have ew : IntKind.u64.wrap (2 ^ (b % 64)) = ((2 ^ (b % 64) : Nat) : Int) := by
    have := u64_small (2 ^ (b % 64)) h2
    rw [Int.natCast_pow] at this
    rw [Int.natCast_pow]
    exact this
  have ho : m ||| 2 ^ (b % 64) < 2 ^ 64 := Nat.or_lt_two_pow hl h2
  rw [ew, u64_or_nat m _ hl h2, ← Int.natCast_add, add_is_or m _ e3]
  exact u64_small _ ho
theorem C4.add_same {k : C4} (hk : k.ok) (b : Nat) (hb : b < 256) (h : k.has b = true) : k.add (b : Int) = k := by
  apply C4.ext_has (C4.add_ok hk b) hk
  intro i hi
  rw [C4.has_add hk b i hb hi]
  by_cases e : b = i
  · subst e; rw [h]; rfl
  · simp [e]
end Go.Proofs.YtajkkmnojfghoaaDoor
