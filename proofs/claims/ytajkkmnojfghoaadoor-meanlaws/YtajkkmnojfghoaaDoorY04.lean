/- What a pattern fits, in a text, from a place to another one; the laws of it. Lists of numbers in memory. Small facts on lists of nodes in memory. What the document asks of package mean. What the law's own has answers. What the document asks of package rex. The law MeanEmpty: from what packages mean and rex answer. Kleene's laws, of places. append, of nodes. -/
import Derived.Test.YtajkkmnojfghoaaDoorY03
import Derived.Test.YtajkkmnojfghoaaDoorY02
import Derived.BigQuiet
import Derived.OwnWalk
import Derived.KernelRfl
namespace Go.Proofs.YtajkkmnojfghoaaDoor
set_option linter.unusedSimpArgs false
set_option linter.unusedVariables false
set_option maxRecDepth 100000
open Go.RowKit

/-- As often as one likes, within N. -/
inductive Str (N : Nat) (R : Nat → Nat → Prop) : Nat → Nat → Prop
  | nil (i : Nat) : i ≤ N → Str N R i i
  | cons (i k j : Nat) : R i k → Str N R k j → Str N R i j
/-- A pattern fits a text from i to j. -/
def Fit (s : List UInt8) : Rx → Nat → Nat → Prop
  | .leaf n, i, j => if n.op = 1 then ∃ c, s[i]? = some c ∧ n.c.has c.toNat = true ∧ j = i + 1 else if n.op = 8 then i = 0 ∧ j = 0 else if n.op = 9 then i = s.length ∧ j = s.length else i = j ∧ i ≤ s.length
  | .one n a, i, j => if n.op = 5 then Str s.length (Fit s a) i j else if n.op = 6 then ∃ k, Fit s a i k ∧ Str s.length (Fit s a) k j else (i = j ∧ i ≤ s.length) ∨ Fit s a i j
  | .two n a b, i, j => if n.op = 3 then ∃ k, Fit s a i k ∧ Fit s b k j else Fit s a i j ∨ Fit s b i j
theorem Str.le {N : Nat} {R : Nat → Nat → Prop} (h : ∀ i j, R i j → i ≤ j ∧ j ≤ N) : ∀ {i j : Nat}, Str N R i j → i ≤ j ∧ j ≤ N := by
  intro i j hs
  induction hs with
  | nil i hi => exact ⟨Nat.le_refl _, hi⟩
  | cons i k j h1 _ ih => exact ⟨Nat.le_trans (h i k h1).1 ih.1, ih.2⟩
theorem fit_le (s : List UInt8) : ∀ (t : Rx) (i j : Nat), Fit s t i j → i ≤ j ∧ j ≤ s.length
  | .leaf n, i, j, h => by
    unfold Fit at h
    split at h
    · obtain ⟨c, h1, _, rfl⟩ := h
      have : i < s.length := by
        rcases Nat.lt_or_ge i s.length with h' | h'
        · exact h'
        · rw [List.getElem?_eq_none h'] at h1; cases h1
      omega
    · split at h
      · omega
      · split at h <;> omega
  | .one n a, i, j, h => by
    unfold Fit at h
    split at h
    · exact Str.le (fit_le s a) h
    · split at h
      · obtain ⟨k, h1, h2⟩ := h
        have := fit_le s a i k h1
        have := Str.le (fit_le s a) h2
        omega
      · rcases h with h | h
        · omega
        · exact fit_le s a i j h
  | .two n a b, i, j, h => by
    unfold Fit at h
    split at h
    · obtain ⟨k, h1, h2⟩ := h
      have := fit_le s a i k h1
      have := fit_le s b k j h2
      omega
    · rcases h with h | h
      · exact fit_le s a i j h
      · exact fit_le s b i j h
/-- What fits from a place to itself may be nothing. -/
theorem fit_self (s : List UInt8) : ∀ (t : Rx) (i : Nat), Fit s t i i → t.emp = true
  | .leaf n, i, h => by
    unfold Fit at h
    unfold Rx.emp
    split at h
    · obtain ⟨c, _, _, h⟩ := h; omega
    · rename_i h1; simp [h1]
  | .one n a, i, h => by
    unfold Fit at h
    unfold Rx.emp
    split at h
    · rename_i h5; simp [h5]
    · split at h
      · rename_i h6
        rw [if_pos h6]
        obtain ⟨k, h1, h2⟩ := h
        have q1 := fit_le s a i k h1
        have q2 := Str.le (fit_le s a) h2
        obtain rfl : k = i := by omega
        exact fit_self s a k h1
      · rename_i h6; rw [if_neg h6]
  | .two n a b, i, h => by
    unfold Fit at h
    unfold Rx.emp
    split at h
    · rename_i h3
      rw [if_pos h3]
      obtain ⟨k, h1, h2⟩ := h
      have q1 := fit_le s a i k h1
      have q2 := fit_le s b k i h2
      obtain rfl : k = i := by omega
      rw [fit_self s a k h1, fit_self s b k h2]; rfl
    · rename_i h3
      rw [if_neg h3]
      rcases h with h | h
      · rw [fit_self s a i h]; rfl
      · rw [fit_self s b i h]; simp
theorem Str.trans {N : Nat} {R : Nat → Nat → Prop} {i j k : Nat} (h1 : Str N R i j) (h2 : Str N R j k) : Str N R i k := by
  induction h1 with
  | nil => exact h2
  | cons i m j h _ ih => exact .cons i m k h (ih h2)
theorem Str.mono {N : Nat} {R Q : Nat → Nat → Prop} (h : ∀ i j, R i j → Q i j) {i j : Nat} (hs : Str N R i j) : Str N Q i j := by
  induction hs with
  | nil i hi => exact .nil i hi
  | cons i k j h1 _ ih => exact .cons i k j (h i k h1) ih
theorem Str.one {N : Nat} {R : Nat → Nat → Prop} (h : ∀ i j, R i j → i ≤ j ∧ j ≤ N) {i j : Nat} (hr : R i j) : Str N R i j := .cons i j j hr (.nil j (h i j hr).2)
/-- A star of a star is the star. -/
theorem Str.flat {N : Nat} {R : Nat → Nat → Prop} {i j : Nat} (hs : Str N (Str N R) i j) : Str N R i j := by
  induction hs with
  | nil i hi => exact .nil i hi
  | cons i k j h1 _ ih => exact h1.trans ih
/-- The other way round. -/
theorem Str.turn {N : Nat} {R Q : Nat → Nat → Prop} (h : ∀ i j, R i j → i ≤ j ∧ j ≤ N) (hq : ∀ i j, R i j → Q (N - j) (N - i)) {i j : Nat} (hs : Str N R i j) : Str N Q (N - j) (N - i) := by
  induction hs with
  | nil i hi => exact .nil _ (by omega)
  | cons i k j h1 hs ih =>
    refine ih.trans (.cons _ (N - i) _ (hq i k h1) (.nil _ (by omega)))
theorem get_rev (s : List UInt8) (i : Nat) (h : i < s.length) : s.reverse[s.length - (i + 1)]? = s[i]? := by
  rw [List.getElem?_reverse (by omega)]
  congr 1
  omega
theorem fit_turn (s : List UInt8) : ∀ (t : Rx), t.Ok → ∀ (i j : Nat), Fit s t i j → Fit s.reverse t.turn (s.length - j) (s.length - i)
  | .leaf n, ht, i, j, h => by
    have hle := fit_le s _ i j h
    unfold Fit at h
    unfold Rx.turn Fit
    rw [List.length_reverse]
    by_cases h1 : n.op = 1
    · rw [if_pos h1] at h
      rw [if_pos (show n.flip.op = 1 from (flip_eq 1 (by decide) (by decide)).2 h1)]
      obtain ⟨c, hc, hk, rfl⟩ := h
      refine ⟨c, ?_, hk, by omega⟩
      rw [get_rev s i (by omega)]
      exact hc
    · rw [if_neg h1] at h
      rw [if_neg (show ¬ n.flip.op = 1 from fun e => h1 ((flip_eq 1 (by decide) (by decide)).1 e))]
      by_cases h8 : n.op = 8
      · rw [if_pos h8] at h
        rw [if_neg (show ¬ n.flip.op = 8 from by simp [Nd.flip, flipOp, h8]), if_pos (show n.flip.op = 9 from by simp [Nd.flip, flipOp, h8])]
        omega
      · rw [if_neg h8] at h
        by_cases h9 : n.op = 9
        · rw [if_pos h9] at h
          rw [if_pos (show n.flip.op = 8 from by simp [Nd.flip, flipOp, h9])]
          omega
        · rw [if_neg h9] at h
          rw [if_neg (show ¬ n.flip.op = 8 from by simp [Nd.flip, flipOp, h8, h9]), if_neg (show ¬ n.flip.op = 9 from by simp [Nd.flip, flipOp, h8, h9])]
          omega
  | .one n a, ht, i, j, h => by
    have hle := fit_le s _ i j h
    unfold Fit at h
    unfold Rx.turn Fit
    rw [List.length_reverse]
    have ih := fit_turn s a ht.2
    by_cases h5 : n.op = 5
    · rw [if_pos h5] at h
      rw [if_pos (show n.flip.op = 5 from (flip_eq 5 (by decide) (by decide)).2 h5)]
      exact Str.turn (fit_le s a) ih h
    · rw [if_neg h5] at h
      rw [if_neg (show ¬ n.flip.op = 5 from fun e => h5 ((flip_eq 5 (by decide) (by decide)).1 e))]
      by_cases h6 : n.op = 6
      · rw [if_pos h6] at h
        rw [if_pos (show n.flip.op = 6 from (flip_eq 6 (by decide) (by decide)).2 h6)]
        obtain ⟨k, h1, h2⟩ := h
        have key : ∀ {x y : Nat}, Str s.length (Fit s.reverse a.turn) x y → ∀ z, Fit s.reverse a.turn y z → ∃ m, Fit s.reverse a.turn x m ∧ Str s.length (Fit s.reverse a.turn) m z := by
          intro x y hxy
          have hr : ∀ i j, Fit s.reverse a.turn i j → i ≤ j ∧ j ≤ s.length := fun i j h => by have := fit_le s.reverse a.turn i j h; rw [List.length_reverse] at this; exact this
          induction hxy with
          | nil x hx => intro z hz; exact ⟨z, hz, .nil z (hr _ _ hz).2⟩
          | cons x m y hx _ ih2 =>
            intro z hz
            obtain ⟨m', h3, h4⟩ := ih2 z hz
            exact ⟨m, hx, .cons m m' z h3 h4⟩
        exact key (Str.turn (fit_le s a) ih h2) _ (ih i k h1)
      · rw [if_neg h6] at h
        rw [if_neg (show ¬ n.flip.op = 6 from fun e => h6 ((flip_eq 6 (by decide) (by decide)).1 e))]
        rcases h with h | h
        · exact Or.inl (by omega)
        · exact Or.inr (ih i j h)
  | .two n a b, ht, i, j, h => by
    have hle := fit_le s _ i j h
    unfold Fit at h
    unfold Rx.turn
    have iha := fit_turn s a ht.2.1
    have ihb := fit_turn s b ht.2.2
    by_cases h3 : n.op = 3
    · rw [if_pos h3] at h ⊢
      unfold Fit
      rw [if_pos (show n.flip.op = 3 from (flip_eq 3 (by decide) (by decide)).2 h3)]
      obtain ⟨k, h1, h2⟩ := h
      exact ⟨s.length - k, ihb k j h2, iha i k h1⟩
    · rw [if_neg h3] at h ⊢
      unfold Fit
      rw [if_neg (show ¬ n.flip.op = 3 from fun e => h3 ((flip_eq 3 (by decide) (by decide)).1 e))]
      rcases h with h | h
      · exact Or.inl (iha i j h)
      · exact Or.inr (ihb i j h)
/-- BACKWARDS IT FITS BACKWARDS. -/
theorem fit_turn_iff (s : List UInt8) (t : Rx) (ht : t.Ok) (i j : Nat) (hi : i ≤ s.length) (hj : j ≤ s.length) : Fit s t i j ↔ Fit s.reverse t.turn (s.length - j) (s.length - i) := by
  constructor
  · exact fit_turn s t ht i j
  · intro h
    have := fit_turn s.reverse t.turn (Rx.turn_ok t ht) _ _ h
    rw [List.reverse_reverse, Rx.turn_turn, List.length_reverse] at this
    rw [show s.length - (s.length - i) = i by omega, show s.length - (s.length - j) = j by omega] at this
    exact this
/-- The places to which it fits, rising. -/
def EndsR (s : List UInt8) (t : Rx) (i : Nat) (l : List Nat) : Prop := l.Pairwise (· < ·) ∧ ∀ j, j ∈ l ↔ Fit s t i j
theorem ends_total (s : List UInt8) (t : Rx) (i : Nat) : ∃ l, EndsR s t i l := by
  refine ⟨(List.range (s.length + 1)).filter fun j => @decide (Fit s t i j) (Classical.propDecidable _), List.Pairwise.filter _ List.pairwise_lt_range, fun j => ?_⟩
  rw [List.mem_filter, List.mem_range, @decide_eq_true_iff (Fit s t i j) (Classical.propDecidable _)]
  exact ⟨fun h => h.2, fun h => ⟨by have := fit_le s t i j h; omega, h⟩⟩
theorem rise_eq : ∀ (x y : List Nat), x.Pairwise (· < ·) → y.Pairwise (· < ·) → (∀ j, j ∈ x ↔ j ∈ y) → x = y
  | [], [], _, _, _ => rfl
  | [], b :: y, _, _, h => by have := (h b).2 (by simp); simp at this
  | a :: x, [], _, _, h => by have := (h a).1 (by simp); simp at this
  | a :: x, b :: y, hx, hy, h => by
    rw [List.pairwise_cons] at hx hy
    have hab : a = b := by
      have h1 := (h a).1 (by simp)
      have h2 := (h b).2 (by simp)
      rw [List.mem_cons] at h1 h2
      rcases h1 with h1 | h1
      · exact h1
      · rcases h2 with h2 | h2
        · exact h2.symm
        · have := hx.1 b h2
          have := hy.1 a h1
          omega
    subst hab
    have : x = y := rise_eq x y hx.2 hy.2 (fun j => by
      have hj := h j
      rw [List.mem_cons, List.mem_cons] at hj
      constructor
      · intro hm
        have := hx.1 j hm
        rcases hj.1 (Or.inr hm) with e | e
        · omega
        · exact e
      · intro hm
        have := hy.1 j hm
        rcases hj.2 (Or.inr hm) with e | e
        · omega
        · exact e)
    rw [this]
theorem EndsR.same {s : List UInt8} {t u : Rx} {i : Nat} {x y : List Nat} (hx : EndsR s t i x) (hy : EndsR s u i y) (h : ∀ j, Fit s t i j ↔ Fit s u i j) : x = y :=
  rise_eq x y hx.1 hy.1 fun j => (hx.2 j).trans ((h j).trans (hy.2 j).symm)
theorem EndsR.le {s : List UInt8} {t : Rx} {i : Nat} {x : List Nat} (hx : EndsR s t i x) : ∀ j ∈ x, i ≤ j ∧ j ≤ s.length := fun j hj => fit_le s t i j ((hx.2 j).1 hj)
theorem rise_len : ∀ (x : List Nat) (n m : Nat), x.Pairwise (· < ·) → (∀ j ∈ x, n ≤ j ∧ j < m) → n + x.length ≤ m ∨ x = []
  | [], _, _, _, _ => Or.inr rfl
  | a :: x, n, m, h, hb => by
    left
    rw [List.pairwise_cons] at h
    have ha := hb a (by simp)
    rcases rise_len x (a + 1) m h.2 (fun j hj => ⟨h.1 j hj, (hb j (by simp [hj])).2⟩) with h1 | h1
    · simp; omega
    · subst h1; simp; omega
theorem EndsR.len {s : List UInt8} {t : Rx} {i : Nat} {x : List Nat} (hx : EndsR s t i x) : x.length ≤ s.length + 1 := by
  rcases rise_len x 0 (s.length + 1) hx.1 (fun j hj => by have := hx.le j hj; omega) with h | h
  · omega
  · rw [h]; simp
/-- All of it is fitted just if the last end is its length. -/
theorem EndsR.all {s : List UInt8} {t : Rx} {i : Nat} {x : List Nat} (hx : EndsR s t i x) : x.getLast? = some s.length ↔ Fit s t i s.length := by
  rw [← hx.2]
  constructor
  · intro h; exact List.mem_of_getLast? h
  · intro h
    obtain ⟨l, b, e⟩ := List.append_of_mem h
    cases b with
    | nil => rw [e]; simp
    | cons c b =>
      exfalso
      have h1 := hx.1
      rw [e] at h1
      have h2 := (List.pairwise_append.1 h1).2.1
      rw [List.pairwise_cons] at h2
      have h3 := h2.1 c (by simp)
      have h4 := hx.le c (by rw [e]; simp)
      omega
end Go.Proofs.YtajkkmnojfghoaaDoor
namespace Go.Proofs.YtajkkmnojfghoaaDoor
set_option linter.unusedSimpArgs false
set_option linter.unusedVariables false
set_option maxRecDepth 100000
open Go.RowKit
/-- The numbers l lie in block b from off on. -/
def IsAt (w : World) (b off : Nat) (l : List Nat) : Prop := ∀ (i x : Nat), l[i]? = some x → w.cell? ⟨b, off + i, none⟩ = some (.int .i64 (x : Int))
/-- A slice that reads as the numbers l. -/
def IsIn (w : World) (v : Value) (l : List Nat) : Prop := ∃ a cap, v = .slice a l.length cap ∧ l.length ≤ maxLen ∧ (l = [] ∨ ∃ b off, a = some ⟨b, off, none⟩ ∧ b < w.heap.size ∧ IsAt w b off l)
theorem IsAt.below {w w' : World} {B b off : Nat} {l : List Nat} (h : IsAt w b off l) (hb : Below B w w') (hlt : b < B) : IsAt w' b off l :=
  fun i n hn => (hb.cell (p := ⟨b, _, none⟩) hlt).trans (h i n hn)
theorem IsIn.below {w w' : World} {v : Value} {l : List Nat} (h : IsIn w v l) (hb : Below w.heap.size w w') : IsIn w' v l := by
  obtain ⟨a, cap, rfl, hm, h | ⟨b, off, rfl, hlt, hn⟩⟩ := h
  · exact ⟨a, cap, rfl, hm, Or.inl h⟩
  · exact ⟨_, cap, rfl, hm, Or.inr ⟨b, off, rfl, Nat.lt_of_lt_of_le hlt hb.size, hn.below hb hlt⟩⟩
theorem isIn_nil (w : World) : IsIn w (.slice none 0 0) [] := ⟨none, 0, rfl, by simp, Or.inl rfl⟩
theorem isIn_form {w : World} {v : Value} {l : List Nat} (h : IsIn w v l) : ∃ a cap, v = .slice a l.length cap ∧ l.length ≤ maxLen := by
  obtain ⟨a, cap, h1, h2, _⟩ := h
  exact ⟨a, cap, h1, h2⟩
theorem drop_at {α : Type} (x : List α) (i : Nat) (n : α) (hn : x[i]? = some n) : x.drop i = n :: x.drop (i + 1) := by
  have hi : i < x.length := by
    rcases Nat.lt_or_ge i x.length with h | h
    · exact h
    · rw [List.getElem?_eq_none h] at hn; cases hn
  rw [List.drop_eq_getElem_cons hi]
  rw [List.getElem?_eq_getElem hi] at hn
  rw [Option.some.inj hn]
/-- New memory of numbers. -/
theorem is_new (w : World) (l : List Nat) (o : Obj) (ho : o = .cells (l.map fun x : Nat => Value.int .i64 (x : Int)).toArray 3 (0, 0)) (hm : l.length ≤ maxLen) : IsIn (w.alloc o) (.slice (some ⟨w.heap.size, 0, none⟩) l.length l.length) l := by
  refine ⟨_, _, rfl, hm, Or.inr ⟨w.heap.size, 0, rfl, by simp, fun i x hx => ?_⟩⟩
  subst ho
  rw [World.cell?_alloc_at (w := w) _ _ w.heap.size (0 + i) rfl]
  simp [hx]
end Go.Proofs.YtajkkmnojfghoaaDoor
namespace Go.Proofs.YtajkkmnojfghoaaDoor
set_option linter.unusedSimpArgs false
set_option linter.unusedVariables false
set_option maxRecDepth 100000
open Go.RowKit

theorem nsIn_nil (w : World) : NsIn w (.slice none 0 0) [] := ⟨none, 0, rfl, by simp, Or.inl rfl⟩
theorem nsIn_form {w : World} {v : Value} {ns : List Nd} (h : NsIn w v ns) : ∃ a cap, v = .slice a ns.length cap ∧ ns.length ≤ maxLen := by
  obtain ⟨a, cap, h1, h2, _⟩ := h
  exact ⟨a, cap, h1, h2⟩
theorem nsEq_refl (x : List Nd) : nsEq x x = true := (nsEq_iff x x).2 rfl
end Go.Proofs.YtajkkmnojfghoaaDoor
namespace Go.Proofs.YtajkkmnojfghoaaDoor
set_option linter.unusedSimpArgs false
set_option linter.unusedVariables false
set_option maxRecDepth 100000
open Go.RowKit
/-- What is wrong with a pattern or a text of n bytes. -/
def meanF (ns : List Nd) (n : Nat) : Int := if faultL ns = 0 then (if 400 < n then 3 else 0) else faultL ns
/-- What is wrong with them or a place. -/
def meanE (ns : List Nd) (n : Nat) (i : Int) : Int := if meanF ns n = 0 then (if 0 ≤ i ∧ i ≤ n then 0 else 1) else meanF ns n
theorem meanF_zero (ns : List Nd) (n : Nat) : meanF ns n = 0 ↔ faultL ns = 0 ∧ n ≤ 400 := by
  unfold meanF
  by_cases h : faultL ns = 0
  · rw [if_pos h]
    by_cases h4 : 400 < n
    · rw [if_pos h4]; simp; omega
    · rw [if_neg h4]; simp [h]; omega
  · rw [if_neg h]; simp [h]
theorem meanE_zero (ns : List Nd) (n : Nat) (i : Int) : meanE ns n i = 0 ↔ faultL ns = 0 ∧ n ≤ 400 ∧ 0 ≤ i ∧ i ≤ n := by
  unfold meanE
  by_cases h : meanF ns n = 0
  · rw [if_pos h]
    obtain ⟨h1, h2⟩ := (meanF_zero ns n).1 h
    by_cases h3 : 0 ≤ i ∧ i ≤ n
    · rw [if_pos h3]; simp [h1, h2, h3]
    · rw [if_neg h3]; simp [h1, h2]; omega
  · rw [if_neg h]
    constructor
    · intro h'; exact absurd h' h
    · rintro ⟨h1, h2, _⟩; exact absurd ((meanF_zero ns n).2 ⟨h1, h2⟩) h
/-- What the document asks of Ends. -/
structure MeanN : Prop where
  bad : ∀ ns v (s : ByteArray) (i : Int) w, NsIn w v ns → (∀ n ∈ ns, n.wf) → s.size ≤ maxLen → ¬ meanE ns s.size i = 0 → Calls Tryd.prog 37 #[v, .string s, .int .i64 i] w fun e w' => ∃ u, e = .returned (.tuple #[u, errV (meanE ns s.size i)]) ∧ Below w.heap.size w w' ∧ IsIn w' u []
  ends : ∀ (t : Rx) v (s : ByteArray) (i : Nat) l w, Tab w → t.Ok → NsIn w v t.flat → (∀ n ∈ t.flat, n.wf) → meanE t.flat s.size i = 0 → EndsR s.data.toList t i l → Calls Tryd.prog 37 #[v, .string s, .int .i64 (i : Int)] w fun e w' => ∃ u, e = .returned (.tuple #[u, .nilIface]) ∧ Below w.heap.size w w' ∧ IsIn w' u l
end Go.Proofs.YtajkkmnojfghoaaDoor
namespace Go.Proofs.YtajkkmnojfghoaaDoor
set_option linter.unusedSimpArgs false
set_option linter.unusedVariables false
set_option maxRecDepth 100000
open Go.RowKit
def hasI (l : List Nat) (n : Int) : Bool := l.any fun x => (x : Int) == n
theorem hasI_nat (l : List Nat) (n : Nat) : hasI l (n : Int) = true ↔ n ∈ l := by
  unfold hasI
  rw [List.any_eq_true]
  constructor
  · rintro ⟨x, hx, h⟩
    rw [beq_iff_eq] at h
    obtain rfl : x = n := by omega
    exact hx
  · intro h; exact ⟨n, h, by simp⟩
set_option maxHeartbeats 4000000 in
theorem has_at (l : List Nat) (n : Int) (b off cap : Nat) (hm : l.length ≤ maxLen) (w : World) (hlt : b < w.heap.size) (hl : IsAt w b off l) :
    Calls Tryd.prog 43 #[.slice (some ⟨b, off, none⟩) l.length cap, .int .i64 n] w fun e w' => e = .returned (.bool (hasI l n)) ∧ Below w.heap.size w w' := by
  unfold maxLen at hm
  go_enter Tryd.func43, Tryd.ntmps43
  go_wp2
  go_loopw [5] (fun v wr => ∃ i : Nat, i ≤ l.length ∧ v = .int .i64 i ∧ Hid (hasI l n = hasI (l.drop i) n) ∧ Below w.heap.size w wr) (fun v _ => l.length - (intOf v).toNat)
  case atStart => exact ⟨0, by omega, rfl, Eq.refl _, Below.refl _ _⟩
  case round =>
    obtain ⟨i, hi, rfl, HS, hB⟩ := hrel
    by_cases hil : i < l.length
    · obtain ⟨x, hx⟩ : ∃ x, l[i]? = some x := ⟨l[i], List.getElem?_eq_getElem hil⟩
      have a0 := (hl.below hB hlt) i x hx
      have HD : Hid (hasI (l.drop i) n = ((x : Int) == n || hasI (l.drop (i + 1)) n)) := by show _ = _; rw [drop_at l i x hx]; rfl
      have i0 : (0 : Int) ≤ (i : Int) := by omega
      have i1 : (i : Int) < (l.length : Int) := by omega
      clear hx
      cases hq : ((x : Int) == n)
      · have HF : Hid (hasI l n = hasI (l.drop (i + 1)) n) := by show _ = _; rw [HS.out, HD.out, hq]; rfl
        go_wp2_with fail
        try go_quiet (fail)
        go_wp2
        exact ⟨⟨i + 1, by omega, by go_num, HF, by first | exact hB | exact hB.trans ((below_drewN' wr _).mono hB.size)⟩, by simp [intOf]; omega⟩
      · have HF : Hid (hasI l n = true) := by show _ = _; rw [HS.out, HD.out, hq]; rfl
        go_wp2_with fail
        try go_quiet (fail)
        go_wp2
        go_ret
        exact ⟨by rw [HF.out]; rfl, by first | exact hB | exact hB.trans ((below_drewN' wr _).mono hB.size)⟩
    · have HF : Hid (hasI l n = false) := by
        show _ = _
        rw [HS.out, List.drop_eq_nil_of_le (by omega)]; rfl
      go_wp2
      go_ret
      exact ⟨by rw [HF.out]; rfl, hB⟩
set_option maxHeartbeats 1000000 in
theorem has_nil (n : Int) (a : Option Addr) (cap : Nat) (w : World) :
    Calls Tryd.prog 43 #[.slice a 0 cap, .int .i64 n] w fun e w' => e = .returned (.bool false) ∧ Below w.heap.size w w' := by
  go_enter Tryd.func43, Tryd.ntmps43
  go_wp2
  go_loop [5] (fun v => v = .int .i64 0) (fun _ => 0)
  case atStart => rfl
  case round =>
    subst hrel
    go_wp2
    go_ret
    exact ⟨rfl, Below.refl _ _⟩
theorem lhas_any (l : List Nat) (n : Int) (v : Value) (w : World) (h : IsIn w v l) :
    Calls Tryd.prog 43 #[v, .int .i64 n] w fun e w' => e = .returned (.bool (hasI l n)) ∧ Below w.heap.size w w' := by
  obtain ⟨a, cap, rfl, hm, h | ⟨b, off, rfl, hlt, h⟩⟩ := h
  · subst h; exact has_nil n a cap w
  · exact has_at l n b off cap hm w hlt h
end Go.Proofs.YtajkkmnojfghoaaDoor
namespace Go.Proofs.YtajkkmnojfghoaaDoor
set_option linter.unusedSimpArgs false
set_option linter.unusedVariables false
set_option maxRecDepth 100000
open Go.RowKit

/-- What the document asks of Empty and Turn. -/
structure RexT : Prop where
  empty : ∀ ns v w, NsIn w v ns → (∀ n ∈ ns, n.wf) → Calls Tryd.prog 29 #[v] w fun e w' => e = .returned (.tuple #[.bool (decide (faultL ns = 0) && empE ns), errV (faultL ns)]) ∧ Below w.heap.size w w'
  turn : ∀ ns v w, NsIn w v ns → (∀ n ∈ ns, n.wf) → Calls Tryd.prog 30 #[v] w fun e w' => ∃ u, e = .returned (.tuple #[u, errV (faultL ns)]) ∧ Below w.heap.size w w' ∧ NsIn w' u (if faultL ns = 0 then turE ns else [])
end Go.Proofs.YtajkkmnojfghoaaDoor
namespace Go.Proofs.YtajkkmnojfghoaaDoor
set_option linter.unusedSimpArgs false
set_option linter.unusedVariables false
set_option maxRecDepth 100000
open Go.RowKit
theorem ns_newM (w : World) (ns : List Nd) (hm : ns.length ≤ maxLen) : NsIn (w.alloc (.cells (nsCells ns).toArray 56 (0, 0))) (.slice (some ⟨w.heap.size, 0, none⟩) ns.length ns.length) ns := by
  have e : (w.alloc (.cells (nsCells ns).toArray 56 (0, 0))).heap[w.heap.size]? = some (.cells (nsCells ns).toArray 56 (0, 0)) := by
    show (w.heap.push _)[w.heap.size]? = _
    simp
  have h : NsOwn (w.alloc (.cells (nsCells ns).toArray 56 (0, 0))) w.heap.size (.slice (some ⟨w.heap.size, 0, none⟩) ns.length ns.length) ns :=
    ⟨nsCells_len ns, Or.inr ⟨w.heap.size, ns.length, _, rfl, Nat.le_refl _, e, Nat.le_refl _, hm, by simp [nsCells_len], by simp [← nsCells_len]⟩⟩
  exact h.isIn hm
/-- The pattern of the law's own: Plus, Opt, Byte. -/
def ownE : List Nd := [⟨6, z4⟩, ⟨7, z4⟩, ⟨1, z4⟩]
theorem ownE_ok : faultL ownE = 0 := by decide
theorem ownE_emp : empE ownE = true := by decide
theorem ownE_wf : ∀ n ∈ ownE, n.wf := by
  intro n hn
  simp [ownE] at hn
  rcases hn with rfl | rfl | rfl <;> exact ⟨rfl, rfl, rfl, rfl, rfl⟩
theorem below_1 (w : World) (o : Obj) : Below w.heap.size w (w.alloc o) := (Below.refl _ _).alloc (Nat.le_refl _) _
/-- The law's own pattern may be nothing. -/
theorem ownE_call (R : RexT) (w : World) : Calls Tryd.prog 29 #[.slice (some ⟨w.heap.size, 0, none⟩) 3 3] (w.alloc (.cells (nsCells ownE).toArray 56 (0, 0))) fun e w' => e = .returned (.tuple #[.bool true, .nilIface]) ∧ Below w.heap.size w w' := by
  refine (R.empty ownE _ _ (ns_newM w ownE (by decide)) ownE_wf).mono ?_
  rintro e w' ⟨rfl, hb⟩
  refine ⟨?_, (below_1 w _).trans (hb.mono (by simp))⟩
  rw [ownE_ok, ownE_emp]
  rfl
set_option maxHeartbeats 8000000 in
theorem meanEmpty_bad (P : MeanN) (R : RexT) (ns : List Nd) (v : Value) (s : ByteArray) (hs : s.size ≤ maxLen) (i : Int) (w : World) (hT : Tab w) (hN : NsIn w v ns) (hw : ∀ n ∈ ns, n.wf) (hE : ¬ meanE ns s.size i = 0) :
    Calls Tryd.prog 9 #[v, .string s, .int .i64 i] w fun e w' => e = .returned (.bool true) ∧ Below w.heap.size w w' := by
  have C0 := hid (ownE_call R w)
  have C1 : Hid (∀ w', Below w.heap.size w w' → _) := fun w' hb => P.bad ns v s i w' (hN.below hb) hw hs hE
  have C2 : Hid (∀ w', Below w.heap.size w w' → _) := fun w' hb => R.empty ns v w' (hN.below hb) hw
  obtain ⟨a, cap, rfl, hm⟩ := nsIn_form hN
  have HEV : Hid (errV (meanE ns s.size i) = .iface 25 (.int .i64 (meanE ns s.size i))) := by show _ = _; unfold errV; rw [if_neg hE]
  rw [HEV.out] at C1
  clear hw P R hN hE HEV
  generalize meanE ns s.size i = er at *
  go_enter Tryd.func9, Tryd.ntmps9
  go_wp2_with fail
  refine Calls.mono C0.out ?_
  rintro e w1 ⟨rfl, hb⟩
  have B1 := hid hb
  clear hb
  go_wp2_with fail
  refine Calls.mono (C1.out _ B1.out) ?_
  rintro e w2 ⟨u, rfl, hb, hu⟩
  have B2 := hid (B1.out.trans (hb.mono B1.out.size))
  clear hb hu
  go_wp2_with fail
  refine Calls.mono (C2.out _ B2.out) ?_
  rintro e w3 ⟨rfl, hb⟩
  have B3 := hid (B2.out.trans (hb.mono B2.out.size))
  clear hb
  go_wp2
  go_ret
  exact ⟨rfl, B3.out⟩
set_option maxHeartbeats 8000000 in
theorem meanEmpty_ok (P : MeanN) (R : RexT) (t : Rx) (ht : t.Ok) (v : Value) (s : ByteArray) (hs : s.size ≤ maxLen) (i : Nat) (w : World) (hT : Tab w) (hN : NsIn w v t.flat) (hw : ∀ n ∈ t.flat, n.wf) (hE : meanE t.flat s.size i = 0) (l : List Nat) (hl : EndsR s.data.toList t i l) :
    Calls Tryd.prog 9 #[v, .string s, .int .i64 (i : Int)] w fun e w' => e = .returned (.bool true) ∧ Below w.heap.size w w' := by
  have C0 := hid (ownE_call R w)
  have C1 : Hid (∀ w', Below w.heap.size w w' → _) := fun w' hb => P.ends t v s i l w' (hT.below hb (Nat.le_refl _)) ht (hN.below hb) hw hE hl
  obtain ⟨hf, h4, _, _⟩ := (meanE_zero _ _ _).1 hE
  have C2 : Hid (∀ w', Below w.heap.size w w' → Calls Tryd.prog 29 #[v] w' fun e w'' => e = .returned (.tuple #[.bool t.emp, .nilIface]) ∧ Below w'.heap.size w' w'') := fun w' hb => by
    have := R.empty t.flat v w' (hN.below hb) hw
    rw [hf, empE_flat t ht] at this
    exact this
  obtain ⟨a, cap, rfl, hm⟩ := nsIn_form hN
  have HL := hid hl
  have HLL := hid hl.len
  have HEM : Hid (hasI l (i : Int) = true → t.emp = true) := fun h => fit_self s.data.toList t i ((hl.2 i).1 ((hasI_nat l i).1 h))
  clear hw P R hN hE hf ht hl
  go_enter Tryd.func9, Tryd.ntmps9
  go_wp2_with fail
  refine Calls.mono C0.out ?_
  rintro e w1 ⟨rfl, hb⟩
  have B1 := hid hb
  clear hb
  go_wp2_with fail
  refine Calls.mono (C1.out _ B1.out) ?_
  rintro e w2 ⟨u, rfl, hb, hu⟩
  have B2 := hid (B1.out.trans (hb.mono B1.out.size))
  have U2 := hid hu
  clear hb hu
  obtain ⟨ua, uc, rfl, um⟩ := isIn_form U2.out
  go_wp2_with fail
  refine Calls.mono (C2.out _ B2.out) ?_
  rintro e w3 ⟨rfl, hb⟩
  have B3 := hid (B2.out.trans (hb.mono B2.out.size))
  have U3 := hid (U2.out.below hb)
  clear hb
  rcases U3.out with ⟨ua', uc', hu', _, hnil | ⟨b5, o5, hb5, hlt5, hat⟩⟩
  · subst hnil
    have HUb := hid U3.out
    clear hu'
    go_wp2_with fail
    go_loopw [13] (fun v wr => v = .int .i64 0 ∧ Below w3.heap.size w3 wr) (fun _ _ => 0)
    case atStart => exact ⟨rfl, Below.refl _ _⟩
    case round =>
      obtain ⟨rfl, hb⟩ := hrel
      have CH := hid (lhas_any [] (i : Int) _ wr (HUb.out.below hb))
      rw [show hasI [] (i : Int) = false from rfl] at CH
      have B4 := hid (B3.out.trans (hb.mono B3.out.size))
      clear hb
      go_wp2_with fail
      refine Calls.mono CH.out ?_
      rintro e w5 ⟨rfl, hb⟩
      have B5 := hid (B4.out.trans (hb.mono B4.out.size))
      clear hb
      cases t.emp
      all_goals
        go_wp2
        go_ret
        exact ⟨rfl, B5.out⟩
  · injection hu' with hu1 hu2 hu3
    rw [hb5] at hu1
    subst hu1
    have HAT := hid hat
    have HLT := hid hlt5
    have HUb := hid U3.out
    clear hb5 hat hlt5 hu2 hu3
    go_wp2_with fail
    go_loopw [13] (fun v wr => ∃ k : Nat, k ≤ l.length ∧ v = .int .i64 k ∧ Below w3.heap.size w3 wr) (fun v _ => l.length - (intOf v).toNat)
    case atStart => exact ⟨0, by omega, rfl, Below.refl _ _⟩
    case round =>
      obtain ⟨k, hk, rfl, hb⟩ := hrel
      have k0 : (0 : Int) ≤ (k : Int) := by omega
      have hll := HLL.out
      rw [show s.data.toList.length = s.size from Array.length_toList] at hll
      by_cases hkl : k < l.length
      · have k1 : (k : Int) < (l.length : Int) := by omega
        obtain ⟨x, hx⟩ : ∃ x, l[k]? = some x := ⟨l[k], List.getElem?_eq_getElem hkl⟩
        have a0 := (HAT.out.below hb HLT.out) k x hx
        have hxb := HL.out.le x (List.mem_of_getElem? hx)
        rw [show s.data.toList.length = s.size from Array.length_toList] at hxb
        have g1 : decide ((x : Int) < (i : Int)) = false := decide_eq_false (by omega)
        have g2 : decide ((s.size : Int) < (x : Int)) = false := decide_eq_false (by omega)
        have g1' : decide (x < i) = false := decide_eq_false (by omega)
        have g2' : decide (s.size < x) = false := decide_eq_false (by omega)
        have HK := hid (show k + 1 ≤ l.length ∧ l.length - (k + 1) < l.length - k by omega)
        have HB := hid hb
        by_cases hz : k = 0
        · subst hz
          rw [show ((0 : Nat) : Int) = 0 from rfl]
          have k1' : (0 : Int) < (l.length : Int) := by omega
          have k1'' : 0 < l.length := by omega
          rw [Nat.add_zero] at a0
          clear hx hb k1 hkl hk k0
          go_wp2_with fail
          go_big_quiet (fail)
          go_wp2
          exact ⟨⟨1, HK.out.1, by go_num, HB.out.trans ((below_drewN' wr _).mono HB.out.size)⟩, by simp [intOf]; have := HK.out.2; omega⟩
        · obtain ⟨m, hmk⟩ : ∃ m, k = m + 1 := ⟨k - 1, by omega⟩
          obtain ⟨y, hy⟩ : ∃ y, l[m]? = some y := ⟨l[m]'(by omega), List.getElem?_eq_getElem (by omega)⟩
          have a1 := (HAT.out.below hb HLT.out) m y hy
          have hxy : y < x := by
            have h1 := HL.out.1
            rw [List.pairwise_iff_getElem] at h1
            have h2 := h1 m k (by omega) hkl (by omega)
            rw [List.getElem?_eq_getElem (by omega)] at hx hy
            rw [Option.some.inj hx, Option.some.inj hy] at h2
            exact h2
          have g4 : decide ((x : Int) ≤ (y : Int)) = false := decide_eq_false (by omega)
          have g3 : decide ((0 : Int) < (k : Int)) = true := decide_eq_true (by omega)
          have g5 : decide (0 < k) = true := decide_eq_true (by omega)
          have g6 : decide (x ≤ y) = false := decide_eq_false (by omega)
          have k2 : (0 : Int) ≤ (m : Int) := by omega
          have k3 : (m : Int) < (l.length : Int) := by omega
          have k4 : IntKind.i64.wrap ((k : Int) - 1) = (m : Int) := by rw [IntKind.wrap_i64]; omega
          clear hx hy hb hxy hz hmk
          go_wp2_with fail
          go_big_quiet (fail)
          go_wp2
          exact ⟨⟨k + 1, HK.out.1, by go_num, HB.out.trans ((below_drewN' wr _).mono HB.out.size)⟩, by simp [intOf]; have := HK.out.2; omega⟩
      · obtain rfl : k = l.length := by omega
        have CH := hid (lhas_any l (i : Int) _ wr (HUb.out.below hb))
        have B4 := hid (B3.out.trans (hb.mono B3.out.size))
        clear hb
        cases hq : hasI l (i : Int)
        · rw [hq] at CH
          clear hq
          go_wp2_with fail
          refine Calls.mono CH.out ?_
          rintro e w5 ⟨rfl, hb⟩
          have B5 := hid (B4.out.trans (hb.mono B4.out.size))
          clear hb
          cases t.emp
          all_goals
            go_wp2
            go_ret
            exact ⟨rfl, B5.out⟩
        · have HT := hid (HEM.out hq)
          rw [hq] at CH
          rw [HT.out]
          clear hq
          go_wp2_with fail
          refine Calls.mono CH.out ?_
          rintro e w5 ⟨rfl, hb⟩
          have B5 := hid (B4.out.trans (hb.mono B4.out.size))
          clear hb
          go_wp2
          go_ret
          exact ⟨rfl, B5.out⟩
theorem meanEmpty_any (P : MeanN) (R : RexT) (ns : List Nd) (v : Value) (s : ByteArray) (hs : s.size ≤ maxLen) (i : Int) (w : World) (hT : Tab w) (hN : NsIn w v ns) (hw : ∀ n ∈ ns, n.wf) :
    Calls Tryd.prog 9 #[v, .string s, .int .i64 i] w fun e w' => e = .returned (.bool true) ∧ Below w.heap.size w w' := by
  by_cases hE : meanE ns s.size i = 0
  · obtain ⟨hf, h4, h0, h1⟩ := (meanE_zero _ _ _).1 hE
    obtain ⟨_, _, hv⟩ := (faultL_zero ns).1 hf
    obtain ⟨t, ht, rfl⟩ := tree_of ns hv
    obtain ⟨j, rfl⟩ : ∃ j : Nat, i = j := ⟨i.toNat, by omega⟩
    obtain ⟨l, hl⟩ := ends_total s.data.toList t j
    exact meanEmpty_ok P R t ht v s hs j w hT hN hw hE l hl
  · exact meanEmpty_bad P R ns v s hs i w hT hN hw hE
end Go.Proofs.YtajkkmnojfghoaaDoor
namespace Go.Proofs.YtajkkmnojfghoaaDoor
set_option linter.unusedSimpArgs false
set_option linter.unusedVariables false
set_option maxRecDepth 100000
open Go.RowKit
def nd (op : Int) : Nd := ⟨op, z4⟩
def rOr (a b : Rx) : Rx := .two (nd 4) a b
def rCat (a b : Rx) : Rx := .two (nd 3) a b
def rStar (a : Rx) : Rx := .one (nd 5) a
def rPlus (a : Rx) : Rx := .one (nd 6) a
def rOpt (a : Rx) : Rx := .one (nd 7) a
def rEmpty : Rx := .leaf (nd 2)
theorem fit_or (s : List UInt8) (a b : Rx) (i j : Nat) : Fit s (rOr a b) i j ↔ Fit s a i j ∨ Fit s b i j := by rw [rOr, Fit, if_neg (by decide)]
theorem fit_cat (s : List UInt8) (a b : Rx) (i j : Nat) : Fit s (rCat a b) i j ↔ ∃ k, Fit s a i k ∧ Fit s b k j := by rw [rCat, Fit, if_pos (show (nd 3).op = 3 from rfl)]
theorem fit_star (s : List UInt8) (a : Rx) (i j : Nat) : Fit s (rStar a) i j ↔ Str s.length (Fit s a) i j := by rw [rStar, Fit, if_pos (show (nd 5).op = 5 from rfl)]
theorem fit_plus (s : List UInt8) (a : Rx) (i j : Nat) : Fit s (rPlus a) i j ↔ ∃ k, Fit s a i k ∧ Str s.length (Fit s a) k j := by rw [rPlus, Fit, if_neg (by decide), if_pos (show (nd 6).op = 6 from rfl)]
theorem fit_opt (s : List UInt8) (a : Rx) (i j : Nat) : Fit s (rOpt a) i j ↔ (i = j ∧ i ≤ s.length) ∨ Fit s a i j := by rw [rOpt, Fit, if_neg (by decide), if_neg (by decide)]
theorem fit_empty (s : List UInt8) (i j : Nat) : Fit s rEmpty i j ↔ i = j ∧ i ≤ s.length := by rw [rEmpty, Fit, if_neg (by decide), if_neg (by decide), if_neg (by decide)]
theorem str_cases {N : Nat} {R : Nat → Nat → Prop} {i j : Nat} : Str N R i j ↔ (i = j ∧ i ≤ N) ∨ ∃ k, R i k ∧ Str N R k j := by
  constructor
  · intro h
    cases h with
    | nil _ h => exact Or.inl ⟨rfl, h⟩
    | cons _ k _ h1 h2 => exact Or.inr ⟨k, h1, h2⟩
  · rintro (⟨rfl, h⟩ | ⟨k, h1, h2⟩)
    · exact .nil _ h
    · exact .cons _ k _ h1 h2
theorem law1 (s : List UInt8) (a b : Rx) (i j : Nat) : Fit s (rOr a b) i j ↔ Fit s (rOr b a) i j := by rw [fit_or, fit_or]; exact Or.comm
theorem law2 (s : List UInt8) (a : Rx) (i j : Nat) : Fit s (rStar a) i j ↔ Fit s (rOr rEmpty (rCat a (rStar a))) i j := by
  rw [fit_or, fit_empty, fit_cat, fit_star, str_cases]
  simp only [fit_star]
theorem law3 (s : List UInt8) (a : Rx) (i j : Nat) : Fit s (rStar a) i j ↔ Fit s (rOpt (rPlus a)) i j := by
  rw [fit_opt, fit_plus, fit_star, str_cases]
theorem law4 (s : List UInt8) (a : Rx) (i j : Nat) : Fit s (rPlus a) i j ↔ Fit s (rCat a (rStar a)) i j := by
  rw [fit_plus, fit_cat]
  simp only [fit_star]
theorem law5 (s : List UInt8) (a b c : Rx) (i j : Nat) : Fit s (rCat a (rOr b c)) i j ↔ Fit s (rOr (rCat a b) (rCat a c)) i j := by
  rw [fit_or, fit_cat, fit_cat, fit_cat]
  simp only [fit_or]
  constructor
  · rintro ⟨k, h1, h2 | h2⟩
    · exact Or.inl ⟨k, h1, h2⟩
    · exact Or.inr ⟨k, h1, h2⟩
  · rintro (⟨k, h1, h2⟩ | ⟨k, h1, h2⟩)
    · exact ⟨k, h1, Or.inl h2⟩
    · exact ⟨k, h1, Or.inr h2⟩
theorem law6 (s : List UInt8) (a : Rx) (i j : Nat) : Fit s (rStar (rStar a)) i j ↔ Fit s (rStar a) i j := by
  rw [fit_star, fit_star]
  constructor
  · intro h
    exact Str.flat (h.mono fun x y hxy => (fit_star s a x y).1 hxy)
  · intro h
    refine Str.one (fit_le s (rStar a)) ((fit_star s a i j).2 h)
theorem flat_or (a b : Rx) : (rOr a b).flat = nd 4 :: (a.flat ++ b.flat) := rfl
theorem flat_cat (a b : Rx) : (rCat a b).flat = nd 3 :: (a.flat ++ b.flat) := rfl
theorem flat_star (a : Rx) : (rStar a).flat = nd 5 :: a.flat := rfl
theorem flat_plus (a : Rx) : (rPlus a).flat = nd 6 :: a.flat := rfl
theorem flat_opt (a : Rx) : (rOpt a).flat = nd 7 :: a.flat := rfl
/-- A tree of good nodes that is not too great has no fault. -/
theorem fault_of (t : Rx) (ht : t.Ok) (hl : t.flat.length ≤ 60) (hr : ∀ n ∈ t.flat, (1 ≤ n.op ∧ n.op ≤ 9) ∧ (n.op = 1 ∨ n.c.eqb z4 = true)) : faultL t.flat = 0 := (faultL_zero _).2 ⟨hl, hr, endE_flat t ht⟩
end Go.Proofs.YtajkkmnojfghoaaDoor
namespace Go.Proofs.YtajkkmnojfghoaaDoor
set_option linter.unusedSimpArgs false
set_option linter.unusedVariables false
set_option maxRecDepth 100000
open Go.RowKit

theorem grown_cells {w4 w5 : World} {r : Nat} {xs : List Value} (h : w4.grownBy w5 (some r)) {g : Nat} (hg : g < w4.heap.size) (hne : g ≠ r) (hc : ∀ (j : Nat) u, xs[j]? = some u → w4.cell? ⟨g, j, none⟩ = some u) : ∀ (j : Nat) u, xs[j]? = some u → w5.cell? ⟨g, j, none⟩ = some u := by
  intro j u hj
  rw [World.cell?_of_block (a := ⟨g, j, none⟩) (h.block g hg (by intro e; injection e with e; exact hne e))]
  exact hc j u hj
/-- append, of nodes of the call's own to nodes of the call's own. -/
theorem wpList_append_ns {ops : Array Oper} {rest : List Oper} {o : Oper} {a : Act} {Q : Exit → Act → World → Prop} {w : World} (hgd : o.guard = none) (s x : Operand)
    (ho : o.op = .call { callee := .builtin .append, args := #[s, x], argTypes := #[40, 40] })
    (B : Nat) (v : Value) (hs : a.eval s = v) (ns : List Nd) (hown : NsOwn w B v ns) (g2 m2 c2 : Nat) (ms : List Nd) (hx : a.eval x = .slice (some ⟨g2, 0, none⟩) m2 c2) (hm2 : m2 = ms.length)
    (hnews : ∀ j u, (nsCells ms)[j]? = some u → w.cell? ⟨g2, j, none⟩ = some u) (hm : 0 < ms.length) (hbytes : (ns.length + ms.length) * 40 ≤ 140737488355328) (hbase : B ≤ w.heap.size)
    (h : ∀ g cap w', NsOwn w' B (.slice (some ⟨g, 0, none⟩) (ns.length + ms.length) cap) (ns ++ ms) → w.grownBy w' v.ownBlock → B ≤ g → g < w'.heap.size → wpList Tryd.prog ops Q rest (a.put o.dst (.slice (some ⟨g, 0, none⟩) (ns.length + ms.length) cap)) w') : wpList Tryd.prog ops Q (o :: rest) a w := by
  subst hm2
  have hinfo : (Tryd.prog.info? 56).map (fun i => (i.zero, i.size, i.bytes)) = some (some (.agg #[.int .i64 0, .int .u64 0, .int .u64 0, .int .u64 0, .int .u64 0]), 5, 40) := by kernel_rfl
  obtain ⟨i0, hi, hz0, hz1, hz2⟩ := info_parts hinfo
  refine wpList_append_lies w hgd s x 40 ho B 56 i0 _ 5 40 Tryd.underlying40 hi hz0 hz1 hz2 rfl (by decide) v ns.length (nsCells ns) hs hown ⟨g2, 0, none⟩ ms.length c2 (nsCells ms) hx (nsCells_len ms) ?_ (nsCells_one ms) hm (by unfold maxLen; omega) hbytes hbase w.heap.size rfl ?_
  · intro j u hj
    have e : (⟨g2, 0, none⟩ : Addr).add j = ⟨g2, j, none⟩ := by
      rcases j with _ | j <;> simp [Addr.add]
    rw [e]
    exact hnews j u hj
  · intro g cap w' h1 h2 h3 h4
    have e : NsOwn w' B (.slice (some ⟨g, 0, none⟩) (ns.length + ms.length) cap) (ns ++ ms) := by
      unfold NsOwn
      rw [nsCells_append, List.length_append]
      exact h1
    have hg : B ≤ g := by
      rcases h3 with h3 | h3
      · rcases hown.2 with ⟨hv, _⟩ | ⟨g', cap', cur, hv, hb, _⟩
        · rw [hv] at h3; cases h3
        · rw [hv] at h3
          injection h3 with h3
          simp at h3
          omega
      · omega
    exact h g cap w' e h2 hg h4
theorem NsOwn.keptG {w w' : World} {B g : Nat} {v : Value} {ns : List Nd} (h : NsOwn w B v ns) (hg : w.grownBy w' (some g)) (hlt : g < B) : NsOwn w' B v ns := by
  refine World.ownsRow.kept h hg ?_
  rcases h.2 with ⟨hv, _⟩ | ⟨b, cap, cur, hv, hb, _⟩
  · rw [hv]; exact Or.inl rfl
  · rw [hv]
    refine Or.inr ?_
    intro e
    injection e with e
    simp only at e
    omega
end Go.Proofs.YtajkkmnojfghoaaDoor
