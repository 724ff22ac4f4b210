/- Brackets about a whole text change nothing; a class with a hat is the other one's not. Plain mathematics. -/
import Derived.Test.YtmdfdlljeggbbaaPrd
set_option linter.unusedSimpArgs false
set_option linter.unusedVariables false
set_option maxRecDepth 100000
namespace Go.Proofs.Ytmdfdlljeggbbaa
open Go.RowKit

theorem head_app (l q : List UInt8) (h : l ≠ []) : (l ++ q).head? = l.head? := by
  cases l with
  | nil => exact absurd rfl h
  | cons c r => rfl
theorem tail_app (l q : List UInt8) (h : l ≠ []) : (l ++ q).tail = l.tail ++ q := by
  cases l with
  | nil => exact absurd rfl h
  | cons c r => rfl
theorem ne_of_head {l : List UInt8} {c : UInt8} (h : l.head? = some c) : l ≠ [] := by rintro rfl; cases h
theorem rdHex_app (k k' : Nat) : ∀ (l : List UInt8) (b : Nat) (r q : List UInt8), rdHex k l = .ok (b, r) → rdHex k' (l ++ q) = .ok (b, r ++ q)
  | [], b, r, q, h => by simp [rdHex] at h
  | [x], b, r, q, h => by simp only [rdHex] at h; split at h <;> cases h
  | x :: y :: l, b, r, q, h => by
    simp only [rdHex, List.cons_append] at h ⊢
    split at h
    · injection h with h
      injection h with h1 h2
      rw [h1, h2]
    · cases h
theorem rd1_app : ∀ (l : List UInt8) (b : Nat) (r q : List UInt8), rd1 l = .ok (b, r) → rd1 (l ++ q) = .ok (b, r ++ q)
  | [], b, r, q, h => by simp [rd1] at h
  | c :: l, b, r, q, h => by
    rw [List.cons_append, rd1]
    rw [rd1] at h
    split at h
    · rename_i hc
      rw [if_pos hc]
      cases l with
      | nil => simp [rdEsc] at h
      | cons d l =>
        rw [rdEsc] at h
        rw [List.cons_append, rdEsc]
        split at h
        · rename_i hd
          rw [if_pos hd]
          injection h with h
          injection h with h1 h2
          rw [h1, h2]
        · rename_i hd
          rw [if_neg hd]
          split at h
          · rename_i hx
            rw [if_pos hx]
            exact rdHex_app _ _ l b r q h
          · cases h
    · rename_i hc
      rw [if_neg hc]
      split at h
      · cases h
      · rename_i hr
        rw [if_neg hr]
        injection h with h
        injection h with h1 h2
        rw [h1, h2]
theorem rd1_ne (l : List UInt8) (b : Nat) (r : List UInt8) (h : rd1 l = .ok (b, r)) : l ≠ [] := by rintro rfl; simp [rd1] at h
theorem items_ne : ∀ (f : Nat) (c : C4) (l : List UInt8) (x : C4 × List UInt8), items f c l = .ok x → l ≠ []
  | 0, c, l, x, h => by simp [items] at h
  | f + 1, c, l, x, h => by
    rintro rfl
    rw [items] at h
    simp [rd1] at h
theorem items_app : ∀ (f : Nat) (c : C4) (l : List UInt8) (k : C4) (r q : List UInt8), items f c l = .ok (k, r) → items f c (l ++ q) = .ok (k, r ++ q)
  | 0, c, l, k, r, q, h => by simp [items] at h
  | f + 1, c, l, k, r, q, h => by
    have hne := items_ne _ _ _ _ h
    rw [items] at h ⊢
    rw [head_app l q hne]
    split at h
    · rename_i h0
      rw [if_pos h0, tail_app l q hne]
      injection h with h
      injection h with h1 h2
      rw [h1, h2]
    · rename_i h0
      rw [if_neg h0]
      cases h1 : rd1 l with
      | error e => rw [h1] at h; simp at h
      | ok p =>
        obtain ⟨lo, l1⟩ := p
        rw [h1] at h
        rw [rd1_app l lo l1 q h1]
        simp only at h ⊢
        split at h
        · rename_i h2
          have hn1 := ne_of_head h2
          rw [head_app l1 q hn1, if_pos h2, tail_app l1 q hn1]
          cases h3 : rd1 l1.tail with
          | error e => rw [h3] at h; simp at h
          | ok p =>
            obtain ⟨hi, l2⟩ := p
            rw [h3] at h
            rw [rd1_app _ hi l2 q h3]
            simp only at h ⊢
            split at h
            · simp at h
            · rename_i h4
              rw [if_neg h4]
              exact items_app f _ _ _ _ q h
        · rename_i h2
          have hn1 := items_ne _ _ _ _ h
          rw [head_app l1 q hn1, if_neg h2]
          exact items_app f _ _ _ _ q h
theorem bracket_app (l : List UInt8) (k : C4) (r q : List UInt8) (h : bracket l = .ok (k, r)) : bracket (l ++ q) = .ok (k, r ++ q) := by
  unfold bracket at h ⊢
  split at h
  · rename_i h0
    have hn := ne_of_head h0
    rw [head_app l q hn, if_pos h0, tail_app l q hn]
    cases h1 : items l.length z4 l.tail with
    | error e => rw [h1] at h; simp at h
    | ok p =>
      obtain ⟨c, r'⟩ := p
      rw [h1] at h
      have h2 := items_more _ (l ++ q).length _ _ _ (by simp) (items_app _ _ _ _ _ q h1)
      rw [h2]
      injection h with h
      injection h with h3 h4
      rw [← h3, ← h4]
  · rename_i h0
    have hn := items_ne _ _ _ _ h
    rw [head_app l q hn, if_neg h0]
    exact items_more _ _ _ _ _ (by simp) (items_app _ _ _ _ _ q h)
theorem base_app (l : List UInt8) (n : Nd) (r q : List UInt8) (h : base l = .ok (n, r)) : base (l ++ q) = .ok (n, r ++ q) := by
  have hn : l ≠ [] := by
    rintro rfl
    simp [base, rd1] at h
  unfold base at h ⊢
  rw [head_app l q hn, tail_app l q hn]
  split at h
  · rename_i h0
    rw [if_pos h0]
    cases h1 : bracket l.tail with
    | error e => rw [h1] at h; simp at h
    | ok p =>
      obtain ⟨c, r'⟩ := p
      rw [h1] at h
      rw [bracket_app _ _ _ q h1]
      injection h with h
      injection h with h2 h3
      rw [← h2, ← h3]
  · rename_i h91
    rw [if_neg h91]
    split at h
    · rename_i h0
      rw [if_pos h0]
      injection h with h
      injection h with h2 h3
      rw [← h2, ← h3]
    · rename_i h46
      rw [if_neg h46]
      split at h
      · rename_i h0
        rw [if_pos h0]
        injection h with h
        injection h with h2 h3
        rw [← h2, ← h3]
      · rename_i h94
        rw [if_neg h94]
        split at h
        · rename_i h0
          rw [if_pos h0]
          injection h with h
          injection h with h2 h3
          rw [← h2, ← h3]
        · rename_i h36
          rw [if_neg h36]
          cases h1 : rd1 l with
          | error e => rw [h1] at h; simp at h
          | ok p =>
            obtain ⟨b, r'⟩ := p
            rw [h1] at h
            rw [rd1_app _ _ _ q h1]
            injection h with h
            injection h with h2 h3
            rw [← h2, ← h3]
theorem posts_app (q : List UInt8) (hq : stp q = true) : ∀ (l : List UInt8) (t : Rx), posts t (l ++ q) = ((posts t l).1, (posts t l).2 ++ q)
  | [], t => by rw [List.nil_append, posts_stp t q hq]; rfl
  | c :: r, t => by
    rw [List.cons_append, posts, posts]
    split
    · exact posts_app q hq r _
    · split
      · exact posts_app q hq r _
      · split
        · exact posts_app q hq r _
        · rfl
theorem stp_app (l q : List UInt8) (hq : stp q = true) : stp (l ++ q) = stp l := by
  cases l with
  | nil => rw [List.nil_append, hq]; rfl
  | cons c r => rfl
/-- What is read ahead of a bracket is what is read alone. -/
theorem app_all (q : List UInt8) (hq : stp q = true) (hq2 : q.head? ≠ some 124) : ∀ (n : Nat) (l : List UInt8), l.length ≤ n → (∀ x l1, Atom l (.ok (x, l1)) → Atom (l ++ q) (.ok (x, l1 ++ q))) ∧ (∀ xs l1, Seq l (.ok (xs, l1)) → Seq (l ++ q) (.ok (xs, l1 ++ q))) ∧ (∀ ss l1, Alt l (.ok (ss, l1)) → Alt (l ++ q) (.ok (ss, l1 ++ q)))
  | n, l, hn => by
    have hA : ∀ x l1, Atom l (.ok (x, l1)) → Atom (l ++ q) (.ok (x, l1 ++ q)) := by
      intro x l1 h
      generalize hr : (Except.ok (x, l1) : Except Nat (Rx × List UInt8)) = r at h
      cases h with
      | bad => cases hr
      | ok _ m l2 h1 h2 =>
        have hne : l ≠ [] := by
          rintro rfl
          simp [base, rd1] at h2
        have p := Atom.ok (l ++ q) m (l2 ++ q) (by rw [head_app l q hne]; exact h1) (base_app _ _ _ q h2)
        rw [posts_app q hq] at p
        injection hr with hr
        rw [← hr] at p
        exact p
      | inBad => cases hr
      | inOpen => cases hr
      | inOk l0 ss l2 h1 =>
        cases n with
        | zero => simp at hn
        | succ n =>
          have g := (app_all q hq hq2 n l0 (by simp at hn; omega)).2.2 ss _ h1
          rw [List.cons_append] at g
          have p := Atom.inOk _ ss (l2 ++ q) g
          rw [posts_app q hq] at p
          injection hr with hr
          rw [← hr] at p
          exact p
    have hS : ∀ xs l1, Seq l (.ok (xs, l1)) → Seq (l ++ q) (.ok (xs, l1 ++ q)) := by
      intro xs l1 h
      cases h with
      | stop _ h1 => exact Seq.stop _ (by rw [stp_app _ _ hq]; exact h1)
      | more _ x l2 xs _ h1 h2 h3 =>
        have g := hA x l2 h2
        have hz := (sizes n l hn).1 x l2 h2
        have fp := x.flat_pos
        cases n with
        | zero => omega
        | succ n =>
          have g2 := (app_all q hq hq2 n l2 (by omega)).2.1 xs l1 h3
          exact Seq.more _ x _ xs _ (by rw [stp_app _ _ hq]; exact h1) g g2
    refine ⟨hA, hS, ?_⟩
    intro ss l1 h
    cases h with
    | last _ xs _ h1 h2 =>
      refine Alt.last _ xs _ (hS xs l1 h1) ?_
      cases l1 with
      | nil => exact hq2
      | cons c r => exact h2
    | more _ xs l2 ss _ h1 h2 =>
      have hz := (sizes n l hn).2.1 xs _ h1
      simp at hz
      cases n with
      | zero => omega
      | succ n =>
        have g2 := (app_all q hq hq2 n l2 (by omega)).2.2 ss l1 h2
        have g1 := hS xs _ h1
        rw [List.cons_append] at g1
        exact Alt.more _ xs _ ss _ g1 g2
/-- Brackets about a whole text make no difference. -/
theorem whole_br (l : List UInt8) (t : Rx) (h : Whole l (.ok t)) : Whole (40 :: (l ++ [41])) (.ok t) := by
  generalize hr : (Except.ok t : Except Nat Rx) = r at h
  cases h with
  | bad => cases hr
  | more => cases hr
  | ok ss h1 =>
    injection hr with hr
    subst hr
    have g := (app_all [41] rfl (by decide) _ l (Nat.le_refl _)).2.2 ss [] h1
    have a := Atom.inOk (l ++ [41]) ss [] g
    have s1 := Seq.more _ (ors ss) [] [] [] rfl a (Seq.stop [] rfl)
    have a1 := Alt.last _ _ _ s1 (by simp)
    have w1 := Whole.ok _ _ a1
    exact w1
/-- A text of a class alone. -/
theorem whole_class (its : List UInt8) (t : Rx) (n : Nd) (h : Whole (91 :: (its ++ [93])) (.ok t)) (hf : t.flat = [n]) (hop : n.op = 1) : bracket (its ++ [93]) = .ok (n.c, []) := by
  generalize hr : (Except.ok t : Except Nat Rx) = r at h
  cases h with
  | bad => cases hr
  | more => cases hr
  | ok ss h1 =>
    injection hr with hr
    subst hr
    cases h1 with
    | last _ xs _ h2 h3 =>
      have e1 : (ors [cats xs]).flat = (cats xs).flat := rfl
      rw [e1] at hf
      cases h2 with
      | more _ x l2 ys _ h4 h5 h6 =>
        cases ys with
        | cons y r =>
          rw [cats, Rx.flat] at hf
          have h7 := x.flat_pos
          have h8 := congrArg List.length hf
          rw [List.length_cons, List.length_append, List.length_singleton] at h8
          omega
        | nil =>
          have e2 : cats [x] = x := rfl
          rw [e2] at hf
          have hl2 : l2 = [] := by
            generalize hr2 : (Except.ok (([] : List Rx), ([] : List UInt8)) : Except Nat (List Rx × List UInt8)) = r2 at h6
            cases h6 with
            | stop _ _ => injection hr2 with hr2; injection hr2 with _ hr2; exact hr2.symm
            | bad _ _ _ _ => cases hr2
            | more _ _ _ _ _ _ _ _ => injection hr2 with hr2; injection hr2 with hr2 _; cases hr2
            | moreBad _ _ _ _ _ _ _ => cases hr2
          subst hl2
          generalize hr3 : (Except.ok (x, ([] : List UInt8)) : Except Nat (Rx × List UInt8)) = r3 at h5
          cases h5 with
          | bad => cases hr3
          | ok _ m l3 h7 h8 =>
            injection hr3 with hr3
            have hz := posts_size l3 (.leaf m)
            rw [← hr3, hf] at hz
            simp [Rx.flat] at hz
            rw [hz] at h8 hr3
            have e3 : x = .leaf m := by
              have := congrArg Prod.fst hr3
              exact this
            rw [e3] at hf
            simp [Rx.flat] at hf
            subst hf
            unfold base at h8
            rw [if_pos (by rfl), List.tail_cons] at h8
            cases hb : bracket (its ++ [93]) with
            | error e => rw [hb] at h8; simp at h8
            | ok p =>
              obtain ⟨c, r'⟩ := p
              rw [hb] at h8
              injection h8 with h8
              injection h8 with h9 h10
              subst h10
              rw [← h9]
    | more _ xs l2 ss _ h2 h3 =>
      have hne := alt_ne _ _ _ h3
      cases ss with
      | nil => exact absurd rfl hne
      | cons y r =>
        rw [ors, Rx.flat] at hf
        have h7 := (cats xs).flat_pos
        have h8 := congrArg List.length hf
        rw [List.length_cons, List.length_append, List.length_singleton] at h8
        omega
/-- And one is. -/
theorem class_whole (l : List UInt8) (c : C4) (h : bracket l = .ok (c, [])) : Whole (91 :: l) (.ok (.leaf ⟨1, c⟩)) := by
  have hb : base (91 :: l) = .ok (⟨1, c⟩, []) := by
    unfold base
    rw [if_pos (by rfl), List.tail_cons, h]
  have a := Atom.ok (91 :: l) _ [] (by simp) hb
  have s1 := Seq.more _ (.leaf ⟨1, c⟩) [] [] [] rfl a (Seq.stop [] rfl)
  have a1 := Alt.last _ _ _ s1 (by simp)
  exact Whole.ok _ _ a1
/-- With a hat it is all others. -/
theorem bracket_hat (its : List UInt8) (hne : its ≠ []) (h94 : its.head? ≠ some 94) (c : C4) (h : bracket (its ++ [93]) = .ok (c, [])) : bracket (94 :: (its ++ [93])) = .ok (c.not, []) := by
  unfold bracket at h ⊢
  rw [head_app its _ hne, if_neg h94] at h
  rw [if_pos (by rfl), List.tail_cons, List.length_cons, h]
end Go.Proofs.Ytmdfdlljeggbbaa
