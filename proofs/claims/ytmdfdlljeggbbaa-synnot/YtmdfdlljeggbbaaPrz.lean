/- How great what is read is; lists of nodes joined. Plain mathematics. -/
import Derived.Test.YtmdfdlljeggbbaaPrs
set_option linter.unusedSimpArgs false
set_option linter.unusedVariables false
set_option maxRecDepth 100000
namespace Go.Proofs.Ytmdfdlljeggbbaa
open Go.RowKit

/-- Lists of nodes joined, one behind the other. -/
def catL : List (List Nd) → List Nd
  | [] => [⟨2, z4⟩]
  | [x] => x
  | x :: y :: r => ⟨3, z4⟩ :: (x ++ catL (y :: r))
def orL : List (List Nd) → List Nd
  | [] => []
  | [x] => x
  | x :: y :: r => ⟨4, z4⟩ :: (x ++ orL (y :: r))
theorem cats_flat : ∀ xs : List Rx, (cats xs).flat = catL (xs.map Rx.flat)
  | [] => rfl
  | [x] => rfl
  | x :: y :: r => by
    have := cats_flat (y :: r)
    simp only [List.map_cons] at this ⊢
    rw [cats, Rx.flat, this, catL]
theorem ors_flat : ∀ ss : List Rx, ss ≠ [] → (ors ss).flat = orL (ss.map Rx.flat)
  | [], h => absurd rfl h
  | [x], _ => rfl
  | x :: y :: r, _ => by
    have := ors_flat (y :: r) (by simp)
    simp only [List.map_cons] at this ⊢
    rw [ors, Rx.flat, this, orL]
/-- All nodes of some lists. -/
def szL : List (List Nd) → Nat
  | [] => 0
  | x :: r => x.length + szL r
theorem szL_app : ∀ (x y : List (List Nd)), szL (x ++ y) = szL x + szL y
  | [], y => by simp [szL]
  | a :: r, y => by simp [szL, szL_app r y]; omega
theorem catL_len : ∀ xs : List (List Nd), (catL xs).length ≤ szL xs + xs.length + 1
  | [] => by simp [catL, szL]
  | [x] => by simp [catL, szL]; omega
  | x :: y :: r => by
    have := catL_len (y :: r)
    simp [catL, szL] at this ⊢; omega
theorem catL_len1 : ∀ xs : List (List Nd), xs ≠ [] → (catL xs).length + 1 ≤ szL xs + xs.length
  | [], h => absurd rfl h
  | [x], _ => by simp [catL, szL]
  | x :: y :: r, _ => by
    have := catL_len1 (y :: r) (by simp)
    simp [catL, szL] at this ⊢; omega
theorem orL_len : ∀ xs : List (List Nd), (orL xs).length ≤ szL xs + xs.length
  | [] => by simp [orL, szL]
  | [x] => by simp [orL, szL]
  | x :: y :: r => by
    have := orL_len (y :: r)
    simp [orL, szL] at this ⊢; omega
theorem szL_drop : ∀ (xs : List (List Nd)) (i : Nat), szL (xs.drop i) ≤ szL xs
  | xs, 0 => by simp
  | [], i + 1 => by simp
  | x :: r, i + 1 => by
    have := szL_drop r i
    simp [szL]; omega
theorem posts_size : ∀ (l : List UInt8) (t : Rx), (posts t l).1.flat.length + (posts t l).2.length = t.flat.length + l.length
  | [], t => by simp [posts]
  | c :: r, t => by
    rw [posts]
    split
    · have := posts_size r (.one ⟨5, z4⟩ t); simp [Rx.flat] at this ⊢; omega
    · split
      · have := posts_size r (.one ⟨6, z4⟩ t); simp [Rx.flat] at this ⊢; omega
      · split
        · have := posts_size r (.one ⟨7, z4⟩ t); simp [Rx.flat] at this ⊢; omega
        · simp
theorem alt_ne (l : List UInt8) (ss : List Rx) (l1 : List UInt8) (h : Alt l (.ok (ss, l1))) : ss ≠ [] := by
  cases h with
  | last => simp
  | more => simp
theorem sizes : ∀ (n : Nat) (l : List UInt8), l.length ≤ n → (∀ x l1, Atom l (.ok (x, l1)) → x.flat.length + 1 + 2 * l1.length ≤ 2 * l.length) ∧ (∀ xs l1, Seq l (.ok (xs, l1)) → szL (xs.map Rx.flat) + xs.length + 2 * l1.length ≤ 2 * l.length) ∧ (∀ ss l1, Alt l (.ok (ss, l1)) → szL (ss.map Rx.flat) + ss.length + 2 * l1.length ≤ 2 * l.length + 2)
  | n, l, hn => by
    have hA : ∀ x l1, Atom l (.ok (x, l1)) → x.flat.length + 1 + 2 * l1.length ≤ 2 * l.length := by
      intro x l1 h
      generalize hr : (Except.ok (x, l1) : Except Nat (Rx × List UInt8)) = r at h
      cases h with
      | bad => cases hr
      | ok _ m l2 h1 h2 =>
        have g := base_len _ _ _ h2
        have p := posts_size l2 (.leaf m)
        have q := posts_len l2 (.leaf m)
        injection hr with hr
        rw [← hr] at p q
        simp [Rx.flat] at p q ⊢
        omega
      | inBad => cases hr
      | inOpen => cases hr
      | inOk l0 ss l2 h1 =>
        cases n with
        | zero => simp at hn
        | succ n =>
          have g := (sizes n l0 (by simp at hn; omega)).2.2 ss _ h1
          have p := posts_size l2 (ors ss)
          have q := posts_len l2 (ors ss)
          have hne := alt_ne _ _ _ h1
          have o := ors_flat ss hne
          have ol := orL_len (ss.map Rx.flat)
          injection hr with hr
          rw [← hr] at p q
          rw [o] at p
          simp at p q g ol ⊢
          omega
    have hS : ∀ xs l1, Seq l (.ok (xs, l1)) → szL (xs.map Rx.flat) + xs.length + 2 * l1.length ≤ 2 * l.length := by
      intro xs l1 h
      cases h with
      | stop => simp [szL]
      | more _ x l2 xs _ h1 h2 h3 =>
        have g := hA x l2 h2
        have fp := x.flat_pos
        cases n with
        | zero => omega
        | succ n =>
          have g2 := (sizes n l2 (by omega)).2.1 xs l1 h3
          simp [szL] at g2 ⊢
          omega
    refine ⟨hA, hS, ?_⟩
    intro ss l1 h
    cases h with
    | last _ xs _ h1 h2 =>
      have g := hS xs l1 h1
      have c := catL_len (xs.map Rx.flat)
      simp [szL, cats_flat] at g c ⊢
      omega
    | more _ xs l2 ss _ h1 h2 =>
      have g := hS xs _ h1
      have c := catL_len (xs.map Rx.flat)
      simp at g
      cases n with
      | zero => omega
      | succ n =>
        have g2 := (sizes n l2 (by omega)).2.2 ss l1 h2
        simp [szL, cats_flat] at g g2 c ⊢
        omega
end Go.Proofs.Ytmdfdlljeggbbaa
