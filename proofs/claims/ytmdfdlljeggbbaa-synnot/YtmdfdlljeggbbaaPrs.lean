/- How a text is read as a pattern. No function of the program. -/
import Derived.Test.YtmdfdlljeggbbaaNdX
import Derived.Test.YtmdfdlljeggbbaaMt4
set_option linter.unusedSimpArgs false
set_option linter.unusedVariables false
set_option maxRecDepth 100000
namespace Go.Proofs.Ytmdfdlljeggbbaa
open Go.RowKit

/-- A hex digit's value. -/
def hx (c : UInt8) : Option Nat := if 48 ≤ c.toNat ∧ c.toNat < 58 then some (c.toNat - 48) else if 97 ≤ c.toNat ∧ c.toNat < 103 then some (c.toNat - 87) else none
/-- Two hex digits; k: how many bytes are left where the byte begins. -/
def rdHex (k : Nat) : List UInt8 → Except Nat (Nat × List UInt8)
  | [] => .error 0
  | [x] => if (hx x).isSome then .error 0 else .error k
  | x :: y :: l =>
    match hx x, hx y with
    | some a, some b => .ok (a * 16 + b, l)
    | _, _ => .error k
/-- What is behind a backslash. -/
def rdEsc (k : Nat) : List UInt8 → Except Nat (Nat × List UInt8)
  | [] => .error 0
  | d :: l => if d ∈ signL then .ok (d.toNat, l) else if d = 120 then rdHex k l else .error k
/-- One byte; or how many bytes are left where it fails. -/
def rd1 : List UInt8 → Except Nat (Nat × List UInt8)
  | [] => .error 0
  | c :: l => if c = 92 then rdEsc (l.length + 1) l else if c.toNat < 32 ∨ 126 < c.toNat ∨ c ∈ signL then .error (l.length + 1) else .ok (c.toNat, l)
/-- A class and so many bytes from one on. -/
def addTo (c : C4) (lo : Nat) : Nat → C4
  | 0 => c
  | n + 1 => (addTo c lo n).add ((lo + n : Nat) : Int)
/-- The items of a class, and what is behind its bracket. -/
def items : Nat → C4 → List UInt8 → Except Nat (C4 × List UInt8)
  | 0, _, l => .error l.length
  | f + 1, c, l =>
    if l.head? = some 93 then .ok (c, l.tail)
    else
      match rd1 l with
      | .error k => .error k
      | .ok (lo, l1) =>
        if l1.head? = some 45 then
          match rd1 l1.tail with
          | .error k => .error k
          | .ok (hi, l2) => if hi < lo then .error l.length else items f (addTo c lo (hi + 1 - lo)) l2
        else items f (c.add ((lo : Nat) : Int)) l1
/-- A class in brackets, behind the first one. -/
def bracket (l : List UInt8) : Except Nat (C4 × List UInt8) :=
  if l.head? = some 94 then
    match items l.length z4 l.tail with
    | .error k => .error k
    | .ok (c, r) => .ok (c.not, r)
  else items (l.length + 1) z4 l
/-- What is read where no bracket opens. -/
def base (l : List UInt8) : Except Nat (Nd × List UInt8) :=
  if l.head? = some 91 then
    match bracket l.tail with
    | .error k => .error k
    | .ok (c, r) => .ok (⟨1, c⟩, r)
  else if l.head? = some 46 then .ok (⟨1, dotC⟩, l.tail)
  else if l.head? = some 94 then .ok (⟨8, z4⟩, l.tail)
  else if l.head? = some 36 then .ok (⟨9, z4⟩, l.tail)
  else
    match rd1 l with
    | .error k => .error k
    | .ok (b, r) => .ok (⟨1, z4.add ((b : Nat) : Int)⟩, r)
/-- The signs behind an atom. -/
def posts : Rx → List UInt8 → Rx × List UInt8
  | t, [] => (t, [])
  | t, c :: r => if c = 42 then posts (.one ⟨5, z4⟩ t) r else if c = 43 then posts (.one ⟨6, z4⟩ t) r else if c = 63 then posts (.one ⟨7, z4⟩ t) r else (t, c :: r)
def cats : List Rx → Rx
  | [] => .leaf ⟨2, z4⟩
  | [x] => x
  | x :: y :: r => .two ⟨3, z4⟩ x (cats (y :: r))
def ors : List Rx → Rx
  | [] => .leaf ⟨2, z4⟩
  | [x] => x
  | x :: y :: r => .two ⟨4, z4⟩ x (ors (y :: r))
/-- No atom opens here. -/
def stp (l : List UInt8) : Bool :=
  match l with
  | [] => true
  | c :: _ => c == 124 || c == 41
mutual
/-- An atom with its signs. -/
inductive Atom : List UInt8 → Except Nat (Rx × List UInt8) → Prop
  | bad (l : List UInt8) (k : Nat) : l.head? ≠ some 40 → base l = .error k → Atom l (.error k)
  | ok (l : List UInt8) (n : Nd) (l1 : List UInt8) : l.head? ≠ some 40 → base l = .ok (n, l1) → Atom l (.ok (posts (.leaf n) l1))
  | inBad (l : List UInt8) (k : Nat) : Alt l (.error k) → Atom (40 :: l) (.error k)
  | inOpen (l : List UInt8) (ss : List Rx) (l1 : List UInt8) : Alt l (.ok (ss, l1)) → l1.head? ≠ some 41 → Atom (40 :: l) (.error l1.length)
  | inOk (l : List UInt8) (ss : List Rx) (l1 : List UInt8) : Alt l (.ok (ss, 41 :: l1)) → Atom (40 :: l) (.ok (posts (ors ss) l1))
/-- Atoms one behind the other. -/
inductive Seq : List UInt8 → Except Nat (List Rx × List UInt8) → Prop
  | stop (l : List UInt8) : stp l = true → Seq l (.ok ([], l))
  | bad (l : List UInt8) (k : Nat) : stp l = false → Atom l (.error k) → Seq l (.error k)
  | more (l : List UInt8) (x : Rx) (l1 : List UInt8) (xs : List Rx) (l2 : List UInt8) : stp l = false → Atom l (.ok (x, l1)) → Seq l1 (.ok (xs, l2)) → Seq l (.ok (x :: xs, l2))
  | moreBad (l : List UInt8) (x : Rx) (l1 : List UInt8) (k : Nat) : stp l = false → Atom l (.ok (x, l1)) → Seq l1 (.error k) → Seq l (.error k)
/-- Sides one behind the other. -/
inductive Alt : List UInt8 → Except Nat (List Rx × List UInt8) → Prop
  | bad (l : List UInt8) (k : Nat) : Seq l (.error k) → Alt l (.error k)
  | last (l : List UInt8) (xs : List Rx) (l1 : List UInt8) : Seq l (.ok (xs, l1)) → l1.head? ≠ some 124 → Alt l (.ok ([cats xs], l1))
  | more (l : List UInt8) (xs : List Rx) (l1 : List UInt8) (ss : List Rx) (l2 : List UInt8) : Seq l (.ok (xs, 124 :: l1)) → Alt l1 (.ok (ss, l2)) → Alt l (.ok (cats xs :: ss, l2))
  | moreBad (l : List UInt8) (xs : List Rx) (l1 : List UInt8) (k : Nat) : Seq l (.ok (xs, 124 :: l1)) → Alt l1 (.error k) → Alt l (.error k)
end
/-- A whole text. -/
inductive Whole : List UInt8 → Except Nat Rx → Prop
  | bad (l : List UInt8) (k : Nat) : Alt l (.error k) → Whole l (.error k)
  | more (l : List UInt8) (ss : List Rx) (l1 : List UInt8) : Alt l (.ok (ss, l1)) → l1 ≠ [] → Whole l (.error l1.length)
  | ok (l : List UInt8) (ss : List Rx) : Alt l (.ok (ss, [])) → Whole l (.ok (ors ss))

/-! What is left is less -/
theorem hx_lt (c : UInt8) (a : Nat) (h : hx c = some a) : a < 16 := by
  unfold hx at h
  split at h
  · simp at h; omega
  · split at h
    · simp at h; omega
    · cases h
theorem rdHex_len (k : Nat) : ∀ (l : List UInt8) (b : Nat) (r : List UInt8), rdHex k l = .ok (b, r) → r.length < l.length ∧ b < 256
  | [], b, r, h => by simp [rdHex] at h
  | [x], b, r, h => by simp only [rdHex] at h; split at h <;> cases h
  | x :: y :: l, b, r, h => by
    simp only [rdHex] at h
    split at h
    · rename_i a b' h1 h2
      have := hx_lt _ _ h1
      have := hx_lt _ _ h2
      simp at h
      obtain ⟨rfl, rfl⟩ := h
      exact ⟨by simp; omega, by omega⟩
    · cases h
theorem rdEsc_len (k : Nat) : ∀ (l : List UInt8) (b : Nat) (r : List UInt8), rdEsc k l = .ok (b, r) → r.length < l.length ∧ b < 256
  | [], b, r, h => by simp [rdEsc] at h
  | d :: l, b, r, h => by
    rw [rdEsc] at h
    split at h
    · injection h with h
      injection h with h1 h2
      subst h1; subst h2
      exact ⟨by simp, d.toNat_lt⟩
    · split at h
      · have := rdHex_len k l b r h
        exact ⟨by simp; omega, this.2⟩
      · cases h
theorem rd1_len : ∀ (l : List UInt8) (b : Nat) (r : List UInt8), rd1 l = .ok (b, r) → r.length < l.length ∧ b < 256
  | [], b, r, h => by simp [rd1] at h
  | c :: l, b, r, h => by
    rw [rd1] at h
    split at h
    · have := rdEsc_len _ l b r h
      exact ⟨by simp; omega, this.2⟩
    · split at h
      · cases h
      · injection h with h
        injection h with h1 h2
        subst h1; subst h2
        exact ⟨by simp, c.toNat_lt⟩
theorem tail_len (l : List UInt8) (c : UInt8) (h : l.head? = some c) : l = c :: l.tail ∧ l.tail.length + 1 = l.length := by
  cases l with
  | nil => simp at h
  | cons d r => simp at h; subst h; simp
theorem items_len : ∀ (f : Nat) (c : C4) (l : List UInt8) (k : C4) (r : List UInt8), items f c l = .ok (k, r) → r.length < l.length
  | 0, c, l, k, r, h => by simp [items] at h
  | f + 1, c, l, k, r, h => by
    rw [items] at h
    split at h
    · rename_i h0
      have := tail_len l _ h0
      simp at h
      rw [← h.2]; omega
    · cases h1 : rd1 l with
      | error e => rw [h1] at h; simp at h
      | ok p =>
        obtain ⟨lo, l1⟩ := p
        have g1 := (rd1_len l lo l1 h1).1
        rw [h1] at h
        simp only at h
        split at h
        · rename_i h2
          have g2 := (tail_len l1 _ h2).2
          cases h3 : rd1 l1.tail with
          | error e => rw [h3] at h; simp at h
          | ok p =>
            obtain ⟨hi, l2⟩ := p
            have g3 := (rd1_len l1.tail hi l2 h3).1
            rw [h3] at h
            simp only at h
            split at h
            · simp at h
            · have := items_len f _ _ _ _ h
              omega
        · have := items_len f _ _ _ _ h
          omega
theorem bracket_len (l : List UInt8) (k : C4) (r : List UInt8) (h : bracket l = .ok (k, r)) : r.length < l.length := by
  unfold bracket at h
  split at h
  · rename_i h0
    have := tail_len l _ h0
    cases h1 : items l.length z4 l.tail with
    | error e => rw [h1] at h; simp at h
    | ok p =>
      obtain ⟨c, r'⟩ := p
      have := items_len _ _ _ _ _ h1
      rw [h1] at h
      simp at h
      rw [← h.2]; omega
  · exact items_len _ _ _ _ _ h
theorem base_len (l : List UInt8) (n : Nd) (r : List UInt8) (h : base l = .ok (n, r)) : r.length < l.length := by
  unfold base at h
  split at h
  · rename_i h0
    have := tail_len l _ h0
    cases h1 : bracket l.tail with
    | error e => rw [h1] at h; simp at h
    | ok p =>
      obtain ⟨c, r'⟩ := p
      have := bracket_len _ _ _ h1
      rw [h1] at h
      simp at h
      rw [← h.2]; omega
  · split at h
    · rename_i h0
      have := tail_len l _ h0
      simp at h; rw [← h.2]; omega
    · split at h
      · rename_i h0
        have := tail_len l _ h0
        simp at h; rw [← h.2]; omega
      · split at h
        · rename_i h0
          have := tail_len l _ h0
          simp at h; rw [← h.2]; omega
        · cases h1 : rd1 l with
          | error e => rw [h1] at h; simp at h
          | ok p =>
            obtain ⟨b, r'⟩ := p
            have := (rd1_len _ _ _ h1).1
            rw [h1] at h
            simp at h
            rw [← h.2]; omega
theorem posts_len : ∀ (l : List UInt8) (t : Rx), (posts t l).2.length ≤ l.length
  | [], t => by simp [posts]
  | c :: r, t => by
    rw [posts]
    split
    · have := posts_len r (.one ⟨5, z4⟩ t); simp; omega
    · split
      · have := posts_len r (.one ⟨6, z4⟩ t); simp; omega
      · split
        · have := posts_len r (.one ⟨7, z4⟩ t); simp; omega
        · simp
/-! Every text is read, or fails -/
theorem total : ∀ (n : Nat) (l : List UInt8), l.length ≤ n → (∃ r, Atom l r ∧ ∀ x l1, r = .ok (x, l1) → l1.length < l.length) ∧ (∃ r, Seq l r ∧ ∀ x l1, r = .ok (x, l1) → l1.length ≤ l.length) ∧ (∃ r, Alt l r ∧ ∀ x l1, r = .ok (x, l1) → l1.length ≤ l.length)
  | n, l, hn => by
    have hA : ∃ r, Atom l r ∧ ∀ x l1, r = .ok (x, l1) → l1.length < l.length := by
      by_cases h : l.head? = some 40
      · obtain ⟨e, hl⟩ := tail_len l _ h
        cases n with
        | zero => simp at hn; subst hn; simp at h
        | succ n =>
          obtain ⟨_, _, ⟨r, hr, hlr⟩⟩ := total n l.tail (by omega)
          rw [e]
          cases r with
          | error k => exact ⟨_, Atom.inBad _ k hr, fun x l1 h => by cases h⟩
          | ok p =>
            obtain ⟨ss, l1⟩ := p
            by_cases h4 : l1.head? = some 41
            · obtain ⟨e1, hl1⟩ := tail_len l1 _ h4
              rw [e1] at hr
              refine ⟨_, Atom.inOk _ ss _ hr, fun x l2 h => ?_⟩
              have g := hlr _ _ rfl
              injection h with h
              have := posts_len l1.tail (ors ss)
              rw [h] at this
              simp only at this
              simp only [List.length_cons]
              omega
            · exact ⟨_, Atom.inOpen _ ss l1 hr h4, fun x l1 h => by cases h⟩
      · cases hb : base l with
        | error k => exact ⟨_, Atom.bad l k h hb, fun x l1 h => by cases h⟩
        | ok p =>
          obtain ⟨m, l1⟩ := p
          refine ⟨_, Atom.ok l m l1 h hb, fun x l2 h => ?_⟩
          have g := base_len _ _ _ hb
          injection h with h
          have := posts_len l1 (.leaf m)
          rw [h] at this
          simp only at this
          omega
    have hS : ∃ r, Seq l r ∧ ∀ x l1, r = .ok (x, l1) → l1.length ≤ l.length := by
      cases hs : stp l with
      | true => exact ⟨_, Seq.stop l hs, fun x l1 h => by injection h with h; injection h with _ h; rw [h]; exact Nat.le_refl _⟩
      | false =>
        obtain ⟨r, hr, hlr⟩ := hA
        cases r with
        | error k => exact ⟨_, Seq.bad l k hs hr, fun x l1 h => by cases h⟩
        | ok p =>
          obtain ⟨x, l1⟩ := p
          have g := hlr _ _ rfl
          cases n with
          | zero => omega
          | succ n =>
            obtain ⟨_, ⟨r2, hr2, hlr2⟩, _⟩ := total n l1 (by omega)
            cases r2 with
            | error k => exact ⟨_, Seq.moreBad l x l1 k hs hr hr2, fun x l1 h => by cases h⟩
            | ok p =>
              obtain ⟨xs, l2⟩ := p
              refine ⟨_, Seq.more l x l1 xs l2 hs hr hr2, fun x l3 h => ?_⟩
              have g2 := hlr2 _ _ rfl
              injection h with h
              injection h with _ h
              rw [← h]; omega
    refine ⟨hA, hS, ?_⟩
    obtain ⟨r, hr, hlr⟩ := hS
    cases r with
    | error k => exact ⟨_, Alt.bad l k hr, fun x l1 h => by cases h⟩
    | ok p =>
      obtain ⟨xs, l1⟩ := p
      have g := hlr _ _ rfl
      by_cases h4 : l1.head? = some 124
      · obtain ⟨e1, hl1⟩ := tail_len l1 _ h4
        cases n with
        | zero => omega
        | succ n =>
          obtain ⟨_, _, ⟨r2, hr2, hlr2⟩⟩ := total n l1.tail (by omega)
          rw [e1] at hr
          cases r2 with
          | error k => exact ⟨_, Alt.moreBad l xs _ k hr hr2, fun x l1 h => by cases h⟩
          | ok p =>
            obtain ⟨ss, l2⟩ := p
            refine ⟨_, Alt.more l xs _ ss l2 hr hr2, fun x l3 h => ?_⟩
            have g2 := hlr2 _ _ rfl
            injection h with h
            injection h with _ h
            rw [← h]; omega
      · exact ⟨_, Alt.last l xs l1 hr h4, fun x l2 h => by injection h with h; injection h with _ h; rw [← h]; exact g⟩
theorem whole_total (l : List UInt8) : ∃ r, Whole l r := by
  obtain ⟨_, _, ⟨r, hr, _⟩⟩ := total l.length l (Nat.le_refl _)
  cases r with
  | error k => exact ⟨_, Whole.bad l k hr⟩
  | ok p =>
    obtain ⟨ss, l1⟩ := p
    by_cases h : l1 = []
    · subst h; exact ⟨_, Whole.ok l ss hr⟩
    · exact ⟨_, Whole.more l ss l1 hr h⟩
end Go.Proofs.Ytmdfdlljeggbbaa
