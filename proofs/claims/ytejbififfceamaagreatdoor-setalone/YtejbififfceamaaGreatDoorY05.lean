/- How a text is read as a pattern. No function of the program. What the document's own functions answer: ClassText. What is printed is read: plain mathematics. -/
import Derived.Test.YtejbififfceamaaGreatDoorY04
namespace Go.Proofs.YtejbififfceamaaGreatDoor
set_option linter.unusedSimpArgs false
set_option linter.unusedVariables false
set_option maxRecDepth 100000
open Go.RowKit

/-- A hex digit's value. -/
def hx (c : UInt8) : Option Nat := if 48 ≤ c.toNat ∧ c.toNat < 58 then some (c.toNat - 48) else if 97 ≤ c.toNat ∧ c.toNat < 103 then some (c.toNat - 87) else none
/-- Two hex digits; k: how many bytes are left where the byte begins. -/
def rdHex (k : Nat) : List UInt8 → Except Nat (Nat × List UInt8)
  | [] => .error 0
  | [x] => if (hx x).isSome then .error 0 else .error k
  | x :: y :: l =>
    match hx x, hx y with
    | some a, some b => .ok (a * 16 + b, l)
    | _, _ => .error k
/-- What is behind a backslash. -/
def rdEsc (k : Nat) : List UInt8 → Except Nat (Nat × List UInt8)
  | [] => .error 0
  | d :: l => if d ∈ signL then .ok (d.toNat, l) else if d = 120 then rdHex k l else .error k
/-- One byte; or how many bytes are left where it fails. -/
def rd1 : List UInt8 → Except Nat (Nat × List UInt8)
  | [] => .error 0
  | c :: l => if c = 92 then rdEsc (l.length + 1) l else if c.toNat < 32 ∨ 126 < c.toNat ∨ c ∈ signL then .error (l.length + 1) else .ok (c.toNat, l)
/-- A class and so many bytes from one on. -/
def addTo (c : C4) (lo : Nat) : Nat → C4
  | 0 => c
  | n + 1 => (addTo c lo n).add ((lo + n : Nat) : Int)
/-- The items of a class, and what is behind its bracket. -/
def items : Nat → C4 → List UInt8 → Except Nat (C4 × List UInt8)
  | 0, _, l => .error l.length
  | f + 1, c, l =>
    if l.head? = some 93 then .ok (c, l.tail)
    else
      match rd1 l with
      | .error k => .error k
      | .ok (lo, l1) =>
        if l1.head? = some 45 then
          match rd1 l1.tail with
          | .error k => .error k
          | .ok (hi, l2) => if hi < lo then .error l.length else items f (addTo c lo (hi + 1 - lo)) l2
        else items f (c.add ((lo : Nat) : Int)) l1
/-- A class in brackets, behind the first one. -/
def bracket (l : List UInt8) : Except Nat (C4 × List UInt8) :=
  if l.head? = some 94 then
    match items l.length z4 l.tail with
    | .error k => .error k
    | .ok (c, r) => .ok (c.not, r)
  else items (l.length + 1) z4 l
/-- What is read where no bracket opens. -/
def base (l : List UInt8) : Except Nat (Nd × List UInt8) :=
  if l.head? = some 91 then
    match bracket l.tail with
    | .error k => .error k
    | .ok (c, r) => .ok (⟨1, c⟩, r)
  else if l.head? = some 46 then .ok (⟨1, dotC⟩, l.tail)
  else if l.head? = some 94 then .ok (⟨8, z4⟩, l.tail)
  else if l.head? = some 36 then .ok (⟨9, z4⟩, l.tail)
  else
    match rd1 l with
    | .error k => .error k
    | .ok (b, r) => .ok (⟨1, z4.add ((b : Nat) : Int)⟩, r)
/-- The signs behind an atom. -/
def posts : Rx → List UInt8 → Rx × List UInt8
  | t, [] => (t, [])
  | t, c :: r => if c = 42 then posts (.one ⟨5, z4⟩ t) r else if c = 43 then posts (.one ⟨6, z4⟩ t) r else if c = 63 then posts (.one ⟨7, z4⟩ t) r else (t, c :: r)
def cats : List Rx → Rx
  | [] => .leaf ⟨2, z4⟩
  | [x] => x
  | x :: y :: r => .two ⟨3, z4⟩ x (cats (y :: r))
def ors : List Rx → Rx
  | [] => .leaf ⟨2, z4⟩
  | [x] => x
  | x :: y :: r => .two ⟨4, z4⟩ x (ors (y :: r))
/-- No atom opens here. -/
def stp (l : List UInt8) : Bool :=
  match l with
  | [] => true
  | c :: _ => c == 124 || c == 41
mutual
/-- An atom with its signs. -/
inductive Atom : List UInt8 → Except Nat (Rx × List UInt8) → Prop
  | bad (l : List UInt8) (k : Nat) : l.head? ≠ some 40 → base l = .error k → Atom l (.error k)
  | ok (l : List UInt8) (n : Nd) (l1 : List UInt8) : l.head? ≠ some 40 → base l = .ok (n, l1) → Atom l (.ok (posts (.leaf n) l1))
  | inBad (l : List UInt8) (k : Nat) : Alt l (.error k) → Atom (40 :: l) (.error k)
  | inOpen (l : List UInt8) (ss : List Rx) (l1 : List UInt8) : Alt l (.ok (ss, l1)) → l1.head? ≠ some 41 → Atom (40 :: l) (.error l1.length)
  | inOk (l : List UInt8) (ss : List Rx) (l1 : List UInt8) : Alt l (.ok (ss, 41 :: l1)) → Atom (40 :: l) (.ok (posts (ors ss) l1))
/-- Atoms one behind the other. -/
inductive Seq : List UInt8 → Except Nat (List Rx × List UInt8) → Prop
  | stop (l : List UInt8) : stp l = true → Seq l (.ok ([], l))
  | bad (l : List UInt8) (k : Nat) : stp l = false → Atom l (.error k) → Seq l (.error k)
  | more (l : List UInt8) (x : Rx) (l1 : List UInt8) (xs : List Rx) (l2 : List UInt8) : stp l = false → Atom l (.ok (x, l1)) → Seq l1 (.ok (xs, l2)) → Seq l (.ok (x :: xs, l2))
  | moreBad (l : List UInt8) (x : Rx) (l1 : List UInt8) (k : Nat) : stp l = false → Atom l (.ok (x, l1)) → Seq l1 (.error k) → Seq l (.error k)
/-- Sides one behind the other. -/
inductive Alt : List UInt8 → Except Nat (List Rx × List UInt8) → Prop
  | bad (l : List UInt8) (k : Nat) : Seq l (.error k) → Alt l (.error k)
  | last (l : List UInt8) (xs : List Rx) (l1 : List UInt8) : Seq l (.ok (xs, l1)) → l1.head? ≠ some 124 → Alt l (.ok ([cats xs], l1))
  | more (l : List UInt8) (xs : List Rx) (l1 : List UInt8) (ss : List Rx) (l2 : List UInt8) : Seq l (.ok (xs, 124 :: l1)) → Alt l1 (.ok (ss, l2)) → Alt l (.ok (cats xs :: ss, l2))
  | moreBad (l : List UInt8) (xs : List Rx) (l1 : List UInt8) (k : Nat) : Seq l (.ok (xs, 124 :: l1)) → Alt l1 (.error k) → Alt l (.error k)
end
/-- A whole text. -/
inductive Whole : List UInt8 → Except Nat Rx → Prop
  | bad (l : List UInt8) (k : Nat) : Alt l (.error k) → Whole l (.error k)
  | more (l : List UInt8) (ss : List Rx) (l1 : List UInt8) : Alt l (.ok (ss, l1)) → l1 ≠ [] → Whole l (.error l1.length)
  | ok (l : List UInt8) (ss : List Rx) : Alt l (.ok (ss, [])) → Whole l (.ok (ors ss))

/-! What is left is less -/
theorem hx_lt (c : UInt8) (a : Nat) (h : hx c = some a) : a < 16 := by
  unfold hx at h
  split at h
  · simp at h; omega
  · split at h
    · simp at h; omega
    · cases h
theorem rdHex_len (k : Nat) : ∀ (l : List UInt8) (b : Nat) (r : List UInt8), rdHex k l = .ok (b, r) → r.length < l.length ∧ b < 256
  | [], b, r, h => by simp [rdHex] at h
  | [x], b, r, h => by simp only [rdHex] at h; split at h <;> cases h
  | x :: y :: l, b, r, h => by
    simp only [rdHex] at h
    split at h
    · rename_i a b' h1 h2
      have := hx_lt _ _ h1
      have := hx_lt _ _ h2
      simp at h
      obtain ⟨rfl, rfl⟩ := h
      exact ⟨by simp; omega, by omega⟩
    · cases h
theorem rdEsc_len (k : Nat) : ∀ (l : List UInt8) (b : Nat) (r : List UInt8), rdEsc k l = .ok (b, r) → r.length < l.length ∧ b < 256
  | [], b, r, h => by simp [rdEsc] at h
  | d :: l, b, r, h => by
    rw [rdEsc] at h
    split at h
    · injection h with h
      injection h with h1 h2
      subst h1; subst h2
      exact ⟨by simp, d.toNat_lt⟩
    · split at h
      · have := rdHex_len k l b r h
        exact ⟨by simp; omega, this.2⟩
      · cases h
theorem rd1_len : ∀ (l : List UInt8) (b : Nat) (r : List UInt8), rd1 l = .ok (b, r) → r.length < l.length ∧ b < 256
  | [], b, r, h => by simp [rd1] at h
  | c :: l, b, r, h => by
    rw [rd1] at h
    split at h
    · have := rdEsc_len _ l b r h
      exact ⟨by simp; omega, this.2⟩
    · split at h
      · cases h
      · injection h with h
        injection h with h1 h2
        subst h1; subst h2
        exact ⟨by simp, c.toNat_lt⟩
theorem tail_len (l : List UInt8) (c : UInt8) (h : l.head? = some c) : l = c :: l.tail ∧ l.tail.length + 1 = l.length := by
  cases l with
  | nil => simp at h
  | cons d r => simp at h; subst h; simp
theorem items_len : ∀ (f : Nat) (c : C4) (l : List UInt8) (k : C4) (r : List UInt8), items f c l = .ok (k, r) → r.length < l.length
  | 0, c, l, k, r, h => by simp [items] at h
  | f + 1, c, l, k, r, h => by
    rw [items] at h
    split at h
    · rename_i h0
      have := tail_len l _ h0
      simp at h
      rw [← h.2]; omega
    · cases h1 : rd1 l with
      | error e => rw [h1] at h; simp at h
      | ok p =>
        obtain ⟨lo, l1⟩ := p
        have g1 := (rd1_len l lo l1 h1).1
        rw [h1] at h
        simp only at h
        split at h
        · rename_i h2
          have g2 := (tail_len l1 _ h2).2
          cases h3 : rd1 l1.tail with
          | error e => rw [h3] at h; simp at h
          | ok p =>
            obtain ⟨hi, l2⟩ := p
            have g3 := (rd1_len l1.tail hi l2 h3).1
            rw [h3] at h
            simp only at h
            split at h
            · simp at h
            · have := items_len f _ _ _ _ h
              omega
        · have := items_len f _ _ _ _ h
          omega
theorem bracket_len (l : List UInt8) (k : C4) (r : List UInt8) (h : bracket l = .ok (k, r)) : r.length < l.length := by
  unfold bracket at h
  split at h
  · rename_i h0
    have := tail_len l _ h0
    cases h1 : items l.length z4 l.tail with
    | error e => rw [h1] at h; simp at h
    | ok p =>
      obtain ⟨c, r'⟩ := p
      have := items_len _ _ _ _ _ h1
      rw [h1] at h
      simp at h
      rw [← h.2]; omega
  · exact items_len _ _ _ _ _ h
theorem base_len (l : List UInt8) (n : Nd) (r : List UInt8) (h : base l = .ok (n, r)) : r.length < l.length := by
  unfold base at h
  split at h
  · rename_i h0
    have := tail_len l _ h0
    cases h1 : bracket l.tail with
    | error e => rw [h1] at h; simp at h
    | ok p =>
      obtain ⟨c, r'⟩ := p
      have := bracket_len _ _ _ h1
      rw [h1] at h
      simp at h
      rw [← h.2]; omega
  · split at h
    · rename_i h0
      have := tail_len l _ h0
      simp at h; rw [← h.2]; omega
    · split at h
      · rename_i h0
        have := tail_len l _ h0
        simp at h; rw [← h.2]; omega
      · split at h
        · rename_i h0
          have := tail_len l _ h0
          simp at h; rw [← h.2]; omega
        · cases h1 : rd1 l with
          | error e => rw [h1] at h; simp at h
          | ok p =>
            obtain ⟨b, r'⟩ := p
            have := (rd1_len _ _ _ h1).1
            rw [h1] at h
            simp at h
            rw [← h.2]; omega
theorem posts_len : ∀ (l : List UInt8) (t : Rx), (posts t l).2.length ≤ l.length
  | [], t => by simp [posts]
  | c :: r, t => by
    rw [posts]
    split
    · have := posts_len r (.one ⟨5, z4⟩ t); simp; omega
    · split
      · have := posts_len r (.one ⟨6, z4⟩ t); simp; omega
      · split
        · have := posts_len r (.one ⟨7, z4⟩ t); simp; omega
        · simp
/-! Every text is read, or fails -/
theorem total : ∀ (n : Nat) (l : List UInt8), l.length ≤ n → (∃ r, Atom l r ∧ ∀ x l1, r = .ok (x, l1) → l1.length < l.length) ∧ (∃ r, Seq l r ∧ ∀ x l1, r = .ok (x, l1) → l1.length ≤ l.length) ∧ (∃ r, Alt l r ∧ ∀ x l1, r = .ok (x, l1) → l1.length ≤ l.length)
  | n, l, hn => by
    have hA : ∃ r, Atom l r ∧ ∀ x l1, r = .ok (x, l1) → l1.length < l.length := by
      by_cases h : l.head? = some 40
      · obtain ⟨e, hl⟩ := tail_len l _ h
        cases n with
        | zero => simp at hn; subst hn; simp at h
        | succ n =>
          obtain ⟨_, _, ⟨r, hr, hlr⟩⟩ := total n l.tail (by omega)
          rw [e]
          cases r with
          | error k => exact ⟨_, Atom.inBad _ k hr, fun x l1 h => by cases h⟩
          | ok p =>
            obtain ⟨ss, l1⟩ := p
            by_cases h4 : l1.head? = some 41
            · obtain ⟨e1, hl1⟩ := tail_len l1 _ h4
              rw [e1] at hr
              refine ⟨_, Atom.inOk _ ss _ hr, fun x l2 h => ?_⟩
              have g := hlr _ _ rfl
              injection h with h
              have := posts_len l1.tail (ors ss)
              rw [h] at this
              simp only at this
              simp only [List.length_cons]
              omega
            · exact ⟨_, Atom.inOpen _ ss l1 hr h4, fun x l1 h => by cases h⟩
      · cases hb : base l with
        | error k => exact ⟨_, Atom.bad l k h hb, fun x l1 h => by cases h⟩
        | ok p =>
          obtain ⟨m, l1⟩ := p
          refine ⟨_, Atom.ok l m l1 h hb, fun x l2 h => ?_⟩
          have g := base_len _ _ _ hb
          injection h with h
          have := posts_len l1 (.leaf m)
          rw [h] at this
          simp only at this
          omega
    have hS : ∃ r, Seq l r ∧ ∀ x l1, r = .ok (x, l1) → l1.length ≤ l.length := by
      cases hs : stp l with
      | true => exact ⟨_, Seq.stop l hs, fun x l1 h => by injection h with h; injection h with _ h; rw [h]; exact Nat.le_refl _⟩
      | false =>
        obtain ⟨r, hr, hlr⟩ := hA
        cases r with
        | error k => exact ⟨_, Seq.bad l k hs hr, fun x l1 h => by cases h⟩
        | ok p =>
          obtain ⟨x, l1⟩ := p
          have g := hlr _ _ rfl
          cases n with
          | zero => omega
          | succ n =>
            obtain ⟨_, ⟨r2, hr2, hlr2⟩, _⟩ := total n l1 (by omega)
            cases r2 with
            | error k => exact ⟨_, Seq.moreBad l x l1 k hs hr hr2, fun x l1 h => by cases h⟩
            | ok p =>
              obtain ⟨xs, l2⟩ := p
              refine ⟨_, Seq.more l x l1 xs l2 hs hr hr2, fun x l3 h => ?_⟩
              have g2 := hlr2 _ _ rfl
              injection h with h
              injection h with _ h
              rw [← h]; omega
    refine ⟨hA, hS, ?_⟩
    obtain ⟨r, hr, hlr⟩ := hS
    cases r with
    | error k => exact ⟨_, Alt.bad l k hr, fun x l1 h => by cases h⟩
    | ok p =>
      obtain ⟨xs, l1⟩ := p
      have g := hlr _ _ rfl
      by_cases h4 : l1.head? = some 124
      · obtain ⟨e1, hl1⟩ := tail_len l1 _ h4
        cases n with
        | zero => omega
        | succ n =>
          obtain ⟨_, _, ⟨r2, hr2, hlr2⟩⟩ := total n l1.tail (by omega)
          rw [e1] at hr
          cases r2 with
          | error k => exact ⟨_, Alt.moreBad l xs _ k hr hr2, fun x l1 h => by cases h⟩
          | ok p =>
            obtain ⟨ss, l2⟩ := p
            refine ⟨_, Alt.more l xs _ ss l2 hr hr2, fun x l3 h => ?_⟩
            have g2 := hlr2 _ _ rfl
            injection h with h
            injection h with _ h
            rw [← h]; omega
      · exact ⟨_, Alt.last l xs l1 hr h4, fun x l2 h => by injection h with h; injection h with _ h; rw [← h]; exact g⟩
theorem whole_total (l : List UInt8) : ∃ r, Whole l r := by
  obtain ⟨_, _, ⟨r, hr, _⟩⟩ := total l.length l (Nat.le_refl _)
  cases r with
  | error k => exact ⟨_, Whole.bad l k hr⟩
  | ok p =>
    obtain ⟨ss, l1⟩ := p
    by_cases h : l1 = []
    · subst h; exact ⟨_, Whole.ok l ss hr⟩
    · exact ⟨_, Whole.more l ss l1 hr h⟩
end Go.Proofs.YtejbififfceamaaGreatDoor
namespace Go.Proofs.YtejbififfceamaaGreatDoor
set_option linter.unusedSimpArgs false
set_option linter.unusedVariables false
open Go.RowKit

theorem cnt_two (p : Nat → Bool) : ∀ (n i j : Nat), i < n → j < n → i ≠ j → p i = true → p j = true → 2 ≤ cnt p n
  | 0, i, j, hi, _, _, _, _ => by omega
  | n + 1, i, j, hi, hj, hij, pi, pj => by
    have pos : ∀ m t, t < m → p t = true → 1 ≤ cnt p m := by
      intro m t ht pt
      rcases Nat.eq_zero_or_pos (cnt p m) with h0 | h0
      · have := cnt_pos p m h0 t ht
        rw [this] at pt
        cases pt
      · exact h0
    rw [cnt]
    by_cases e1 : i = n
    · subst e1
      rw [pi]
      have := pos i j (by omega) pj
      simp
      omega
    · by_cases e2 : j = n
      · subst e2
        rw [pj]
        have := pos j i (by omega) pi
        simp
        omega
      · have := cnt_two p n i j (by omega) (by omega) hij pi pj
        omega
theorem cnt_one (p : Nat → Bool) (n i j : Nat) (h : cnt p n = 1) (hi : i < n) (hj : j < n) (pi : p i = true) (pj : p j = true) : i = j := by
  by_cases e : i = j
  · exact e
  · have := cnt_two p n i j hi hj e pi pj
    omega
theorem cnt_single (p : Nat → Bool) (n t : Nat) (ht : t < n) (h : ∀ i, i < n → p i = decide (i = t)) : cnt p n = 1 := by
  have key : ∀ m, m ≤ n → cnt p m = if t < m then 1 else 0 := by
    intro m
    induction m with
    | zero => intro _; simp [cnt]
    | succ m ih =>
      intro hm
      rw [cnt, ih (by omega), h m (by omega)]
      by_cases e : m = t
      · subst e; simp
      · by_cases c : t < m
        · have : t < m + 1 := by omega
          simp [c, e, this]
        · have : ¬ t < m + 1 := by omega
          simp [c, e, this]
  rw [key n (Nat.le_refl _), if_pos ht]
theorem dotC_ok : dotC.ok := C4.not_ok (ofL_ok _)
theorem dotC_has (n : Nat) (hn : n < 256) : dotC.has n = !decide (n = 10) := by
  unfold dotC
  rw [C4.has_not (ofL_ok _), ofL_has _ n hn]
  congr 1
  simp only [List.mem_singleton, exists_eq_left]
  have : (UInt8.toNat 10 = n) ↔ (n = 10) := by
    have : UInt8.toNat 10 = 10 := rfl
    rw [this]; omega
  simp only [this]
theorem dot_iff {k : C4} (hk : k.ok) : ((((cnt k.not.has 256 : Nat) : Int) == 1) && !k.has 10) = k.eqb dotC := by
  rw [Bool.eq_iff_iff, C4.eqb_iff, Bool.and_eq_true, Bool.not_eq_true', beq_iff_eq]
  constructor
  · rintro ⟨h1, h2⟩
    have h1' : cnt k.not.has 256 = 1 := by omega
    have h3 : k.not.has 10 = true := by rw [C4.has_not hk, h2]; rfl
    apply C4.ext_has hk dotC_ok
    intro i hi
    rw [dotC_has i hi]
    by_cases e : i = 10
    · subst e; rw [h2]; rfl
    · have : k.not.has i = false := by
        cases h : k.not.has i
        · rfl
        · exact absurd (cnt_one _ 256 i 10 h1' hi (by decide) h h3) e
      rw [C4.has_not hk] at this
      simp only [e, decide_false, Bool.not_false]
      simpa using this
  · intro h
    subst h
    refine ⟨?_, by rw [dotC_has 10 (by decide)]; rfl⟩
    have := cnt_single dotC.not.has 256 10 (by decide) (fun i hi => by rw [C4.has_not dotC_ok, dotC_has i hi, Bool.not_not])
    rw [this]
    rfl
theorem runsL_none (p : Nat → Bool) : ∀ (f i : Nat), (∀ n, i ≤ n → n < 256 → p n = false) → runsL p f i = []
  | 0, i, _ => rfl
  | f + 1, i, h => by
    rw [runsL]
    by_cases hi : i < 256
    · have e := rEnd_no p i hi (h i (Nat.le_refl _) hi)
      rw [if_pos hi, e, if_neg (Nat.lt_irrefl _), List.nil_append]
      exact runsL_none p f (i + 1) (fun n h1 h2 => h n (by omega) h2)
    · rw [if_neg hi]
theorem one_run (p : Nat → Bool) (f i : Nat) (hi : i < 256) (h : cnt p 256 = 1) (pi : p i = true) : runsL p (f + 1) i = bt i := by
  have e1 := rEnd_yes p i hi pi
  have e2 : rEnd p (256 - (i + 1)) (i + 1) = i + 1 := by
    by_cases h2 : i + 1 < 256
    · apply rEnd_no p (i + 1) h2
      cases hp : p (i + 1)
      · rfl
      · exact absurd (cnt_one p 256 i (i + 1) h hi h2 pi hp) (by omega)
    · rw [show 256 - (i + 1) = 0 from by omega, rEnd]
  rw [runsL, if_pos hi, e1, e2, if_pos (Nat.lt_succ_self i), runsL_none p f (i + 1 + 1), List.append_nil]
  · simp [rt]
  · intro n h1 h2
    cases hp : p n
    · rfl
    · exact absurd (cnt_one p 256 i n h hi h2 pi hp) (by omega)
/-- What is left to be told, at a place that is in no run. -/
theorem runsL_no (p : Nat → Bool) (f i : Nat) (hi : i < 256) (h : p i = false) : runsL p (f + 1) i = runsL p f (i + 1) := by
  rw [runsL, if_pos hi, rEnd_no p i hi h, if_neg (Nat.lt_irrefl _), List.nil_append]
theorem runsL_yes (p : Nat → Bool) (f i en : Nat) (hi : i < 256) (he : rEnd p (256 - i) i = en) (hlt : i < en) : runsL p (f + 1) i = rt i (en - 1) ++ runsL p (f + 1) en := by
  have h0 : runsL p (f + 1) en = runsL p f (en + 1) := by
    have hle := rEnd_le p (256 - i) i
    have hsp := rEnd_spec p (256 - i) i
    rw [he] at hle hsp
    by_cases h : en < 256
    · exact runsL_no p f en h (hsp.2 (by omega))
    · rw [runsL, if_neg h]
      cases f with
      | zero => rfl
      | succ f => rw [runsL, if_neg (by omega)]
  rw [h0, runsL, if_pos hi, he, if_pos hlt]
theorem many_one {k : C4} (hk : k.ok) : (k.many 4 == 1) = (((cnt k.has 256 : Nat) : Int) == 1) := by rw [many_cnt hk]
end Go.Proofs.YtejbififfceamaaGreatDoor
namespace Go.Proofs.YtejbififfceamaaGreatDoor
set_option linter.unusedSimpArgs false
set_option linter.unusedVariables false
set_option maxRecDepth 100000
open Go.RowKit

theorem hx_hexd (k : Nat) (h : k < 16) : hx (hexd k) = some k := by
  have key : ∀ k : Fin 16, hx (hexd k.val) = some k.val := by decide +kernel
  exact key ⟨k, h⟩
theorem rd1_bt (n : Nat) (h : n < 256) (l : List UInt8) : rd1 (bt n ++ l) = .ok (n, l) := by
  have ht := toU8_toNat n h
  unfold bt
  split
  · have h1 : hx (hexd (n / 16)) = some (n / 16) := hx_hexd _ (by omega)
    have h2 : hx (hexd (n % 16)) = some (n % 16) := hx_hexd _ (by omega)
    simp only [List.cons_append, List.nil_append, rd1, rdEsc, if_true]
    rw [if_neg (by decide)]
    simp only [rdHex, h1, h2]
    rw [show n / 16 * 16 + n % 16 = n from by omega]
  · rename_i hr
    split
    · rename_i hs
      simp only [List.cons_append, List.nil_append, rd1, rdEsc, if_true]
      rw [if_pos hs, ht]
    · rename_i hs
      have : ¬ n.toUInt8 = 92 := by
        intro e
        rw [e] at hs
        exact hs (by decide)
      simp only [List.cons_append, List.nil_append, rd1]
      rw [if_neg this, if_neg (by rw [ht]; rintro (h | h | h) <;> first | omega | exact hs h), ht]
theorem addTo_ok {c : C4} (h : c.ok) (lo : Nat) : ∀ n, (addTo c lo n).ok
  | 0 => h
  | n + 1 => C4.add_ok (addTo_ok h lo n) (lo + n)
theorem addTo_has {c : C4} (h : c.ok) (lo : Nat) : ∀ n, lo + n ≤ 256 → ∀ i, i < 256 → (addTo c lo n).has i = (c.has i || decide (lo ≤ i ∧ i < lo + n))
  | 0, _, i, _ => by
    have : ¬ (lo ≤ i ∧ i < lo + 0) := by omega
    rw [addTo, decide_eq_false this, Bool.or_false]
  | n + 1, hn, i, hi => by
    rw [addTo, C4.has_add (addTo_ok h lo n) (lo + n) i (by omega) hi, addTo_has h lo n (by omega) i hi, Bool.or_assoc]
    congr 1
    rw [← Bool.decide_or]
    congr 1
    apply propext
    omega
/-- The items that a class's runs print are read back. -/
theorem items_runs (p : Nat → Bool) (r : List UInt8) : ∀ (f i F : Nat) (c : C4), c.ok → 256 ≤ f + i → 2 * f < F → ∃ c' : C4, items F c (runsL p f i ++ 93 :: r) = .ok (c', r) ∧ c'.ok ∧ ∀ n, n < 256 → c'.has n = (c.has n || (decide (i ≤ n) && p n))
  | 0, i, F, c, hc, h, hF => by
    obtain ⟨F, rfl⟩ : ∃ g, F = g + 1 := ⟨F - 1, by omega⟩
    refine ⟨c, ?_, hc, fun n hn => ?_⟩
    · rw [runsL, List.nil_append, items, if_pos (by rfl)]; rfl
    · have : ¬ i ≤ n := by omega
      simp [this]
  | f + 1, i, F, c, hc, h, hF => by
    rw [runsL]
    by_cases hi : i < 256
    · rw [if_pos hi]
      have hle := rEnd_le p (256 - i) i
      have hsp := rEnd_spec p (256 - i) i
      generalize rEnd p (256 - i) i = e at *
      have ih := fun F' (c : C4) hc hF' => items_runs p r f (e + 1) F' c hc (by omega) hF'
      have hd := runsL_head p 45 (by decide) (by decide) f (e + 1)
      generalize runsL p f (e + 1) = R at *
      have hdR : (R ++ 93 :: r).head? ≠ some 45 := by
        cases R with
        | nil => simp
        | cons a b => simpa using hd
      have tail : ∀ n, n < 256 → (decide (i ≤ n ∧ n < e) || (decide (e + 1 ≤ n) && p n)) = (decide (i ≤ n) && p n) := by
        intro n hn
        by_cases c1 : i ≤ n ∧ n < e
        · have := hsp.1 n c1.1 c1.2
          simp [c1, this]
        · by_cases c3 : n = e
          · subst c3
            have := hsp.2 (by omega)
            simp [this]
          · have : e + 1 ≤ n ↔ i ≤ n := by omega
            simp only [this, c1, decide_false, Bool.false_or]
      by_cases hg : i < e
      · rw [if_pos hg]
        unfold rt
        by_cases e1 : e - 1 = i
        · rw [if_pos e1]
          obtain ⟨F, rfl⟩ : ∃ g, F = g + 1 := ⟨F - 1, by omega⟩
          obtain ⟨c', h1, h2, h3⟩ := ih F (c.add ((i : Nat) : Int)) (C4.add_ok hc i) (by omega)
          refine ⟨c', ?_, h2, fun n hn => ?_⟩
          · rw [List.append_assoc, items, if_neg (bt_head i _ 93 (by decide) (by decide)), rd1_bt i hi]
            simp only
            rw [if_neg hdR, h1]
          · rw [h3 n hn, C4.has_add hc i n hi hn, ← tail n hn, Bool.or_assoc]
            have : (i ≤ n ∧ n < e) ↔ i = n := by omega
            simp only [this]
        · rw [if_neg e1]
          by_cases e2 : e - 1 = i + 1
          · rw [if_pos e2]
            obtain ⟨F, rfl⟩ : ∃ g, F = g + 1 + 1 := ⟨F - 2, by omega⟩
            obtain ⟨c', h1, h2, h3⟩ := ih F ((c.add ((i : Nat) : Int)).add ((e - 1 : Nat) : Int)) (C4.add_ok (C4.add_ok hc i) (e - 1)) (by omega)
            refine ⟨c', ?_, h2, fun n hn => ?_⟩
            · rw [List.append_assoc, List.append_assoc, items, if_neg (bt_head i _ 93 (by decide) (by decide)), rd1_bt i hi]
              simp only
              rw [if_neg (bt_head (e - 1) _ 45 (by decide) (by decide)), items, if_neg (bt_head (e - 1) _ 93 (by decide) (by decide)), rd1_bt (e - 1) (by omega)]
              simp only
              rw [if_neg hdR, h1]
            · rw [h3 n hn, C4.has_add (C4.add_ok hc i) (e - 1) n (by omega) hn, C4.has_add hc i n hi hn, ← tail n hn]
              simp only [Bool.or_assoc]
              congr 1
              rw [← Bool.or_assoc]
              congr 1
              have : (i ≤ n ∧ n < e) ↔ (i = n ∨ e - 1 = n) := by omega
              simp only [this, Bool.decide_or]
          · rw [if_neg e2]
            obtain ⟨F, rfl⟩ : ∃ g, F = g + 1 := ⟨F - 1, by omega⟩
            obtain ⟨c', h1, h2, h3⟩ := ih F (addTo c i (e - i)) (addTo_ok hc i _) (by omega)
            refine ⟨c', ?_, h2, fun n hn => ?_⟩
            · rw [List.append_assoc, List.append_assoc, List.cons_append, items, if_neg (bt_head i _ 93 (by decide) (by decide)), rd1_bt i hi]
              simp only
              rw [if_pos (by rfl), List.tail_cons, rd1_bt (e - 1) (by omega)]
              simp only
              rw [if_neg (by omega), show e - 1 + 1 - i = e - i from by omega, h1]
            · rw [h3 n hn, addTo_has hc i (e - i) (by omega) n hn, ← tail n hn, Bool.or_assoc, show i + (e - i) = e from by omega]
      · rw [if_neg hg, List.nil_append]
        obtain ⟨c', h1, h2, h3⟩ := ih F c hc (by omega)
        refine ⟨c', h1, h2, fun n hn => ?_⟩
        rw [h3 n hn, ← tail n hn]
        have : ¬ (i ≤ n ∧ n < e) := by omega
        simp [this]
    · rw [if_neg hi]
      obtain ⟨F, rfl⟩ : ∃ g, F = g + 1 := ⟨F - 1, by omega⟩
      refine ⟨c, ?_, hc, fun n hn => ?_⟩
      · rw [List.nil_append, items, if_pos (by rfl)]; rfl
      · have : ¬ i ≤ n := by omega
        simp [this]
theorem items_more : ∀ (f g : Nat) (c : C4) (l : List UInt8) (x : C4 × List UInt8), f ≤ g → items f c l = .ok x → items g c l = .ok x
  | 0, g, c, l, x, _, h => by simp [items] at h
  | f + 1, 0, c, l, x, hg, h => by omega
  | f + 1, g + 1, c, l, x, hg, h => by
    rw [items] at h ⊢
    split at h
    · rename_i h0; rw [if_pos h0]; exact h
    · rename_i h0
      rw [if_neg h0]
      cases h1 : rd1 l with
      | error e => rw [h1] at h; simp at h
      | ok p =>
        obtain ⟨lo, l1⟩ := p
        rw [h1] at h
        simp only at h ⊢
        split at h
        · rename_i h2
          rw [if_pos h2]
          cases h3 : rd1 l1.tail with
          | error e => rw [h3] at h; simp at h
          | ok p =>
            obtain ⟨hi, l2⟩ := p
            rw [h3] at h
            simp only at h ⊢
            split at h
            · simp at h
            · rename_i h4
              rw [if_neg h4]
              exact items_more f g _ _ _ (by omega) h
        · rename_i h2
          rw [if_neg h2]
          exact items_more f g _ _ _ (by omega) h
/-- More fuel than bytes is enough. -/
theorem items_fuel : ∀ (f g : Nat) (c : C4) (l : List UInt8), l.length < f → f ≤ g → items g c l = items f c l
  | 0, g, c, l, h, _ => by omega
  | f + 1, 0, c, l, h, hg => by omega
  | f + 1, g + 1, c, l, h, hg => by
    rw [items, items]
    split
    · rfl
    · cases h1 : rd1 l with
      | error e => rfl
      | ok p =>
        obtain ⟨lo, l1⟩ := p
        have g1 := (rd1_len l lo l1 h1).1
        simp only
        split
        · rename_i h2
          have g2 := (tail_len l1 _ h2).2
          cases h3 : rd1 l1.tail with
          | error e => rfl
          | ok p =>
            obtain ⟨hi, l2⟩ := p
            have g3 := (rd1_len _ _ _ h3).1
            simp only
            split
            · rfl
            · exact items_fuel f g _ _ (by omega) (by omega)
        · exact items_fuel f g _ _ (by omega) (by omega)
/-- A class's text is read as it. -/
theorem single_class {k : C4} (hk : k.ok) (h : (k.many 4 == 1) = true) : ∃ b, b < 256 ∧ runs256 k = bt b ∧ k = z4.add ((b : Nat) : Int) := by
  rw [many_cnt hk] at h
  have hc : cnt k.has 256 = 1 := by
    have := eq_of_beq h
    omega
  have ⟨i, hi, hp⟩ : ∃ i, i < 256 ∧ k.has i = true := by
    by_cases e : ∃ i, i < 256 ∧ k.has i = true
    · exact e
    · exfalso
      have : cnt k.has 256 = cnt (fun _ => false) 256 := by
        apply cnt_congr
        intro i hi
        cases hp : k.has i
        · rfl
        · exact absurd ⟨i, hi, hp⟩ e
      have h0 : ∀ n, cnt (fun _ => false) n = 0 := by
        intro n
        induction n with
        | zero => rfl
        | succ n ih => rw [cnt, ih]; rfl
      rw [this, h0] at hc
      omega
  have hu : k = z4.add ((i : Nat) : Int) := by
    apply C4.ext_has hk (C4.add_ok z4_ok i)
    intro j hj
    rw [C4.has_add z4_ok i j hi hj, z4_has, Bool.false_or]
    cases hj2 : k.has j
    · symm
      rw [decide_eq_false_iff_not]
      rintro rfl
      rw [hp] at hj2; cases hj2
    · symm
      rw [decide_eq_true_iff]
      exact cnt_one k.has 256 i j hc hi hj hp hj2
  refine ⟨i, hi, ?_, hu⟩
  have hz : ∀ j, j ≤ i → runsL k.has 256 0 = runsL k.has (256 - j) j := by
    intro j
    induction j with
    | zero => intro _; rfl
    | succ j ih =>
      intro hj
      have hn : k.has j = false := by
        cases hj2 : k.has j
        · rfl
        · have := cnt_one k.has 256 i j hc hi (by omega) hp hj2
          omega
      rw [ih (by omega), show 256 - j = (256 - (j + 1)) + 1 from by omega, runsL_no k.has _ j (by omega) hn]
  rw [runs256, C4.p_eq k hk, hz i (Nat.le_refl _), show 256 - i = (255 - i) + 1 from by omega, one_run k.has _ i hi hc hp]
theorem base_text {k : C4} (hk : k.ok) (r : List UInt8) : base (textL k ++ r) = .ok (⟨1, k⟩, r) := by
  by_cases hd : k.eqb dotC = true
  · rw [textL_dot k hd, (C4.eqb_iff _ _).1 hd]
    rfl
  · have hd2 : k.eqb dotC = false := Bool.eq_false_iff.2 hd
    cases h1 : (k.many 4 == 1)
    · rw [textL_more k hd2 h1]
      have hh : (runs256 k ++ 93 :: r).head? ≠ some 94 := by
        have := runs256_head k 94 (by decide) (by decide)
        cases hr : runs256 k with
        | nil => simp
        | cons a b => rw [hr] at this; simpa using this
      obtain ⟨c', i1, i2, i3⟩ := items_runs k.p r 256 0 513 z4 z4_ok (by omega) (by omega)
      have e : c' = k := by
        apply C4.ext_has i2 hk
        intro n hn
        rw [i3 n hn, z4_has, C4.p_eq k hk]
        simp
      have ei : items ((runs256 k ++ 93 :: r).length + 1) z4 (runs256 k ++ 93 :: r) = .ok (k, r) := by
        rw [e] at i1
        rcases Nat.le_total 513 ((runs256 k ++ 93 :: r).length + 1) with h | h
        · exact items_more 513 _ _ _ _ h i1
        · rw [← items_fuel ((runs256 k ++ 93 :: r).length + 1) 513 z4 _ (by omega) h]
          exact i1
      have e2 : 91 :: (runs256 k ++ [93]) ++ r = 91 :: (runs256 k ++ 93 :: r) := by simp
      rw [e2, base, if_pos (by rfl), List.tail_cons, bracket, if_neg hh, ei]
    · rw [textL_one k hd2 h1]
      obtain ⟨b, hb, e1, e2⟩ := single_class hk h1
      rw [e1, base, if_neg (bt_head b r 91 (by decide) (by decide)), if_neg (bt_head b r 46 (by decide) (by decide)), if_neg (bt_head b r 94 (by decide) (by decide)), if_neg (bt_head b r 36 (by decide) (by decide)), rd1_bt b hb]
      show Except.ok ((⟨1, z4.add ((b : Nat) : Int)⟩ : Nd), r) = _
      rw [← e2]
end Go.Proofs.YtejbififfceamaaGreatDoor
