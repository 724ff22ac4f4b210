/- How a text is read as a pattern. No function of the program. What the document asks of syn.Parse. What the document asks of syn.Print. Small facts on lists of nodes in memory. What the document's own functions answer: Parts, EndOf. What the document's own functions (package winnowfanref1) answer: In, With, OfText, Others, Count. What the document's own functions answer: Count. What the document's own functions answer: Fault. -/
import Derived.Test.YtmdfdlljeggbbaaGreatDoorY03
import Derived.Test.YtmdfdlljeggbbaaGreatDoorY02
import Derived.Test.YtmdfdlljeggbbaaGreatDoorY01
namespace Go.Proofs.YtmdfdlljeggbbaaGreatDoor
set_option linter.unusedSimpArgs false
set_option linter.unusedVariables false
set_option maxRecDepth 100000
open Go.RowKit

/-- A hex digit's value. -/
def hx (c : UInt8) : Option Nat := if 48 ≤ c.toNat ∧ c.toNat < 58 then some (c.toNat - 48) else if 97 ≤ c.toNat ∧ c.toNat < 103 then some (c.toNat - 87) else none
/-- Two hex digits; k: how many bytes are left where the byte begins. -/
def rdHex (k : Nat) : List UInt8 → Except Nat (Nat × List UInt8)
  | [] => .error 0
  | [x] => if (hx x).isSome then .error 0 else .error k
  | x :: y :: l =>
    match hx x, hx y with
    | some a, some b => .ok (a * 16 + b, l)
    | _, _ => .error k
/-- What is behind a backslash. -/
def rdEsc (k : Nat) : List UInt8 → Except Nat (Nat × List UInt8)
  | [] => .error 0
  | d :: l => if d ∈ signL then .ok (d.toNat, l) else if d = 120 then rdHex k l else .error k
/-- One byte; or how many bytes are left where it fails. -/
def rd1 : List UInt8 → Except Nat (Nat × List UInt8)
  | [] => .error 0
  | c :: l => if c = 92 then rdEsc (l.length + 1) l else if c.toNat < 32 ∨ 126 < c.toNat ∨ c ∈ signL then .error (l.length + 1) else .ok (c.toNat, l)
/-- A class and so many bytes from one on. -/
def addTo (c : C4) (lo : Nat) : Nat → C4
  | 0 => c
  | n + 1 => (addTo c lo n).add ((lo + n : Nat) : Int)
/-- The items of a class, and what is behind its bracket. -/
def items : Nat → C4 → List UInt8 → Except Nat (C4 × List UInt8)
  | 0, _, l => .error l.length
  | f + 1, c, l =>
    if l.head? = some 93 then .ok (c, l.tail)
    else
      match rd1 l with
      | .error k => .error k
      | .ok (lo, l1) =>
        if l1.head? = some 45 then
          match rd1 l1.tail with
          | .error k => .error k
          | .ok (hi, l2) => if hi < lo then .error l.length else items f (addTo c lo (hi + 1 - lo)) l2
        else items f (c.add ((lo : Nat) : Int)) l1
/-- A class in brackets, behind the first one. -/
def bracket (l : List UInt8) : Except Nat (C4 × List UInt8) :=
  if l.head? = some 94 then
    match items l.length z4 l.tail with
    | .error k => .error k
    | .ok (c, r) => .ok (c.not, r)
  else items (l.length + 1) z4 l
/-- What is read where no bracket opens. -/
def base (l : List UInt8) : Except Nat (Nd × List UInt8) :=
  if l.head? = some 91 then
    match bracket l.tail with
    | .error k => .error k
    | .ok (c, r) => .ok (⟨1, c⟩, r)
  else if l.head? = some 46 then .ok (⟨1, dotC⟩, l.tail)
  else if l.head? = some 94 then .ok (⟨8, z4⟩, l.tail)
  else if l.head? = some 36 then .ok (⟨9, z4⟩, l.tail)
  else
    match rd1 l with
    | .error k => .error k
    | .ok (b, r) => .ok (⟨1, z4.add ((b : Nat) : Int)⟩, r)
/-- The signs behind an atom. -/
def posts : Rx → List UInt8 → Rx × List UInt8
  | t, [] => (t, [])
  | t, c :: r => if c = 42 then posts (.one ⟨5, z4⟩ t) r else if c = 43 then posts (.one ⟨6, z4⟩ t) r else if c = 63 then posts (.one ⟨7, z4⟩ t) r else (t, c :: r)
def cats : List Rx → Rx
  | [] => .leaf ⟨2, z4⟩
  | [x] => x
  | x :: y :: r => .two ⟨3, z4⟩ x (cats (y :: r))
def ors : List Rx → Rx
  | [] => .leaf ⟨2, z4⟩
  | [x] => x
  | x :: y :: r => .two ⟨4, z4⟩ x (ors (y :: r))
/-- No atom opens here. -/
def stp (l : List UInt8) : Bool :=
  match l with
  | [] => true
  | c :: _ => c == 124 || c == 41
mutual
/-- An atom with its signs. -/
inductive Atom : List UInt8 → Except Nat (Rx × List UInt8) → Prop
  | bad (l : List UInt8) (k : Nat) : l.head? ≠ some 40 → base l = .error k → Atom l (.error k)
  | ok (l : List UInt8) (n : Nd) (l1 : List UInt8) : l.head? ≠ some 40 → base l = .ok (n, l1) → Atom l (.ok (posts (.leaf n) l1))
  | inBad (l : List UInt8) (k : Nat) : Alt l (.error k) → Atom (40 :: l) (.error k)
  | inOpen (l : List UInt8) (ss : List Rx) (l1 : List UInt8) : Alt l (.ok (ss, l1)) → l1.head? ≠ some 41 → Atom (40 :: l) (.error l1.length)
  | inOk (l : List UInt8) (ss : List Rx) (l1 : List UInt8) : Alt l (.ok (ss, 41 :: l1)) → Atom (40 :: l) (.ok (posts (ors ss) l1))
/-- Atoms one behind the other. -/
inductive Seq : List UInt8 → Except Nat (List Rx × List UInt8) → Prop
  | stop (l : List UInt8) : stp l = true → Seq l (.ok ([], l))
  | bad (l : List UInt8) (k : Nat) : stp l = false → Atom l (.error k) → Seq l (.error k)
  | more (l : List UInt8) (x : Rx) (l1 : List UInt8) (xs : List Rx) (l2 : List UInt8) : stp l = false → Atom l (.ok (x, l1)) → Seq l1 (.ok (xs, l2)) → Seq l (.ok (x :: xs, l2))
  | moreBad (l : List UInt8) (x : Rx) (l1 : List UInt8) (k : Nat) : stp l = false → Atom l (.ok (x, l1)) → Seq l1 (.error k) → Seq l (.error k)
/-- Sides one behind the other. -/
inductive Alt : List UInt8 → Except Nat (List Rx × List UInt8) → Prop
  | bad (l : List UInt8) (k : Nat) : Seq l (.error k) → Alt l (.error k)
  | last (l : List UInt8) (xs : List Rx) (l1 : List UInt8) : Seq l (.ok (xs, l1)) → l1.head? ≠ some 124 → Alt l (.ok ([cats xs], l1))
  | more (l : List UInt8) (xs : List Rx) (l1 : List UInt8) (ss : List Rx) (l2 : List UInt8) : Seq l (.ok (xs, 124 :: l1)) → Alt l1 (.ok (ss, l2)) → Alt l (.ok (cats xs :: ss, l2))
  | moreBad (l : List UInt8) (xs : List Rx) (l1 : List UInt8) (k : Nat) : Seq l (.ok (xs, 124 :: l1)) → Alt l1 (.error k) → Alt l (.error k)
end
/-- A whole text. -/
inductive Whole : List UInt8 → Except Nat Rx → Prop
  | bad (l : List UInt8) (k : Nat) : Alt l (.error k) → Whole l (.error k)
  | more (l : List UInt8) (ss : List Rx) (l1 : List UInt8) : Alt l (.ok (ss, l1)) → l1 ≠ [] → Whole l (.error l1.length)
  | ok (l : List UInt8) (ss : List Rx) : Alt l (.ok (ss, [])) → Whole l (.ok (ors ss))

/-! What is left is less -/
theorem hx_lt (c : UInt8) (a : Nat) (h : hx c = some a) : a < 16 := by
  unfold hx at h
  split at h
  · simp at h; omega
  · split at h
    · simp at h; omega
    · cases h
theorem rdHex_len (k : Nat) : ∀ (l : List UInt8) (b : Nat) (r : List UInt8), rdHex k l = .ok (b, r) → r.length < l.length ∧ b < 256
  | [], b, r, h => by simp [rdHex] at h
  | [x], b, r, h => by simp only [rdHex] at h; split at h <;> cases h
  | x :: y :: l, b, r, h => by
    simp only [rdHex] at h
    split at h
    · rename_i a b' h1 h2
      have := hx_lt _ _ h1
      have := hx_lt _ _ h2
      simp at h
      obtain ⟨rfl, rfl⟩ := h
      exact ⟨by simp; omega, by omega⟩
    · cases h
theorem rdEsc_len (k : Nat) : ∀ (l : List UInt8) (b : Nat) (r : List UInt8), rdEsc k l = .ok (b, r) → r.length < l.length ∧ b < 256
  | [], b, r, h => by simp [rdEsc] at h
  | d :: l, b, r, h => by
    rw [rdEsc] at h
    split at h
    · injection h with h
      injection h with h1 h2
      subst h1; subst h2
      exact ⟨by simp, d.toNat_lt⟩
    · split at h
      · have := rdHex_len k l b r h
        exact ⟨by simp; omega, this.2⟩
      · cases h
theorem rd1_len : ∀ (l : List UInt8) (b : Nat) (r : List UInt8), rd1 l = .ok (b, r) → r.length < l.length ∧ b < 256
  | [], b, r, h => by simp [rd1] at h
  | c :: l, b, r, h => by
    rw [rd1] at h
    split at h
    · have := rdEsc_len _ l b r h
      exact ⟨by simp; omega, this.2⟩
    · split at h
      · cases h
      · injection h with h
        injection h with h1 h2
        subst h1; subst h2
        exact ⟨by simp, c.toNat_lt⟩
theorem tail_len (l : List UInt8) (c : UInt8) (h : l.head? = some c) : l = c :: l.tail ∧ l.tail.length + 1 = l.length := by
  cases l with
  | nil => simp at h
  | cons d r => simp at h; subst h; simp
theorem items_len : ∀ (f : Nat) (c : C4) (l : List UInt8) (k : C4) (r : List UInt8), items f c l = .ok (k, r) → r.length < l.length
  | 0, c, l, k, r, h => by simp [items] at h
  | f + 1, c, l, k, r, h => by
    rw [items] at h
    split at h
    · rename_i h0
      have := tail_len l _ h0
      simp at h
      rw [← h.2]; omega
    · cases h1 : rd1 l with
      | error e => rw [h1] at h; simp at h
      | ok p =>
        obtain ⟨lo, l1⟩ := p
        have g1 := (rd1_len l lo l1 h1).1
        rw [h1] at h
        simp only at h
        split at h
        · rename_i h2
          have g2 := (tail_len l1 _ h2).2
          cases h3 : rd1 l1.tail with
          | error e => rw [h3] at h; simp at h
          | ok p =>
            obtain ⟨hi, l2⟩ := p
            have g3 := (rd1_len l1.tail hi l2 h3).1
            rw [h3] at h
            simp only at h
            split at h
            · simp at h
            · have := items_len f _ _ _ _ h
              omega
        · have := items_len f _ _ _ _ h
          omega
theorem bracket_len (l : List UInt8) (k : C4) (r : List UInt8) (h : bracket l = .ok (k, r)) : r.length < l.length := by
  unfold bracket at h
  split at h
  · rename_i h0
    have := tail_len l _ h0
    cases h1 : items l.length z4 l.tail with
    | error e => rw [h1] at h; simp at h
    | ok p =>
      obtain ⟨c, r'⟩ := p
      have := items_len _ _ _ _ _ h1
      rw [h1] at h
      simp at h
      rw [← h.2]; omega
  · exact items_len _ _ _ _ _ h
theorem base_len (l : List UInt8) (n : Nd) (r : List UInt8) (h : base l = .ok (n, r)) : r.length < l.length := by
  unfold base at h
  split at h
  · rename_i h0
    have := tail_len l _ h0
    cases h1 : bracket l.tail with
    | error e => rw [h1] at h; simp at h
    | ok p =>
      obtain ⟨c, r'⟩ := p
      have := bracket_len _ _ _ h1
      rw [h1] at h
      simp at h
      rw [← h.2]; omega
  · split at h
    · rename_i h0
      have := tail_len l _ h0
      simp at h; rw [← h.2]; omega
    · split at h
      · rename_i h0
        have := tail_len l _ h0
        simp at h; rw [← h.2]; omega
      · split at h
        · rename_i h0
          have := tail_len l _ h0
          simp at h; rw [← h.2]; omega
        · cases h1 : rd1 l with
          | error e => rw [h1] at h; simp at h
          | ok p =>
            obtain ⟨b, r'⟩ := p
            have := (rd1_len _ _ _ h1).1
            rw [h1] at h
            simp at h
            rw [← h.2]; omega
theorem posts_len : ∀ (l : List UInt8) (t : Rx), (posts t l).2.length ≤ l.length
  | [], t => by simp [posts]
  | c :: r, t => by
    rw [posts]
    split
    · have := posts_len r (.one ⟨5, z4⟩ t); simp; omega
    · split
      · have := posts_len r (.one ⟨6, z4⟩ t); simp; omega
      · split
        · have := posts_len r (.one ⟨7, z4⟩ t); simp; omega
        · simp
/-! Every text is read, or fails -/
theorem total : ∀ (n : Nat) (l : List UInt8), l.length ≤ n → (∃ r, Atom l r ∧ ∀ x l1, r = .ok (x, l1) → l1.length < l.length) ∧ (∃ r, Seq l r ∧ ∀ x l1, r = .ok (x, l1) → l1.length ≤ l.length) ∧ (∃ r, Alt l r ∧ ∀ x l1, r = .ok (x, l1) → l1.length ≤ l.length)
  | n, l, hn => by
    have hA : ∃ r, Atom l r ∧ ∀ x l1, r = .ok (x, l1) → l1.length < l.length := by
      by_cases h : l.head? = some 40
      · obtain ⟨e, hl⟩ := tail_len l _ h
        cases n with
        | zero => simp at hn; subst hn; simp at h
        | succ n =>
          obtain ⟨_, _, ⟨r, hr, hlr⟩⟩ := total n l.tail (by omega)
          rw [e]
          cases r with
          | error k => exact ⟨_, Atom.inBad _ k hr, fun x l1 h => by cases h⟩
          | ok p =>
            obtain ⟨ss, l1⟩ := p
            by_cases h4 : l1.head? = some 41
            · obtain ⟨e1, hl1⟩ := tail_len l1 _ h4
              rw [e1] at hr
              refine ⟨_, Atom.inOk _ ss _ hr, fun x l2 h => ?_⟩
              have g := hlr _ _ rfl
              injection h with h
              have := posts_len l1.tail (ors ss)
              rw [h] at this
              simp only at this
              simp only [List.length_cons]
              omega
            · exact ⟨_, Atom.inOpen _ ss l1 hr h4, fun x l1 h => by cases h⟩
      · cases hb : base l with
        | error k => exact ⟨_, Atom.bad l k h hb, fun x l1 h => by cases h⟩
        | ok p =>
          obtain ⟨m, l1⟩ := p
          refine ⟨_, Atom.ok l m l1 h hb, fun x l2 h => ?_⟩
          have g := base_len _ _ _ hb
          injection h with h
          have := posts_len l1 (.leaf m)
          rw [h] at this
          simp only at this
          omega
    have hS : ∃ r, Seq l r ∧ ∀ x l1, r = .ok (x, l1) → l1.length ≤ l.length := by
      cases hs : stp l with
      | true => exact ⟨_, Seq.stop l hs, fun x l1 h => by injection h with h; injection h with _ h; rw [h]; exact Nat.le_refl _⟩
      | false =>
        obtain ⟨r, hr, hlr⟩ := hA
        cases r with
        | error k => exact ⟨_, Seq.bad l k hs hr, fun x l1 h => by cases h⟩
        | ok p =>
          obtain ⟨x, l1⟩ := p
          have g := hlr _ _ rfl
          cases n with
          | zero => omega
          | succ n =>
            obtain ⟨_, ⟨r2, hr2, hlr2⟩, _⟩ := total n l1 (by omega)
            cases r2 with
            | error k => exact ⟨_, Seq.moreBad l x l1 k hs hr hr2, fun x l1 h => by cases h⟩
            | ok p =>
              obtain ⟨xs, l2⟩ := p
              refine ⟨_, Seq.more l x l1 xs l2 hs hr hr2, fun x l3 h => ?_⟩
              have g2 := hlr2 _ _ rfl
              injection h with h
              injection h with _ h
              rw [← h]; omega
    refine ⟨hA, hS, ?_⟩
    obtain ⟨r, hr, hlr⟩ := hS
    cases r with
    | error k => exact ⟨_, Alt.bad l k hr, fun x l1 h => by cases h⟩
    | ok p =>
      obtain ⟨xs, l1⟩ := p
      have g := hlr _ _ rfl
      by_cases h4 : l1.head? = some 124
      · obtain ⟨e1, hl1⟩ := tail_len l1 _ h4
        cases n with
        | zero => omega
        | succ n =>
          obtain ⟨_, _, ⟨r2, hr2, hlr2⟩⟩ := total n l1.tail (by omega)
          rw [e1] at hr
          cases r2 with
          | error k => exact ⟨_, Alt.moreBad l xs _ k hr hr2, fun x l1 h => by cases h⟩
          | ok p =>
            obtain ⟨ss, l2⟩ := p
            refine ⟨_, Alt.more l xs _ ss l2 hr hr2, fun x l3 h => ?_⟩
            have g2 := hlr2 _ _ rfl
            injection h with h
            injection h with _ h
            rw [← h]; omega
      · exact ⟨_, Alt.last l xs l1 hr h4, fun x l2 h => by injection h with h; injection h with _ h; rw [← h]; exact g⟩
theorem whole_total (l : List UInt8) : ∃ r, Whole l r := by
  obtain ⟨_, _, ⟨r, hr, _⟩⟩ := total l.length l (Nat.le_refl _)
  cases r with
  | error k => exact ⟨_, Whole.bad l k hr⟩
  | ok p =>
    obtain ⟨ss, l1⟩ := p
    by_cases h : l1 = []
    · subst h; exact ⟨_, Whole.ok l ss hr⟩
    · exact ⟨_, Whole.more l ss l1 hr h⟩
end Go.Proofs.YtmdfdlljeggbbaaGreatDoor
namespace Go.Proofs.YtmdfdlljeggbbaaGreatDoor
set_option linter.unusedSimpArgs false
set_option linter.unusedVariables false
set_option maxRecDepth 100000
open Go.RowKit

/-- What is read of a text: the nodes, the place, the fault. -/
inductive PsR (s : ByteArray) : List Nd → Int → Int → Prop
  | full : 200 < s.size → PsR s [] 0 3
  | bad (k : Nat) : s.size ≤ 200 → Whole s.data.toList (.error k) → PsR s [] ((s.size : Int) - (k : Int)) 5
  | many (t : Rx) : s.size ≤ 200 → Whole s.data.toList (.ok t) → 60 < t.flat.length → PsR s [] 0 3
  | ok (t : Rx) : s.size ≤ 200 → Whole s.data.toList (.ok t) → ¬ 60 < t.flat.length → PsR s t.flat 0 0
theorem psR_total (s : ByteArray) : ∃ ms k e, PsR s ms k e := by
  by_cases h : 200 < s.size
  · exact ⟨_, _, _, .full h⟩
  · obtain ⟨r, hr⟩ := whole_total s.data.toList
    cases r with
    | error k => exact ⟨_, _, _, .bad k (by omega) hr⟩
    | ok t =>
      by_cases h6 : 60 < t.flat.length
      · exact ⟨_, _, _, .many t (by omega) hr h6⟩
      · exact ⟨_, _, _, .ok t (by omega) hr h6⟩
/-- What the document asks of Parse. -/
structure SynR : Prop where
  parse : ∀ (s : ByteArray) (w : World) ms k e, s.size ≤ maxLen → PsR s ms k e → Calls Tryz.prog 9 #[.string s] w fun x w' => ∃ u, x = .returned (.tuple #[u, .int .i64 k, errV e]) ∧ Below w.heap.size w w' ∧ NsIn w' u ms
end Go.Proofs.YtmdfdlljeggbbaaGreatDoor
namespace Go.Proofs.YtmdfdlljeggbbaaGreatDoor
set_option linter.unusedSimpArgs false
set_option linter.unusedVariables false
set_option maxRecDepth 100000
open Go.RowKit

/-- A text that is printed, or none where it is too long. -/
def prtL (t : Rx) : List UInt8 := if 200 < t.txt.length then [] else t.txt
def prtE (t : Rx) : Int := if 200 < t.txt.length then 3 else 0
/-- What the document asks of Print. -/
structure SynP : Prop where
  bad : ∀ ns v w, NsIn w v ns → (∀ n ∈ ns, n.wf) → ¬ faultL ns = 0 → Calls Tryz.prog 6 #[v] w fun e w' => e = .returned (.tuple #[.string ⟨[].toArray⟩, errV (faultL ns)]) ∧ Below w.heap.size w w'
  ok : ∀ (t : Rx) v w, t.Ok → NsIn w v t.flat → (∀ n ∈ t.flat, n.wf) → faultL t.flat = 0 → Calls Tryz.prog 6 #[v] w fun e w' => e = .returned (.tuple #[.string ⟨(prtL t).toArray⟩, errV (prtE t)]) ∧ Below w.heap.size w w'
end Go.Proofs.YtmdfdlljeggbbaaGreatDoor
namespace Go.Proofs.YtmdfdlljeggbbaaGreatDoor
set_option linter.unusedSimpArgs false
set_option linter.unusedVariables false
set_option maxRecDepth 100000
open Go.RowKit

theorem nsIn_nil (w : World) : NsIn w (.slice none 0 0) [] := ⟨none, 0, rfl, by simp, Or.inl rfl⟩
theorem nsIn_form {w : World} {v : Value} {ns : List Nd} (h : NsIn w v ns) : ∃ a cap, v = .slice a ns.length cap ∧ ns.length ≤ maxLen := by
  obtain ⟨a, cap, h1, h2, _⟩ := h
  exact ⟨a, cap, h1, h2⟩
theorem nsEq_refl (x : List Nd) : nsEq x x = true := (nsEq_iff x x).2 rfl
end Go.Proofs.YtmdfdlljeggbbaaGreatDoor
namespace Go.Proofs.YtmdfdlljeggbbaaGreatDoor
set_option linter.unusedSimpArgs false
set_option linter.unusedVariables false
set_option maxRecDepth 100000
open Go.RowKit

set_option maxHeartbeats 400000 in
theorem parts_any (op : Int) (w : World) :
    Calls Tryz.prog 24 #[.int .i64 op] w fun e w' => e = .returned (.int .i64 (prt op)) ∧ w' = w := by
  by_cases h3 : op = 3
  · subst h3
    go_enter Tryz.func24, Tryz.ntmps24
    go_wp2
    go_ret
    exact ⟨rfl, rfl⟩
  · have b3 : (op == 3) = false := by simp [h3]
    by_cases h4 : op = 4
    · subst h4
      go_enter Tryz.func24, Tryz.ntmps24
      go_wp2
      go_ret
      exact ⟨rfl, rfl⟩
    · have b4 : (op == 4) = false := by simp [h4]
      by_cases h5 : op = 5
      · subst h5
        go_enter Tryz.func24, Tryz.ntmps24
        go_wp2
        go_ret
        exact ⟨rfl, rfl⟩
      · have b5 : (op == 5) = false := by simp [h5]
        by_cases h6 : op = 6
        · subst h6
          go_enter Tryz.func24, Tryz.ntmps24
          go_wp2
          go_ret
          exact ⟨rfl, rfl⟩
        · have b6 : (op == 6) = false := by simp [h6]
          by_cases h7 : op = 7
          · subst h7
            go_enter Tryz.func24, Tryz.ntmps24
            go_wp2
            go_ret
            exact ⟨rfl, rfl⟩
          · have b7 : (op == 7) = false := by simp [h7]
            have e0 : prt op = 0 := by unfold prt; simp [h3, h4, h5, h6, h7]
            rw [e0]
            clear h3 h4 h5 h6 h7 e0
            go_enter Tryz.func24, Tryz.ntmps24
            go_wp2
            go_ret
            exact ⟨rfl, rfl⟩
set_option maxHeartbeats 1000000 in
theorem endOf_walk (ns : List Nd) (b off cap f i : Nat) (hm : ns.length ≤ maxLen) (w : World) (hN : NsAt w b off ns)
    (ih : ∀ j, ns.length + 1 ≤ f + j → Calls Tryz.prog 12 #[.slice (some ⟨b, off, none⟩) ns.length cap, .int .i64 j] w fun e w' => e = .returned (.int .i64 (endI (endF ns f j))) ∧ w' = w)
    (hf : ns.length + 1 ≤ f + 1 + i) :
    Calls Tryz.prog 12 #[.slice (some ⟨b, off, none⟩) ns.length cap, .int .i64 i] w fun e w' => e = .returned (.int .i64 (endI (endF ns (f + 1) i))) ∧ w' = w := by
  have IH := (show Hid _ from ih)
  unfold maxLen at hm
  clear ih
  by_cases hi : i < ns.length
  · obtain ⟨n, hn⟩ : ∃ n, ns[i]? = some n := ⟨ns[i], List.getElem?_eq_getElem hi⟩
    obtain ⟨c0, _⟩ := hN i n hn
    have HF : Hid _ := endF_fin ns f i n hn
    have hp := prt_le n.op
    have i0 : (0 : Int) ≤ (i : Int) := by omega
    have i1 : (i : Int) < (ns.length : Int) := by omega
    have hd : decide (ns.length ≤ i) = false := by simp; omega
    clear hn
    go_enter Tryz.func12, Tryz.ntmps12
    go_wp2_with fail
    refine (parts_any _ _).mono ?_
    rintro e w1 ⟨rfl, rfl⟩
    generalize hpr : prt n.op = pr at *
    clear hpr
    go_wp2_with fail
    go_loop [1, 5] (fun v u => ∃ (m : Nat) (o : Option Nat), m ≤ 2 ∧ u = .int .i64 m ∧ v = .int .i64 (endI o) ∧ Hid (fin ns f m o = endF ns (f + 1) i) ∧ Hid (∀ j, o = some j → i < j ∧ j ≤ ns.length)) (fun _ u => (intOf u).toNat)
    case atStart => exact ⟨pr, some (i + 1), by omega, rfl, by go_num, HF.out.symm, fun j hj => by simp at hj; omega⟩
    case round =>
      obtain ⟨m, o, hm2, rfl, rfl, HX, HJ⟩ := hrel
      cases m with
      | zero =>
        go_wp2
        go_ret
        exact ⟨by rw [← HX.out]; rfl, rfl⟩
      | succ m =>
        have m0 : (0 : Int) < ((m + 1 : Nat) : Int) := by omega
        cases o with
        | none =>
          simp only [endI]
          go_wp2
          go_ret
          exact ⟨by rw [← HX.out, fin_none]; rfl, rfl⟩
        | some j =>
          have hj := HJ.out j rfl
          simp only [endI]
          go_wp2_with fail
          refine (IH.out j (by omega)).mono ?_
          rintro e w1 ⟨rfl, rfl⟩
          go_wp2
          refine ⟨⟨m, endF ns f j, by omega, by go_num, rfl, ?_, ?_⟩, by simp [intOf]⟩
          · rw [← HX.out]; exact (Eq.refl (fin ns f m (endF ns f j)))
          · intro k hk
            have := endF_gt ns f j k hk
            omega
  · have hd : decide (ns.length ≤ i) = true := by simp; omega
    have HF : Hid (endF ns (f + 1) i = none) := by
      show _ = _
      rw [endF, List.getElem?_eq_none (by omega)]
    go_enter Tryz.func12, Tryz.ntmps12
    go_wp2
    go_ret
    exact ⟨by rw [HF.out]; rfl, rfl⟩
set_option maxHeartbeats 1000000 in
theorem endOf_out (ns : List Nd) (a : Option Addr) (cap i : Nat) (hm : ns.length ≤ maxLen) (w : World) (hi : ns.length ≤ i) :
    Calls Tryz.prog 12 #[.slice a ns.length cap, .int .i64 i] w fun e w' => e = .returned (.int .i64 (-1)) ∧ w' = w := by
  unfold maxLen at hm
  have hd : decide (ns.length ≤ i) = true := by simp; omega
  go_enter Tryz.func12, Tryz.ntmps12
  go_wp2
  go_ret
  exact ⟨rfl, rfl⟩
theorem endOf_at (ns : List Nd) (b off cap : Nat) (hm : ns.length ≤ maxLen) (w : World) (hN : NsAt w b off ns) : ∀ (f i : Nat), ns.length + 1 ≤ f + i →
    Calls Tryz.prog 12 #[.slice (some ⟨b, off, none⟩) ns.length cap, .int .i64 i] w fun e w' => e = .returned (.int .i64 (endI (endF ns f i))) ∧ w' = w := by
  intro f
  induction f with
  | zero =>
    intro i h
    exact endOf_out ns _ cap i hm w (by omega)
  | succ f ih =>
    intro i h
    exact endOf_walk ns b off cap f i hm w hN ih (by omega)
theorem endOf_any (ns : List Nd) (v : Value) (i : Nat) (w : World) (hN : NsIn w v ns) :
    Calls Tryz.prog 12 #[v, .int .i64 i] w fun e w' => e = .returned (.int .i64 (endI (endE ns i))) ∧ w' = w := by
  obtain ⟨a, cap, rfl, hm, h | ⟨b, off, rfl, hlt, hn⟩⟩ := hN
  · subst h
    rw [endE_nil]
    exact endOf_out [] a cap i hm w (by simp)
  · exact endOf_at ns b off cap hm w hn (ns.length + 1) i (by omega)
end Go.Proofs.YtmdfdlljeggbbaaGreatDoor
namespace Go.Proofs.YtmdfdlljeggbbaaGreatDoor
set_option linter.unusedSimpArgs false
set_option linter.unusedVariables false
open Go.RowKit

theorem half_step (m i : Nat) : ((m / 2 ^ i : Nat) : Int) / 2 = ((m / 2 ^ (i + 1) : Nat) : Int) := by
  rw [Nat.pow_succ, ← Nat.div_div_eq_div_mul]
  omega
theorem tb_mod (m j : Nat) : (((m / 2 ^ j : Nat) : Int) % 2 == 1) = m.testBit j := by
  rw [tb_eq]
  generalize m / 2 ^ j = z
  by_cases h : z % 2 = 1
  · rw [h]
    have : (z : Int) % 2 = 1 := by omega
    rw [this]; rfl
  · have : ¬ (z : Int) % 2 = 1 := by omega
    simp only [h, decide_false]
    rw [beq_eq_false_iff_ne]
    exact this

theorem wrap_half (z : Nat) (h : z < 18446744073709551616) : Value.int IntKind.u64 (IntKind.u64.wrap ((z : Int) / 2)) = Value.int IntKind.u64 ((z / 2 : Nat) : Int) := by
  have e : (z : Int) / 2 = ((z / 2 : Nat) : Int) := by omega
  rw [e, u64_small _ (by omega)]
theorem wrap_twice (z : Nat) (h : z * 2 < 18446744073709551616) : Value.int IntKind.u64 (IntKind.u64.wrap ((z : Int) * 2)) = Value.int IntKind.u64 ((z * 2 : Nat) : Int) := by
  have e : (z : Int) * 2 = ((z * 2 : Nat) : Int) := by omega
  rw [e, u64_small _ h]
set_option maxHeartbeats 400000 in
theorem in_walk (k : C4) (x : Int) (h0 : 0 ≤ x) (hb : x < 256) (m : Nat) (hm : k.w (x / 64).toNat = (m : Int)) (hml : m < 18446744073709551616) (w : World) :
    Calls Tryz.prog 23 #[k.v, .int .i64 x] w fun e w' => e = .returned (.bool (m.testBit (x % 64).toNat)) ∧ Below w.heap.size w w' := by
  have hw := k.get (x / 64).toNat (by omega)
  rw [hm] at hw
  have HL := (show Hid _ from hml)
  clear hm hml
  go_enter Tryz.func23, Tryz.ntmps23
  go_wp2
  go_loop [5, 6] (fun n i => ∃ j z : Nat, (j : Int) ≤ x % 64 ∧ Hid (z = m / 2 ^ j) ∧ i = .int .i64 j ∧ n = .int .u64 (z : Int)) (fun _ i => (x % 64).toNat - (intOf i).toNat)
  case atStart => exact ⟨0, m, by omega, by show m = m / 2 ^ 0; simp, rfl, rfl⟩
  case round =>
    obtain ⟨j, z, hj, HZ, rfl, rfl⟩ := hrel
    by_cases hlt : (j : Int) < x % 64
    · go_wp2
      go_round
      case rel =>
        have hz : z < 18446744073709551616 := by rw [HZ.out]; exact Nat.lt_of_le_of_lt (Nat.div_le_self _ _) HL.out
        exact ⟨j + 1, z / 2, by omega, by show _ = _; rw [HZ.out, Nat.pow_succ, ← Nat.div_div_eq_div_mul], by go_num, wrap_half z hz⟩
      case measure => simp [intOf]; omega
    · have hj2 : (x % 64).toNat = j := by omega
      have HJ := (show Hid _ from hj2)
      clear hj2
      go_wp2
      go_ret
      refine ⟨?_, (Below.refl _ _).alloc (Nat.le_refl _) _⟩
      show Ending.returned (.bool ((z : Int) % 2 == 1)) = _
      rw [HJ.out, ← tb_mod, ← HZ.out]
theorem in_any (k : C4) (hk : k.ok) (b : Nat) (hb : b < 256) (w : World) :
    Calls Tryz.prog 23 #[k.v, .int .i64 b] w fun e w' => e = .returned (.bool (k.has b)) ∧ Below w.heap.size w w' := by
  obtain ⟨m, hm, hl⟩ := okW_nat (C4.ok_w hk (b / 64))
  have e1 : ((b : Int) / 64).toNat = b / 64 := by omega
  have e2 : ((b : Int) % 64).toNat = b % 64 := by omega
  have h := in_walk k b (by omega) (by omega) m (by rw [e1]; exact hm) hl w
  rw [e2] at h
  have e3 : k.has b = m.testBit (b % 64) := by unfold C4.has; rw [hm, Int.toNat_natCast]
  rw [e3]
  exact h

/-! With: a byte more -/
theorem add_is_or (x j : Nat) (h : x.testBit j = false) : x + 2 ^ j = x ||| 2 ^ j := by
  have hb : x / 2 ^ j % 2 = 0 := by
    rw [tb_eq] at h
    have := of_decide_eq_false h
    omega
  have hp : 0 < 2 ^ j := Nat.two_pow_pos j
  have e1 : x = 2 ^ (j + 1) * (x / 2 ^ j / 2) + x % 2 ^ j := by
    have a1 := Nat.div_add_mod x (2 ^ j)
    have a2 : x / 2 ^ j = 2 * (x / 2 ^ j / 2) := by omega
    rw [Nat.pow_succ, Nat.mul_assoc]
    rw [a2] at a1
    omega
  have hlo : x % 2 ^ j < 2 ^ j := Nat.mod_lt _ hp
  generalize x % 2 ^ j = lo at *
  generalize x / 2 ^ j / 2 = A at *
  have j1 : 2 ^ (j + 1) * A ||| lo = 2 ^ (j + 1) * A + lo := nat_join j _ _ (by rw [Nat.pow_succ, Nat.mul_assoc, Nat.mul_mod_right]) hlo
  have j2 : 2 ^ (j + 1) * A ||| 2 ^ j = 2 ^ (j + 1) * A + 2 ^ j := nat_join (j + 1) _ _ (by rw [Nat.mul_mod_right]) (by rw [Nat.pow_succ]; omega)
  have j3 : (2 ^ (j + 1) * A + 2 ^ j) ||| lo = 2 ^ (j + 1) * A + 2 ^ j + lo := nat_join j _ _ (by rw [Nat.pow_succ, Nat.mul_assoc, ← Nat.mul_succ, Nat.mul_mod_right]) hlo
  rw [e1]
  rw [← j1, Nat.or_assoc, Nat.or_comm lo, ← Nat.or_assoc, j2, j3, j1]
  omega
theorem C4.put_add {k : C4} (hk : k.ok) (b : Nat) (hb : b < 256) (h : k.has b = false) : k.put ((b : Int) / 64).toNat (IntKind.u64.wrap (k.w ((b : Int) / 64).toNat + ((2 ^ ((b : Int) % 64).toNat : Nat) : Int))) = k.add (b : Int) := by
  have e1 : ((b : Int) / 64).toNat = b / 64 := by omega
  have e2 : ((b : Int) % 64).toNat = b % 64 := by omega
  unfold C4.add
  rw [e1, e2]
  obtain ⟨m, hm, hl⟩ := okW_nat (C4.ok_w hk (b / 64))
  have e3 : m.testBit (b % 64) = false := by
    unfold C4.has at h
    rwa [hm, Int.toNat_natCast] at h
  rw [hm]
  congr 1
  have h2 : 2 ^ (b % 64) < 2 ^ 64 := Nat.pow_lt_pow_right (by decide) (by omega)
  have ew : IntKind.u64.wrap (2 ^ (b % 64)) = ((2 ^ (b % 64) : Nat) : Int) := by
    have := u64_small (2 ^ (b % 64)) h2
    rw [Int.natCast_pow] at this
    rw [Int.natCast_pow]
    exact this
  have ho : m ||| 2 ^ (b % 64) < 2 ^ 64 := Nat.or_lt_two_pow hl h2
  rw [ew, u64_or_nat m _ hl h2, ← Int.natCast_add, add_is_or m _ e3]
  exact u64_small _ ho
theorem C4.add_same {k : C4} (hk : k.ok) (b : Nat) (hb : b < 256) (h : k.has b = true) : k.add (b : Int) = k := by
  apply C4.ext_has (C4.add_ok hk b) hk
  intro i hi
  rw [C4.has_add hk b i hb hi]
  by_cases e : b = i
  · subst e; rw [h]; rfl
  · simp [e]
end Go.Proofs.YtmdfdlljeggbbaaGreatDoor
namespace Go.Proofs.YtmdfdlljeggbbaaGreatDoor
set_option linter.unusedSimpArgs false
set_option linter.unusedVariables false
open Go.RowKit

set_option maxHeartbeats 1000000 in
theorem count_any (k : C4) (hk : k.ok) (w : World) :
    Calls Tryz.prog 11 #[k.v] w fun e w' => e = .returned (.int .i64 (cnt k.has 256)) ∧ Below w.heap.size w w' := by
  go_enter Tryz.func11, Tryz.ntmps11
  go_wp2
  go_loopw [3, 4] (fun u v wr => ∃ i c : Nat, i ≤ 256 ∧ c ≤ i ∧ Hid (c = cnt k.has i) ∧ v = .int .i64 i ∧ u = .int .i64 c ∧ Below w.heap.size w wr ∧ Hb wr w.heap.size k) (fun _ v _ => 256 - (intOf v).toNat)
  case atStart => exact ⟨0, 0, by omega, by omega, Eq.refl _, rfl, rfl, (Below.refl _ _).alloc (Nat.le_refl _) _, Hb.new _ k _ rfl⟩
  case round =>
    obtain ⟨i, c, hi, hc, HC, rfl, rfl, hB, hK⟩ := hrel
    obtain ⟨c0, c1, c2, c3, e0, e1, e2, e3⟩ := hK.all
    by_cases hlt : i < 256
    · have i1 : (i : Int) < 256 := by omega
      go_wp2_with fail
      refine (in_any k hk i hlt _).mono ?_
      rintro e w1 ⟨rfl, hb1⟩
      have hB1 := hB.trans (hb1.mono hB.size)
      have hK1 := hK.below hb1 hK.lt
      cases hn : k.has i
      · have HE : Hid (c = cnt k.has (i + 1)) := by show _ = _; rw [cnt, hn, HC.out]; rfl
        go_wp2
        exact ⟨⟨i + 1, c, by omega, by omega, HE, by go_num, by go_num, hB1, hK1⟩, by simp [intOf]; omega⟩
      · have HE : Hid (c + 1 = cnt k.has (i + 1)) := by show _ = _; rw [cnt, hn, HC.out]; rfl
        go_wp2
        exact ⟨⟨i + 1, c + 1, by omega, by omega, HE, by go_num, by go_num, hB1, hK1⟩, by simp [intOf]; omega⟩
    · have hi2 : i = 256 := by omega
      subst hi2
      go_wp2
      go_ret
      exact ⟨ret_int (by rw [HC.out]), hB⟩
end Go.Proofs.YtmdfdlljeggbbaaGreatDoor
namespace Go.Proofs.YtmdfdlljeggbbaaGreatDoor
set_option linter.unusedSimpArgs false
set_option linter.unusedVariables false
set_option maxRecDepth 100000
open Go.RowKit

theorem count_b (k : C4) (hk : k.ok) (w : World) :
    Calls Tryz.prog 11 #[k.v] w fun e w' => ∃ c : Nat, e = .returned (.int .i64 c) ∧ Hid (((0 : Int) < (c : Int)) ↔ ¬ k.eqb z4 = true) ∧ c ≤ 256 ∧ Below w.heap.size w w' := by
  refine (count_any k hk w).mono ?_
  rintro e w' ⟨rfl, hb⟩
  exact ⟨cnt k.has 256, rfl, cnt_zero_iff hk, cnt_le _ _, hb⟩
set_option maxHeartbeats 4000000 in
theorem fault_at (ns : List Nd) (ho : NdOk ns) (b off cap : Nat) (hm : ns.length ≤ maxLen) (w : World) (hlt : b < w.heap.size) (hN : NsAt w b off ns) (h0 : 0 < ns.length) :
    Calls Tryz.prog 4 #[.slice (some ⟨b, off, none⟩) ns.length cap] w fun e w' => e = .returned (.int .i64 (faultL ns)) ∧ Below w.heap.size w w' := by
  have HM := (show Hid _ from hm)
  unfold maxLen at hm
  by_cases h60 : 60 < ns.length
  · have g60 : (60 : Int) < (ns.length : Int) := by omega
    have HF : Hid (faultL ns = 3) := by show _ = _; rw [faultL, if_pos h60]
    go_enter Tryz.func4, Tryz.ntmps4
    go_wp2
    go_ret
    exact ⟨by rw [HF.out]; rfl, Below.refl _ _⟩
  · have g60 : ¬ (60 : Int) < (ns.length : Int) := by omega
    go_enter Tryz.func4, Tryz.ntmps4
    go_wp2
    go_loopw [3] (fun v wr => ∃ i : Nat, i ≤ ns.length ∧ v = .int .i64 i ∧ Hid (scanL ns = scanL (ns.drop i)) ∧ Below w.heap.size w wr) (fun v _ => ns.length - (intOf v).toNat)
    case atStart => exact ⟨0, by omega, rfl, Eq.refl _, Below.refl _ _⟩
    case round =>
      obtain ⟨i, hi, rfl, HS, hB⟩ := hrel
      have hNr := hN.below hB hlt
      by_cases hil : i < ns.length
      · obtain ⟨n, hn⟩ : ∃ n, ns[i]? = some n := ⟨ns[i], List.getElem?_eq_getElem hil⟩
        have hno : n.c.ok := ho n (List.mem_of_getElem? hn)
        obtain ⟨c0, c1, c2, c3, c4⟩ := hNr i n hn
        have HD : Hid _ := scan_drop ns i n hn
        have i0 : (0 : Int) ≤ (i : Int) := by omega
        have i1 : (i : Int) < (ns.length : Int) := by omega
        clear hn
        by_cases hr : n.op < 1 ∨ 9 < n.op
        · have HF : Hid (faultL ns = 1) := by
            show _ = _
            have e1 : scanL ns = 1 := by rw [HS.out, HD.out, if_pos hr]
            rw [faultL, if_neg h60, e1]; rfl
          rcases hr with hr | hr
          · go_wp2
            go_ret
            exact ⟨by rw [HF.out]; rfl, hB⟩
          · have hr2 : ¬ n.op < 1 := by omega
            go_wp2
            go_ret
            exact ⟨by rw [HF.out]; rfl, hB⟩
        · have hr1 : ¬ n.op < 1 := by omega
          have hr2 : ¬ 9 < n.op := by omega
          by_cases hb1 : n.op = 1
          · have hb2 : (n.op != 1) = false := by simp [hb1]
            have HS2 : Hid (scanL ns = scanL (ns.drop (i + 1))) := by
              show _ = _
              rw [HS.out, HD.out, if_neg hr, if_neg (by simp [hb1])]
            clear hb1
            go_wp2
            exact ⟨⟨i + 1, by omega, by go_num, HS2, hB⟩, by simp [intOf]; omega⟩
          · have hb2 : (n.op != 1) = true := by simp [hb1]
            go_wp2_with fail
            refine (count_b n.c hno _).mono ?_
            rintro e w1 ⟨c, rfl, HC, hc, hb3⟩
            have hB1 := hB.trans (hb3.mono hB.size)
            by_cases hz : n.c.eqb z4 = true
            · have gz : ¬ (0 : Int) < (c : Int) := fun h => (HC.out.1 h) hz
              have HS2 : Hid (scanL ns = scanL (ns.drop (i + 1))) := by
                show _ = _
                rw [HS.out, HD.out, if_neg hr, if_neg (by simp [hz])]
              clear hz
              go_wp2
              exact ⟨⟨i + 1, by omega, by go_num, HS2, hB1⟩, by simp [intOf]; omega⟩
            · have gz : (0 : Int) < (c : Int) := HC.out.2 hz
              have HF : Hid (faultL ns = 2) := by
                show _ = _
                have e1 : scanL ns = 2 := by rw [HS.out, HD.out, if_neg hr, if_pos ⟨hb1, hz⟩]
                rw [faultL, if_neg h60, e1]; rfl
              clear hz
              go_wp2
              go_ret
              exact ⟨by rw [HF.out]; rfl, hB1⟩
      · have hi2 : i = ns.length := by omega
        subst hi2
        have e0 : scanL ns = 0 := by rw [HS.out, List.drop_length]; rfl
        have z0 : ((ns.length : Int) == 0) = false := by rw [beq_eq_false_iff_ne]; omega
        have hne : ns ≠ [] := by intro e; rw [e] at h0; simp at h0
        have HF : Hid (faultL ns = if endE ns 0 ≠ some ns.length then 2 else 0) := by
          show _ = _
          rw [faultL, if_neg h60, e0]
          simp [hne]
        clear e0 hne
        go_wp2_with fail
        refine (endOf_any ns _ 0 _ ⟨_, cap, rfl, HM.out, Or.inr ⟨b, off, rfl, Nat.lt_of_lt_of_le hlt hB.size, hNr⟩⟩).mono ?_
        rintro e w1 ⟨rfl, rfl⟩
        cases he : endE ns 0 with
        | none =>
          have HF2 : Hid (faultL ns = 2) := by show _ = _; rw [HF.out, he]; simp
          have q : ((-1 : Int) != (ns.length : Int)) = true := by rw [bne_iff_ne]; omega
          simp only [endI]
          clear he
          go_wp2
          go_ret
          exact ⟨by rw [HF2.out]; rfl, hB⟩
        | some j =>
          by_cases hj : j = ns.length
          · have HF2 : Hid (faultL ns = 0) := by show _ = _; rw [HF.out, he, hj]; simp
            simp only [endI]
            have q : ((j : Int) != (ns.length : Int)) = false := by rw [hj]; simp
            clear he hj
            go_wp2
            go_ret
            exact ⟨by rw [HF2.out]; rfl, hB⟩
          · have HF2 : Hid (faultL ns = 2) := by show _ = _; rw [HF.out, he]; simp [hj]
            simp only [endI]
            have q : ((j : Int) != (ns.length : Int)) = true := by rw [bne_iff_ne]; omega
            clear he hj
            go_wp2
            go_ret
            exact ⟨by rw [HF2.out]; rfl, hB⟩
set_option maxHeartbeats 1000000 in
theorem fault_nil (a : Option Addr) (cap : Nat) (w : World) :
    Calls Tryz.prog 4 #[.slice a 0 cap] w fun e w' => e = .returned (.int .i64 2) ∧ Below w.heap.size w w' := by
  go_enter Tryz.func4, Tryz.ntmps4
  go_wp2
  go_loop [3] (fun v => v = .int .i64 0) (fun _ => 0)
  case atStart => rfl
  case round =>
    subst hrel
    go_wp2
    go_ret
    exact ⟨rfl, Below.refl _ _⟩
theorem fault_any (ns : List Nd) (ho : NdOk ns) (v : Value) (w : World) (hN : NsIn w v ns) :
    Calls Tryz.prog 4 #[v] w fun e w' => e = .returned (.int .i64 (faultL ns)) ∧ Below w.heap.size w w' := by
  obtain ⟨a, cap, rfl, hm, h | ⟨b, off, rfl, hlt, hn⟩⟩ := hN
  · subst h
    exact fault_nil a cap w
  · by_cases h0 : 0 < ns.length
    · exact fault_at ns ho b off cap hm w hlt hn h0
    · have : ns = [] := List.eq_nil_of_length_eq_zero (by omega)
      subst this
      exact fault_nil _ cap w
end Go.Proofs.YtmdfdlljeggbbaaGreatDoor
