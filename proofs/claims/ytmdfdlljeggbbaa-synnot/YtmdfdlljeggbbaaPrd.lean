/- A text is read in one way; what is read is a pattern that may be. Plain mathematics. -/
import Derived.Test.YtmdfdlljeggbbaaPrt
import Derived.Test.YtmdfdlljeggbbaaPrz
set_option linter.unusedSimpArgs false
set_option linter.unusedVariables false
set_option maxRecDepth 100000
namespace Go.Proofs.Ytmdfdlljeggbbaa
open Go.RowKit

theorem flat_inj : ∀ (t u : Rx), t.Ok → u.Ok → ∀ (p q : List Nd), t.flat ++ p = u.flat ++ q → t = u ∧ p = q
  | .leaf n, .leaf m, ht, hu, p, q, h => by
    simp [Rx.flat] at h
    exact ⟨by rw [h.1], h.2⟩
  | .leaf n, .one m a, ht, hu, p, q, h => by
    simp [Rx.flat] at h
    have h1 : prt n.op = 0 := ht
    have h2 := hu.1
    rw [h.1] at h1
    omega
  | .leaf n, .two m a b, ht, hu, p, q, h => by
    simp [Rx.flat] at h
    have h1 : prt n.op = 0 := ht
    have h2 := hu.1
    rw [h.1] at h1
    omega
  | .one n a, .leaf m, ht, hu, p, q, h => by
    simp [Rx.flat] at h
    have h1 : prt m.op = 0 := hu
    have h2 := ht.1
    rw [h.1] at h2
    omega
  | .one n a, .one m b, ht, hu, p, q, h => by
    simp [Rx.flat] at h
    obtain ⟨h1, h2⟩ := flat_inj a b ht.2 hu.2 p q h.2
    exact ⟨by rw [h.1, h1], h2⟩
  | .one n a, .two m b c, ht, hu, p, q, h => by
    simp [Rx.flat] at h
    have h1 := ht.1
    have h2 := hu.1
    rw [h.1] at h1
    omega
  | .two n a b, .leaf m, ht, hu, p, q, h => by
    simp [Rx.flat] at h
    have h1 : prt m.op = 0 := hu
    have h2 := ht.1
    rw [h.1] at h2
    omega
  | .two n a b, .one m c, ht, hu, p, q, h => by
    simp [Rx.flat] at h
    have h1 := ht.1
    have h2 := hu.1
    rw [h.1] at h1
    omega
  | .two n a b, .two m c d, ht, hu, p, q, h => by
    simp only [Rx.flat, List.cons_append, List.append_assoc, List.cons.injEq] at h
    obtain ⟨h1, h2⟩ := flat_inj a c ht.2.1 hu.2.1 _ _ h.2
    obtain ⟨h3, h4⟩ := flat_inj b d ht.2.2 hu.2.2 _ _ h2
    exact ⟨by rw [h.1, h1, h3], h4⟩
theorem tree_inj (t u : Rx) (ht : t.Ok) (hu : u.Ok) (h : t.flat = u.flat) : t = u := (flat_inj t u ht hu [] [] (by rw [h])).1
theorem det : ∀ (n : Nat) (l : List UInt8), l.length ≤ n → (∀ r r', Atom l r → Atom l r' → r = r') ∧ (∀ r r', Seq l r → Seq l r' → r = r') ∧ (∀ r r', Alt l r → Alt l r' → r = r')
  | n, l, hn => by
    have hA : ∀ r r', Atom l r → Atom l r' → r = r' := by
      intro r r' h h'
      by_cases h40 : l.head? = some 40
      · obtain ⟨el, hl⟩ := tail_len l _ h40
        have hal : ∀ x y, Alt l.tail x → Alt l.tail y → x = y := by
          cases n with
          | zero => omega
          | succ n => exact (det n l.tail (by omega)).2.2
        have key : ∀ r, Atom l r → ∃ x, Alt l.tail x ∧ r = (match x with | .error k => .error k | .ok (ss, l1) => if l1.head? = some 41 then .ok (posts (ors ss) l1.tail) else .error l1.length) := by
          intro r h
          cases h with
          | bad _ _ h1 _ => exact absurd h40 h1
          | ok _ _ _ h1 _ => exact absurd h40 h1
          | inBad l' k h1 => exact ⟨_, h1, rfl⟩
          | inOpen l' ss l1 h1 h2 => exact ⟨_, h1, by simp only; rw [if_neg h2]⟩
          | inOk l' ss l1 h1 => exact ⟨_, h1, rfl⟩
        obtain ⟨x, hx, e⟩ := key r h
        obtain ⟨y, hy, e'⟩ := key r' h'
        rw [e, e', hal x y hx hy]
      · have key : ∀ r, Atom l r → r = (match base l with | .error k => .error k | .ok (m, l1) => .ok (posts (.leaf m) l1)) := by
          intro r h
          cases h with
          | bad _ _ _ h1 => rw [h1]
          | ok _ _ _ _ h1 => rw [h1]
          | inBad l' k h1 => exact absurd rfl h40
          | inOpen l' ss l1 h1 h2 => exact absurd rfl h40
          | inOk l' ss l1 h1 => exact absurd rfl h40
        rw [key r h, key r' h']
    have hS : ∀ r r', Seq l r → Seq l r' → r = r' := by
      intro r r' h h'
      cases hs : stp l with
      | true =>
        have key : ∀ r, Seq l r → r = .ok ([], l) := by
          intro r h
          cases h with
          | stop _ _ => rfl
          | bad _ _ h1 _ => rw [hs] at h1; cases h1
          | more _ _ _ _ _ h1 _ _ => rw [hs] at h1; cases h1
          | moreBad _ _ _ _ h1 _ _ => rw [hs] at h1; cases h1
        rw [key r h, key r' h']
      | false =>
        have key : ∀ r, Seq l r → ∃ a, Atom l a ∧ ((∃ k, a = .error k ∧ r = .error k) ∨ (∃ x l1 b, a = .ok (x, l1) ∧ Seq l1 b ∧ r = (match b with | .error k => .error k | .ok (xs, l2) => .ok (x :: xs, l2)))) := by
          intro r h
          cases h with
          | stop _ h1 => rw [hs] at h1; cases h1
          | bad _ k _ h1 => exact ⟨_, h1, Or.inl ⟨k, rfl, rfl⟩⟩
          | more _ x l1 xs l2 _ h1 h2 => exact ⟨_, h1, Or.inr ⟨x, l1, _, rfl, h2, rfl⟩⟩
          | moreBad _ x l1 k _ h1 h2 => exact ⟨_, h1, Or.inr ⟨x, l1, _, rfl, h2, rfl⟩⟩
        obtain ⟨a, ha, e⟩ := key r h
        obtain ⟨a', ha', e'⟩ := key r' h'
        have hh := hA a a' ha ha'
        subst hh
        rcases e with ⟨k, h1, h2⟩ | ⟨x, l1, b, h1, h2, h3⟩
        · rcases e' with ⟨k', h1', h2'⟩ | ⟨x', l1', b', h1', h2', h3'⟩
          · rw [h1] at h1'
            injection h1' with h1'
            rw [h2, h2', h1']
          · rw [h1] at h1'; cases h1'
        · rcases e' with ⟨k', h1', h2'⟩ | ⟨x', l1', b', h1', h2', h3'⟩
          · rw [h1] at h1'; cases h1'
          · rw [h1] at h1'
            injection h1' with h1'
            injection h1' with h4 h5
            subst h4; subst h5
            rw [h1] at ha
            have hz := (sizes n l hn).1 x l1 ha
            have fp := x.flat_pos
            cases n with
            | zero => omega
            | succ n =>
              have := (det n l1 (by omega)).2.1 b b' h2 h2'
              rw [h3, h3', this]
    refine ⟨hA, hS, ?_⟩
    intro r r' h h'
    have key : ∀ r, Alt l r → ∃ a, Seq l a ∧ ((∃ k, a = .error k ∧ r = .error k) ∨ (∃ xs l1, a = .ok (xs, l1) ∧ l1.head? ≠ some 124 ∧ r = .ok ([cats xs], l1)) ∨ (∃ xs l1 b, a = .ok (xs, 124 :: l1) ∧ Alt l1 b ∧ r = (match b with | .error k => .error k | .ok (ss, l2) => .ok (cats xs :: ss, l2)))) := by
      intro r h
      cases h with
      | bad _ k h1 => exact ⟨_, h1, Or.inl ⟨k, rfl, rfl⟩⟩
      | last _ xs l1 h1 h2 => exact ⟨_, h1, Or.inr (Or.inl ⟨xs, l1, rfl, h2, rfl⟩)⟩
      | more _ xs l1 ss l2 h1 h2 => exact ⟨_, h1, Or.inr (Or.inr ⟨xs, l1, _, rfl, h2, rfl⟩)⟩
      | moreBad _ xs l1 k h1 h2 => exact ⟨_, h1, Or.inr (Or.inr ⟨xs, l1, _, rfl, h2, rfl⟩)⟩
    obtain ⟨a, ha, e⟩ := key r h
    obtain ⟨a', ha', e'⟩ := key r' h'
    have hh := hS a a' ha ha'
    subst hh
    rcases e with ⟨k, h1, h2⟩ | ⟨xs, l1, h1, h2, h3⟩ | ⟨xs, l1, b, h1, h2, h3⟩
    · rcases e' with ⟨k', h1', h2'⟩ | ⟨xs', l1', h1', h2', h3'⟩ | ⟨xs', l1', b', h1', h2', h3'⟩
      · rw [h1] at h1'; injection h1' with h1'; rw [h2, h2', h1']
      · rw [h1] at h1'; cases h1'
      · rw [h1] at h1'; cases h1'
    · rcases e' with ⟨k', h1', h2'⟩ | ⟨xs', l1', h1', h2', h3'⟩ | ⟨xs', l1', b', h1', h2', h3'⟩
      · rw [h1] at h1'; cases h1'
      · rw [h1] at h1'
        injection h1' with h1'
        injection h1' with h4 h5
        subst h4; subst h5
        rw [h3, h3']
      · rw [h1] at h1'
        injection h1' with h1'
        injection h1' with h4 h5
        subst h5
        exact absurd rfl h2
    · rcases e' with ⟨k', h1', h2'⟩ | ⟨xs', l1', h1', h2', h3'⟩ | ⟨xs', l1', b', h1', h2', h3'⟩
      · rw [h1] at h1'; cases h1'
      · rw [h1] at h1'
        injection h1' with h1'
        injection h1' with h4 h5
        rw [← h5] at h2'
        exact absurd rfl h2'
      · rw [h1] at h1'
        injection h1' with h1'
        injection h1' with h4 h5
        injection h5 with _ h5
        subst h4; subst h5
        rw [h1] at ha
        have hz := (sizes n l hn).2.1 xs _ ha
        simp at hz
        cases n with
        | zero => omega
        | succ n =>
          have := (det n l1 (by omega)).2.2 b b' h2 h2'
          rw [h3, h3', this]
theorem whole_det (l : List UInt8) (r r' : Except Nat Rx) (h : Whole l r) (h' : Whole l r') : r = r' := by
  have hd := (det l.length l (Nat.le_refl _)).2.2
  have key : ∀ r, Whole l r → ∃ a, Alt l a ∧ r = (match a with | .error k => .error k | .ok (ss, l1) => if l1 = [] then .ok (ors ss) else .error l1.length) := by
    intro r h
    cases h with
    | bad k h1 => exact ⟨_, h1, rfl⟩
    | more ss l1 h1 h2 => exact ⟨_, h1, by simp only; rw [if_neg h2]⟩
    | ok ss h1 => exact ⟨_, h1, rfl⟩
  obtain ⟨a, ha, e⟩ := key r h
  obtain ⟨a', ha', e'⟩ := key r' h'
  rw [e, e', hd a a' ha ha']
theorem txt_inj (t u : Rx) (ht : t.Good) (hu : u.Good) (h : t.txt = u.txt) : t = u := by
  have h1 := read_txt t ht
  have h2 := read_txt u hu
  rw [← h] at h2
  have := whole_det _ _ _ h1 h2
  injection this
theorem items_ok : ∀ (f : Nat) (c : C4) (l : List UInt8) (k : C4) (r : List UInt8), c.ok → items f c l = .ok (k, r) → k.ok
  | 0, c, l, k, r, hc, h => by simp [items] at h
  | f + 1, c, l, k, r, hc, h => by
    rw [items] at h
    split at h
    · injection h with h
      injection h with h1 _
      rw [← h1]; exact hc
    · cases h1 : rd1 l with
      | error e => rw [h1] at h; simp at h
      | ok p =>
        obtain ⟨lo, l1⟩ := p
        rw [h1] at h
        simp only at h
        split at h
        · cases h3 : rd1 l1.tail with
          | error e => rw [h3] at h; simp at h
          | ok p =>
            obtain ⟨hi, l2⟩ := p
            rw [h3] at h
            simp only at h
            split at h
            · simp at h
            · exact items_ok f _ _ _ _ (addTo_ok hc _ _) h
        · exact items_ok f _ _ _ _ (C4.add_ok hc _) h
theorem bracket_ok (l : List UInt8) (k : C4) (r : List UInt8) (h : bracket l = .ok (k, r)) : k.ok := by
  unfold bracket at h
  split at h
  · cases h1 : items l.length z4 l.tail with
    | error e => rw [h1] at h; simp at h
    | ok p =>
      obtain ⟨c, r'⟩ := p
      rw [h1] at h
      injection h with h
      injection h with h2 _
      rw [← h2]
      exact C4.not_ok (items_ok _ _ _ _ _ z4_ok h1)
  · exact items_ok _ _ _ _ _ z4_ok h
theorem leaf_byte {k : C4} (hk : k.ok) : (Rx.leaf ⟨1, k⟩).Good := ⟨rfl, ⟨Int.le_refl 1, (by decide : (1 : Int) ≤ 9)⟩, Or.inl rfl, hk⟩
theorem base_good (l : List UInt8) (n : Nd) (r : List UInt8) (h : base l = .ok (n, r)) : (Rx.leaf n).Good := by
  unfold base at h
  split at h
  · cases h1 : bracket l.tail with
    | error e => rw [h1] at h; simp at h
    | ok p =>
      obtain ⟨c, r'⟩ := p
      rw [h1] at h
      injection h with h
      injection h with h2 _
      rw [← h2]
      exact leaf_byte (bracket_ok _ _ _ h1)
  · split at h
    · injection h with h
      injection h with h2 _
      rw [← h2]
      exact leaf_byte dotC_ok
    · split at h
      · injection h with h
        injection h with h2 _
        rw [← h2]
        exact ⟨rfl, ⟨by decide, by decide⟩, Or.inr rfl, z4_ok⟩
      · split at h
        · injection h with h
          injection h with h2 _
          rw [← h2]
          exact ⟨rfl, ⟨by decide, by decide⟩, Or.inr rfl, z4_ok⟩
        · cases h1 : rd1 l with
          | error e => rw [h1] at h; simp at h
          | ok p =>
            obtain ⟨b, r'⟩ := p
            rw [h1] at h
            injection h with h
            injection h with h2 _
            rw [← h2]
            exact leaf_byte (C4.add_ok z4_ok _)
theorem posts_good : ∀ (l : List UInt8) (t : Rx), t.Good → (posts t l).1.Good
  | [], t, h => h
  | c :: r, t, h => by
    rw [posts]
    split
    · exact posts_good r _ ⟨rfl, ⟨⟨by decide, by decide⟩, Or.inr rfl, z4_ok⟩, h⟩
    · split
      · exact posts_good r _ ⟨rfl, ⟨⟨by decide, by decide⟩, Or.inr rfl, z4_ok⟩, h⟩
      · split
        · exact posts_good r _ ⟨rfl, ⟨⟨by decide, by decide⟩, Or.inr rfl, z4_ok⟩, h⟩
        · exact h
theorem cats_good : ∀ (xs : List Rx), (∀ x ∈ xs, x.Good) → (cats xs).Good
  | [], _ => ⟨rfl, ⟨by decide, by decide⟩, Or.inr rfl, z4_ok⟩
  | [x], h => h x (by simp)
  | x :: y :: r, h => ⟨rfl, ⟨⟨by decide, by decide⟩, Or.inr rfl, z4_ok⟩, h x (by simp), cats_good (y :: r) fun z hz => h z (by simp at hz ⊢; exact Or.inr hz)⟩
theorem ors_good : ∀ (xs : List Rx), (∀ x ∈ xs, x.Good) → (ors xs).Good
  | [], _ => ⟨rfl, ⟨by decide, by decide⟩, Or.inr rfl, z4_ok⟩
  | [x], h => h x (by simp)
  | x :: y :: r, h => ⟨rfl, ⟨⟨by decide, by decide⟩, Or.inr rfl, z4_ok⟩, h x (by simp), ors_good (y :: r) fun z hz => h z (by simp at hz ⊢; exact Or.inr hz)⟩
theorem goods : ∀ (n : Nat) (l : List UInt8), l.length ≤ n → (∀ x l1, Atom l (.ok (x, l1)) → x.Good) ∧ (∀ xs l1, Seq l (.ok (xs, l1)) → ∀ x ∈ xs, x.Good) ∧ (∀ ss l1, Alt l (.ok (ss, l1)) → ∀ x ∈ ss, x.Good)
  | n, l, hn => by
    have hA : ∀ x l1, Atom l (.ok (x, l1)) → x.Good := by
      intro x l1 h
      generalize hr : (Except.ok (x, l1) : Except Nat (Rx × List UInt8)) = r at h
      cases h with
      | bad => cases hr
      | ok _ m l2 h1 h2 =>
        have p := posts_good l2 (.leaf m) (base_good _ _ _ h2)
        injection hr with hr
        rw [← hr] at p
        exact p
      | inBad => cases hr
      | inOpen => cases hr
      | inOk l0 ss l2 h1 =>
        cases n with
        | zero => simp at hn
        | succ n =>
          have g := (goods n l0 (by simp at hn; omega)).2.2 ss _ h1
          have p := posts_good l2 (ors ss) (ors_good ss g)
          injection hr with hr
          rw [← hr] at p
          exact p
    have hS : ∀ xs l1, Seq l (.ok (xs, l1)) → ∀ x ∈ xs, x.Good := by
      intro xs l1 h
      cases h with
      | stop => simp
      | more _ x l2 xs _ h1 h2 h3 =>
        have g := hA x l2 h2
        have hz := (sizes n l hn).1 x l2 h2
        have fp := x.flat_pos
        cases n with
        | zero => omega
        | succ n =>
          have g2 := (goods n l2 (by omega)).2.1 xs l1 h3
          intro y hy
          rcases List.mem_cons.1 hy with rfl | hy
          · exact g
          · exact g2 y hy
    refine ⟨hA, hS, ?_⟩
    intro ss l1 h
    cases h with
    | last _ xs _ h1 h2 =>
      intro y hy
      simp at hy
      rw [hy]
      exact cats_good xs (hS xs l1 h1)
    | more _ xs l2 ss _ h1 h2 =>
      have hz := (sizes n l hn).2.1 xs _ h1
      simp at hz
      cases n with
      | zero => omega
      | succ n =>
        have g2 := (goods n l2 (by omega)).2.2 ss l1 h2
        intro y hy
        rcases List.mem_cons.1 hy with rfl | hy
        · exact cats_good xs (hS xs _ h1)
        · exact g2 y hy
theorem whole_good (l : List UInt8) (t : Rx) (h : Whole l (.ok t)) : t.Good := by
  generalize hr : (Except.ok t : Except Nat Rx) = r at h
  cases h with
  | bad => cases hr
  | more => cases hr
  | ok ss h1 =>
    injection hr with hr
    rw [hr]
    exact ors_good ss ((goods _ l (Nat.le_refl _)).2.2 ss _ h1)
theorem Rx.Good.isOk : ∀ {t : Rx}, t.Good → t.Ok
  | .leaf n, h => h.1
  | .one n a, h => ⟨h.1, Rx.Good.isOk h.2.2⟩
  | .two n a b, h => ⟨h.1, Rx.Good.isOk h.2.2.1, Rx.Good.isOk h.2.2.2⟩
theorem Rx.Good.all : ∀ {t : Rx}, t.Good → ∀ n ∈ t.flat, n.good
  | .leaf n, h, m, hm => by simp [Rx.flat] at hm; rw [hm]; exact h.2
  | .one n a, h, m, hm => by
    simp [Rx.flat] at hm
    rcases hm with rfl | hm
    · exact h.2.1
    · exact Rx.Good.all h.2.2 m hm
  | .two n a b, h, m, hm => by
    simp [Rx.flat] at hm
    rcases hm with rfl | hm | hm
    · exact h.2.1
    · exact Rx.Good.all h.2.2.1 m hm
    · exact Rx.Good.all h.2.2.2 m hm
/-- A good pattern of so many nodes has no fault. -/
theorem good_fault (t : Rx) (h : t.Good) (hl : t.flat.length ≤ 60) : faultL t.flat = 0 := by
  refine (faultL_zero _).2 ⟨hl, fun n hn => ?_, endE_flat t h.isOk⟩
  have := h.all n hn
  exact ⟨this.1, this.2.1.imp id fun e => by rw [e]; exact eqb_self _⟩
/-- And a pattern without a fault is good. -/
theorem fault_good (t : Rx) (ht : t.Ok) (hf : faultL t.flat = 0) (hc : ∀ n ∈ t.flat, n.c.ok) : t.Good := by
  obtain ⟨_, hr, _⟩ := (faultL_zero _).1 hf
  exact good_of t ht fun n hn => ⟨(hr n hn).1, (hr n hn).2.imp id fun e => (C4.eqb_iff _ _).1 e, hc n hn⟩
end Go.Proofs.Ytmdfdlljeggbbaa
