/- A pattern's text is read as it: plain mathematics. How great what is read is; lists of nodes joined. Plain mathematics. Trees are told by their nodes: plain mathematics. A text is read in one way; what is read is a pattern that may be. Plain mathematics. What is read of a text: the nodes, the place, the fault. -/
import Derived.Test.YtejbififfceamaaGreatDoorY05
import Derived.Test.YtejbififfceamaaGreatDoorY04
namespace Go.Proofs.YtejbififfceamaaGreatDoor
set_option linter.unusedSimpArgs false
set_option linter.unusedVariables false
set_option maxRecDepth 100000
open Go.RowKit

/-- A node that may be. -/
def Nd.good (n : Nd) : Prop := (1 ≤ n.op ∧ n.op ≤ 9) ∧ (n.op = 1 ∨ n.c = z4) ∧ n.c.ok
/-- A pattern that may be. -/
def Rx.Good : Rx → Prop
  | .leaf n => prt n.op = 0 ∧ n.good
  | .one n a => prt n.op = 1 ∧ n.good ∧ a.Good
  | .two n a b => prt n.op = 2 ∧ n.good ∧ a.Good ∧ b.Good
def Rx.sides : Rx → List Rx
  | .leaf n => [.leaf n]
  | .one n a => [.one n a]
  | .two n a b => if n.op = 4 then a :: b.sides else [.two n a b]
def Rx.atoms : Rx → List Rx
  | .leaf n => if n.op = 2 then [] else [.leaf n]
  | .one n a => [.one n a]
  | .two n a b => if n.op = 3 then a :: (if b.top.op = 3 then b.atoms else [b]) else [.two n a b]
theorem good_of : ∀ (t : Rx), t.Ok → (∀ n ∈ t.flat, n.good) → t.Good
  | .leaf n, h, hn => ⟨h, hn n (by simp [Rx.flat])⟩
  | .one n a, h, hn => ⟨h.1, hn n (by simp [Rx.flat]), good_of a h.2 fun m hm => hn m (by simp [Rx.flat, hm])⟩
  | .two n a b, h, hn => ⟨h.1, hn n (by simp [Rx.flat]), good_of a h.2.1 fun m hm => hn m (by simp [Rx.flat, hm]), good_of b h.2.2 fun m hm => hn m (by simp [Rx.flat, hm])⟩
theorem nd_eq {n : Nd} (h : n.good) (k : Int) (hk : n.op = k) (h1 : k ≠ 1) : n = ⟨k, z4⟩ := by
  obtain ⟨op, c⟩ := n
  simp only at hk
  subst hk
  rcases h.2.1 with h | h
  · exact absurd h h1
  · simp only at h; rw [h]
theorem two_op {n : Nd} (h : prt n.op = 2) : n.op = 3 ∨ n.op = 4 := (prt_two n.op).1 h
theorem sides_ne (t : Rx) : ∃ x r, t.sides = x :: r := by
  cases t with
  | leaf n => exact ⟨_, _, rfl⟩
  | one n a => exact ⟨_, _, rfl⟩
  | two n a b =>
    unfold Rx.sides
    split
    · exact ⟨_, _, rfl⟩
    · exact ⟨_, _, rfl⟩
theorem ors_sides : ∀ (t : Rx), t.Good → ors t.sides = t
  | .leaf n, _ => rfl
  | .one n a, _ => rfl
  | .two n a b, h => by
    unfold Rx.sides
    split
    · rename_i h4
      have ih := ors_sides b h.2.2.2
      obtain ⟨x, r, e⟩ := sides_ne b
      rw [e] at ih ⊢
      rw [ors, ih, nd_eq h.2.1 4 h4 (by decide)]
    · rfl
theorem atoms_ne (t : Rx) (h : t.top.op = 3) : ∃ x r, t.atoms = x :: r := by
  cases t with
  | leaf n =>
    have h : n.op = 3 := h
    unfold Rx.atoms
    rw [if_neg (by omega)]
    exact ⟨_, _, rfl⟩
  | one n a => exact ⟨_, _, rfl⟩
  | two n a b =>
    unfold Rx.atoms
    split
    · exact ⟨_, _, rfl⟩
    · exact ⟨_, _, rfl⟩
theorem cats_atoms : ∀ (t : Rx), t.Good → cats t.atoms = t
  | .leaf n, h => by
    unfold Rx.atoms
    split
    · rename_i h2
      rw [cats, nd_eq h.2 2 h2 (by decide)]
    · rfl
  | .one n a, _ => rfl
  | .two n a b, h => by
    unfold Rx.atoms
    split
    · rename_i h3
      split
      · rename_i hb
        have ih := cats_atoms b h.2.2.2
        obtain ⟨x, r, e⟩ := atoms_ne b hb
        rw [e] at ih ⊢
        rw [cats, ih, nd_eq h.2.1 3 h3 (by decide)]
      · rw [cats, cats, nd_eq h.2.1 3 h3 (by decide)]
    · rfl
/-- A sign that may not stand where an atom opens. -/
def noHead (c : UInt8) : Prop := c = 42 ∨ c = 43 ∨ c = 63 ∨ c = 124 ∨ c = 41
theorem noHead_sign {c : UInt8} (h : noHead c) : c ∈ signL ∧ c ≠ 92 ∧ c ≠ 46 ∧ c ≠ 91 ∧ c ≠ 40 ∧ c ≠ 94 ∧ c ≠ 36 := by
  rcases h with rfl | rfl | rfl | rfl | rfl <;> decide
theorem textL_head (k : C4) (hk : k.ok) (r : List UInt8) : ∃ c l, textL k ++ r = c :: l ∧ ¬ noHead c ∧ c ≠ 40 := by
  by_cases hd : k.eqb dotC = true
  · exact ⟨46, r, by rw [textL_dot k hd]; rfl, fun h => (noHead_sign h).2.2.1 rfl, by decide⟩
  · have hd2 : k.eqb dotC = false := Bool.eq_false_iff.2 hd
    cases h1 : (k.many 4 == 1)
    · exact ⟨91, runs256 k ++ [93] ++ r, by rw [textL_more k hd2 h1]; rfl, fun h => (noHead_sign h).2.2.2.1 rfl, by decide⟩
    · obtain ⟨b, hb, e1, e2⟩ := single_class hk h1
      rw [textL_one k hd2 h1, e1]
      cases he : bt b ++ r with
      | nil =>
        have : bt b = [] := (List.append_eq_nil_iff.1 he).1
        unfold bt at this
        split at this
        · cases this
        · split at this <;> cases this
      | cons c l =>
        refine ⟨c, l, rfl, fun h => ?_, ?_⟩
        · obtain ⟨h1, h2, _⟩ := noHead_sign h
          exact bt_head b r c h1 h2 (by rw [he]; rfl)
        · rintro rfl
          exact bt_head b r 40 (by decide) (by decide) (by rw [he]; rfl)
theorem brT_true (s r : List UInt8) : brT true s ++ r = 40 :: (s ++ 41 :: r) := by simp [brT]
theorem brT_false (s : List UInt8) : brT false s = s := rfl
/-- Brackets: whether a part has them. -/
theorem brk_unit (p op : Int) (s : Bool) (h2 : op ≠ 2) (h3 : op ≠ 3) (h4 : op ≠ 4) : brk p op s = false := by
  unfold brk
  rw [if_neg h2, if_neg h4, if_neg h3]
theorem brk_post (p op : Int) (hp : p = 5 ∨ p = 6 ∨ p = 7) (h : op = 2 ∨ op = 3 ∨ op = 4) : brk p op false = true := by
  rcases hp with rfl | rfl | rfl <;> rcases h with rfl | rfl | rfl <;> rfl
theorem brk_cat1 (op : Int) (h : op = 2 ∨ op = 3 ∨ op = 4) : brk 3 op false = true := by
  rcases h with rfl | rfl | rfl <;> rfl
theorem unit_cases (t : Rx) : (t.top.op = 2 ∨ t.top.op = 3 ∨ t.top.op = 4) ∨ (t.top.op ≠ 2 ∧ t.top.op ≠ 3 ∧ t.top.op ≠ 4) := by
  by_cases h2 : t.top.op = 2
  · exact Or.inl (Or.inl h2)
  · by_cases h3 : t.top.op = 3
    · exact Or.inl (Or.inr (Or.inl h3))
    · by_cases h4 : t.top.op = 4
      · exact Or.inl (Or.inr (Or.inr h4))
      · exact Or.inr ⟨h2, h3, h4⟩
/-- With what a text opens: a part that stands first, with brackets if it needs them. -/
def HeadOk (s : List UInt8) : Prop := ∀ r, ∃ c l, s ++ r = c :: l ∧ ¬ noHead c
theorem headOk_br (s : List UInt8) : HeadOk (brT true s) := fun r => ⟨40, _, brT_true s r, fun h => (noHead_sign h).2.2.2.2.1 rfl⟩
theorem headOk_app {s : List UInt8} (h : HeadOk s) (q : List UInt8) : HeadOk (s ++ q) := fun r => by rw [List.append_assoc]; exact h (q ++ r)
theorem txt_head : ∀ (t : Rx), t.Good → t.top.op ≠ 2 → t.top.op ≠ 4 → HeadOk t.txt
  | .leaf n, h, h2, h4 => by
    intro r
    have h2 : n.op ≠ 2 := h2
    have h4 : n.op ≠ 4 := h4
    have h0 := h.1
    have hop : n.op = 1 ∨ n.op = 8 ∨ n.op = 9 := by
      have := h.2.1
      have e3 : n.op ≠ 3 := by intro e; rw [e] at h0; simp [prt] at h0
      have e5 : n.op ≠ 5 := by intro e; rw [e] at h0; simp [prt] at h0
      have e6 : n.op ≠ 6 := by intro e; rw [e] at h0; simp [prt] at h0
      have e7 : n.op ≠ 7 := by intro e; rw [e] at h0; simp [prt] at h0
      omega
    unfold Rx.txt
    rcases hop with h1 | h1 | h1
    · rw [if_pos h1]
      obtain ⟨c, l, e, hc, _⟩ := textL_head n.c h.2.2.2 r
      exact ⟨c, l, e, hc⟩
    · rw [if_neg (by omega), if_pos h1]
      exact ⟨94, r, rfl, fun h => (noHead_sign h).2.2.2.2.2.1 rfl⟩
    · rw [if_neg (by omega), if_neg (by omega), if_pos h1]
      exact ⟨36, r, rfl, fun h => (noHead_sign h).2.2.2.2.2.2 rfl⟩
  | .one n a, h, _, _ => by
    unfold Rx.txt
    apply headOk_app
    have hp := (prt_one n.op).1 h.1
    rcases unit_cases a with hu | ⟨u2, u3, u4⟩
    · rw [brk_post _ _ hp hu]; exact headOk_br _
    · rw [brk_unit _ _ _ u2 u3 u4, brT_false]
      exact txt_head a h.2.2 u2 u4
  | .two n a b, h, _, h4 => by
    have h4 : n.op ≠ 4 := h4
    have h3 : n.op = 3 := by rcases two_op h.1 with h | h <;> omega
    unfold Rx.txt
    apply headOk_app
    rw [h3]
    rcases unit_cases a with hu | ⟨u2, u3, u4⟩
    · rw [brk_cat1 _ hu]; exact headOk_br _
    · rw [brk_unit _ _ _ u2 u3 u4, brT_false]
      exact txt_head a h.2.2.1 u2 u4
theorem posts_no (t : Rx) (l : List UInt8) (h : ∀ c, l.head? = some c → noHead c → c = 124 ∨ c = 41) : posts t l = (t, l) := by
  cases l with
  | nil => rfl
  | cons c r =>
    have hc := h c rfl
    have e1 : c ≠ 42 := by rintro rfl; rcases hc (Or.inl rfl) with h | h <;> exact absurd h (by decide)
    have e2 : c ≠ 43 := by rintro rfl; rcases hc (Or.inr (Or.inl rfl)) with h | h <;> exact absurd h (by decide)
    have e3 : c ≠ 63 := by rintro rfl; rcases hc (Or.inr (Or.inr (Or.inl rfl))) with h | h <;> exact absurd h (by decide)
    rw [posts, if_neg e1, if_neg e2, if_neg e3]
theorem posts_stp (t : Rx) (l : List UInt8) (h : stp l = true) : posts t l = (t, l) := by
  apply posts_no
  intro c hc _
  cases l with
  | nil => cases hc
  | cons d r =>
    simp at hc
    subst hc
    simpa [stp] using h
theorem stp_head {s : List UInt8} (h : HeadOk s) (r : List UInt8) : stp (s ++ r) = false := by
  obtain ⟨c, l, e, hc⟩ := h r
  rw [e]
  simp only [stp, Bool.or_eq_false_iff, beq_eq_false_iff_ne]
  exact ⟨fun h => hc (Or.inr (Or.inr (Or.inr (Or.inl h)))), fun h => hc (Or.inr (Or.inr (Or.inr (Or.inr h))))⟩
theorem posts_head {s : List UInt8} (h : HeadOk s) (t : Rx) (r : List UInt8) : posts t (s ++ r) = (t, s ++ r) := by
  apply posts_no
  intro c hc hn
  obtain ⟨d, l, e, hd⟩ := h r
  rw [e] at hc
  simp at hc
  subst hc
  exact absurd hn hd
/-- How a pattern's text is read, wherever it stands. -/
structure Reads (t : Rx) : Prop where
  atom : t.top.op ≠ 2 → t.top.op ≠ 3 → t.top.op ≠ 4 → ∀ r, Atom (t.txt ++ r) (.ok (posts t r))
  seq : t.top.op ≠ 4 → ∀ r, stp r = true → Seq (t.txt ++ r) (.ok (t.atoms, r))
  alt : ∀ r, stp r = true → r.head? ≠ some 124 → Alt (t.txt ++ r) (.ok (t.sides, r))
/-- In brackets it is an atom. -/
theorem Reads.inBr {t : Rx} (h : Reads t) (hg : t.Good) (r : List UInt8) : Atom (brT true t.txt ++ r) (.ok (posts t r)) := by
  rw [brT_true]
  have := Atom.inOk _ _ r (h.alt (41 :: r) (by simp [stp]) (by simp))
  rw [ors_sides t hg] at this
  exact this
theorem Reads.part {t : Rx} (h : Reads t) (hg : t.Good) (p : Int) (s : Bool) (hb : brk p t.top.op s = true ∨ (t.top.op ≠ 2 ∧ t.top.op ≠ 3 ∧ t.top.op ≠ 4)) (r : List UInt8) : Atom (brT (brk p t.top.op s) t.txt ++ r) (.ok (posts t r)) := by
  rcases hb with hb | ⟨h2, h3, h4⟩
  · rw [hb]; exact h.inBr hg r
  · rw [brk_unit _ _ _ h2 h3 h4, brT_false]; exact h.atom h2 h3 h4 r
theorem part_head {t : Rx} (hg : t.Good) (p : Int) (s : Bool) (hb : brk p t.top.op s = true ∨ (t.top.op ≠ 2 ∧ t.top.op ≠ 4)) : HeadOk (brT (brk p t.top.op s) t.txt) := by
  rcases hb with hb | ⟨h2, h4⟩
  · rw [hb]; exact headOk_br _
  · cases hx : brk p t.top.op s
    · rw [brT_false]; exact txt_head t hg h2 h4
    · exact headOk_br _
/-- From an atom alone to sides. -/
theorem reads_unit (t : Rx) (hg : t.Good) (h2 : t.top.op ≠ 2) (h3 : t.top.op ≠ 3) (h4 : t.top.op ≠ 4) (ha : t.atoms = [t]) (hs : t.sides = [t]) (h : ∀ r, Atom (t.txt ++ r) (.ok (posts t r))) : Reads t := by
  have hseq : ∀ r, stp r = true → Seq (t.txt ++ r) (.ok ([t], r)) := by
    intro r hr
    have h1 := h r
    rw [posts_stp t r hr] at h1
    exact Seq.more _ t r [] r (stp_head (txt_head t hg h2 h4) r) h1 (Seq.stop r hr)
  refine ⟨fun _ _ _ => h, fun _ r hr => ?_, fun r hr hr2 => ?_⟩
  · rw [ha]; exact hseq r hr
  · rw [hs]
    have := Alt.last _ _ _ (hseq r hr) hr2
    exact this
theorem reads : ∀ (t : Rx), t.Good → Reads t
  | .leaf n, hg => by
    have h0 := hg.1
    have hop : n.op = 1 ∨ n.op = 2 ∨ n.op = 8 ∨ n.op = 9 := by
      have := hg.2.1
      have e3 : n.op ≠ 3 := by intro e; rw [e] at h0; simp [prt] at h0
      have e4 : n.op ≠ 4 := by intro e; rw [e] at h0; simp [prt] at h0
      have e5 : n.op ≠ 5 := by intro e; rw [e] at h0; simp [prt] at h0
      have e6 : n.op ≠ 6 := by intro e; rw [e] at h0; simp [prt] at h0
      have e7 : n.op ≠ 7 := by intro e; rw [e] at h0; simp [prt] at h0
      omega
    by_cases h2 : n.op = 2
    · have ht : (Rx.leaf n).txt = [] := by
        unfold Rx.txt
        rw [if_neg (by omega), if_neg (by omega), if_neg (by omega)]
      have ha : (Rx.leaf n).atoms = [] := by unfold Rx.atoms; rw [if_pos h2]
      refine ⟨fun h => absurd h2 h, fun _ r hr => ?_, fun r hr hr2 => ?_⟩
      · rw [ht, ha]; exact Seq.stop r hr
      · rw [ht]
        have := Alt.last r [] r (Seq.stop r hr) hr2
        rw [cats, ← nd_eq hg.2 2 h2 (by decide)] at this
        exact this
    · refine reads_unit (.leaf n) hg h2 (by show n.op ≠ 3; omega) (by show n.op ≠ 4; omega) (by unfold Rx.atoms; rw [if_neg h2]) rfl ?_
      intro r
      have hb : base ((Rx.leaf n).txt ++ r) = .ok (n, r) ∧ ((Rx.leaf n).txt ++ r).head? ≠ some 40 := by
        unfold Rx.txt
        rcases hop with h1 | h1 | h1 | h1
        · rw [if_pos h1]
          obtain ⟨c, l, e, _, hc⟩ := textL_head n.c hg.2.2.2 r
          refine ⟨?_, by rw [e]; simpa using hc⟩
          rw [base_text hg.2.2.2]
          obtain ⟨op, c⟩ := n
          simp only at h1
          subst h1
          rfl
        · exact absurd h1 h2
        · rw [if_neg (by omega), if_pos h1]
          rw [nd_eq hg.2 8 h1 (by decide)]
          exact ⟨rfl, by simp⟩
        · rw [if_neg (by omega), if_neg (by omega), if_pos h1]
          rw [nd_eq hg.2 9 h1 (by decide)]
          exact ⟨rfl, by simp⟩
      exact Atom.ok _ n r hb.2 hb.1
  | .one n a, hg => by
    have hp := (prt_one n.op).1 hg.1
    refine reads_unit (.one n a) hg (by show n.op ≠ 2; omega) (by show n.op ≠ 3; omega) (by show n.op ≠ 4; omega) rfl rfl ?_
    intro r
    have ih := reads a hg.2.2
    have hb : brk n.op a.top.op false = true ∨ (a.top.op ≠ 2 ∧ a.top.op ≠ 3 ∧ a.top.op ≠ 4) := by
      rcases unit_cases a with hu | hu
      · exact Or.inl (brk_post _ _ hp hu)
      · exact Or.inr hu
    have := ih.part hg.2.2 n.op false hb (signT n.op :: r)
    have e : (Rx.one n a).txt ++ r = brT (brk n.op a.top.op false) a.txt ++ signT n.op :: r := by simp [Rx.txt]
    rw [e]
    have e2 : posts a (signT n.op :: r) = posts (.one n a) r := by
      rcases hp with h | h | h
      · rw [nd_eq hg.2.1 5 h (by decide)]; rfl
      · rw [nd_eq hg.2.1 6 h (by decide)]; rfl
      · rw [nd_eq hg.2.1 7 h (by decide)]; rfl
    rw [← e2]
    exact this
  | .two n a b, hg => by
    have iha := reads a hg.2.2.1
    have ihb := reads b hg.2.2.2
    by_cases h3 : n.op = 3
    · have h4 : n.op ≠ 4 := by omega
      have hseq : ∀ r, stp r = true → Seq ((Rx.two n a b).txt ++ r) (.ok ((Rx.two n a b).atoms, r)) := by
        intro r hr
        have hba : brk 3 a.top.op false = true ∨ (a.top.op ≠ 2 ∧ a.top.op ≠ 3 ∧ a.top.op ≠ 4) := by
          rcases unit_cases a with hu | hu
          · exact Or.inl (brk_cat1 _ hu)
          · exact Or.inr hu
        have hba2 : brk 3 a.top.op false = true ∨ (a.top.op ≠ 2 ∧ a.top.op ≠ 4) := by
          rcases hba with h | h
          · exact Or.inl h
          · exact Or.inr ⟨h.1, h.2.2⟩
        have hbb : brk 3 b.top.op true = true ∨ (b.top.op ≠ 2 ∧ b.top.op ≠ 4) := by
          rcases unit_cases b with (h | h | h) | h
          · rw [h]; exact Or.inl rfl
          · exact Or.inr ⟨by omega, by omega⟩
          · rw [h]; exact Or.inl rfl
          · exact Or.inr ⟨h.1, h.2.2⟩
        have hhb := part_head hg.2.2.2 3 true hbb
        have e : (Rx.two n a b).txt ++ r = brT (brk 3 a.top.op false) a.txt ++ (brT (brk 3 b.top.op true) b.txt ++ r) := by
          simp [Rx.txt, h3]
        have h1 := iha.part hg.2.2.1 3 false hba (brT (brk 3 b.top.op true) b.txt ++ r)
        rw [posts_head hhb] at h1
        have h2 : Seq (brT (brk 3 b.top.op true) b.txt ++ r) (.ok (if b.top.op = 3 then b.atoms else [b], r)) := by
          by_cases hb3 : b.top.op = 3
          · rw [if_pos hb3, hb3]
            rw [show brk 3 3 true = false from rfl, brT_false]
            exact ihb.seq (by omega) r hr
          · rw [if_neg hb3]
            have hbu : brk 3 b.top.op true = true ∨ (b.top.op ≠ 2 ∧ b.top.op ≠ 3 ∧ b.top.op ≠ 4) := by
              rcases hbb with h | h
              · exact Or.inl h
              · exact Or.inr ⟨h.1, hb3, h.2⟩
            have := ihb.part hg.2.2.2 3 true hbu r
            rw [posts_stp b r hr] at this
            exact Seq.more _ b r [] r (stp_head hhb r) this (Seq.stop r hr)
        rw [e]
        have ea : (Rx.two n a b).atoms = a :: (if b.top.op = 3 then b.atoms else [b]) := by
          unfold Rx.atoms
          rw [if_pos h3]
          cases b <;> rfl
        rw [ea]
        exact Seq.more _ a _ _ r (stp_head (part_head hg.2.2.1 3 false hba2) _) h1 h2
      refine ⟨fun _ h => absurd h3 h, fun _ => hseq, fun r hr hr2 => ?_⟩
      have := Alt.last _ _ _ (hseq r hr) hr2
      rw [cats_atoms _ hg] at this
      have es : (Rx.two n a b).sides = [.two n a b] := by unfold Rx.sides; rw [if_neg h4]
      rw [es]
      exact this
    · have h4 : n.op = 4 := by rcases two_op hg.1 with h | h <;> omega
      refine ⟨fun _ _ h => absurd h4 h, fun h => absurd h4 h, fun r hr hr2 => ?_⟩
      have es : (Rx.two n a b).sides = a :: b.sides := by
        unfold Rx.sides
        rw [if_pos h4]
        cases b <;> rfl
      have hbf : brk 4 b.top.op true = false := by
        rcases unit_cases b with (h | h | h) | h
        · rw [h]; rfl
        · rw [h]; rfl
        · rw [h]; rfl
        · exact brk_unit _ _ _ h.1 h.2.1 h.2.2
      have e : (Rx.two n a b).txt ++ r = brT (brk 4 a.top.op false) a.txt ++ (124 :: (b.txt ++ r)) := by
        simp [Rx.txt, h4, hbf, brT_false]
      have hb := ihb.alt r hr hr2
      rw [e, es]
      by_cases ha4 : a.top.op = 4
      · have hbr : brk 4 a.top.op false = true := by rw [ha4]; rfl
        rw [hbr]
        have h1 := iha.inBr hg.2.2.1 (124 :: (b.txt ++ r))
        rw [posts_stp a _ (by simp [stp])] at h1
        have h2 := Seq.more _ a _ [] _ (stp_head (headOk_br a.txt) _) h1 (Seq.stop (124 :: (b.txt ++ r)) (by simp [stp]))
        exact Alt.more _ [a] _ _ r h2 hb
      · have hbr : brk 4 a.top.op false = false := by
          rcases unit_cases a with (h | h | h) | h
          · rw [h]; rfl
          · rw [h]; rfl
          · exact absurd h ha4
          · exact brk_unit _ _ _ h.1 h.2.1 h.2.2
        rw [hbr, brT_false]
        have h2 := iha.seq ha4 (124 :: (b.txt ++ r)) (by simp [stp])
        have := Alt.more _ _ _ _ r h2 hb
        rw [cats_atoms a hg.2.2.1] at this
        exact this
/-- WHAT IS PRINTED IS READ. -/
theorem read_txt (t : Rx) (hg : t.Good) : Whole t.txt (.ok t) := by
  have := Whole.ok _ _ (by have := (reads t hg).alt [] rfl (by simp); rwa [List.append_nil] at this)
  rw [ors_sides t hg] at this
  exact this
end Go.Proofs.YtejbififfceamaaGreatDoor
namespace Go.Proofs.YtejbififfceamaaGreatDoor
set_option linter.unusedSimpArgs false
set_option linter.unusedVariables false
set_option maxRecDepth 100000
open Go.RowKit

/-- Lists of nodes joined, one behind the other. -/
def catL : List (List Nd) → List Nd
  | [] => [⟨2, z4⟩]
  | [x] => x
  | x :: y :: r => ⟨3, z4⟩ :: (x ++ catL (y :: r))
def orL : List (List Nd) → List Nd
  | [] => []
  | [x] => x
  | x :: y :: r => ⟨4, z4⟩ :: (x ++ orL (y :: r))
theorem cats_flat : ∀ xs : List Rx, (cats xs).flat = catL (xs.map Rx.flat)
  | [] => rfl
  | [x] => rfl
  | x :: y :: r => by
    have := cats_flat (y :: r)
    simp only [List.map_cons] at this ⊢
    rw [cats, Rx.flat, this, catL]
theorem ors_flat : ∀ ss : List Rx, ss ≠ [] → (ors ss).flat = orL (ss.map Rx.flat)
  | [], h => absurd rfl h
  | [x], _ => rfl
  | x :: y :: r, _ => by
    have := ors_flat (y :: r) (by simp)
    simp only [List.map_cons] at this ⊢
    rw [ors, Rx.flat, this, orL]
/-- All nodes of some lists. -/
def szL : List (List Nd) → Nat
  | [] => 0
  | x :: r => x.length + szL r
theorem szL_app : ∀ (x y : List (List Nd)), szL (x ++ y) = szL x + szL y
  | [], y => by simp [szL]
  | a :: r, y => by simp [szL, szL_app r y]; omega
theorem catL_len : ∀ xs : List (List Nd), (catL xs).length ≤ szL xs + xs.length + 1
  | [] => by simp [catL, szL]
  | [x] => by simp [catL, szL]; omega
  | x :: y :: r => by
    have := catL_len (y :: r)
    simp [catL, szL] at this ⊢; omega
theorem catL_len1 : ∀ xs : List (List Nd), xs ≠ [] → (catL xs).length + 1 ≤ szL xs + xs.length
  | [], h => absurd rfl h
  | [x], _ => by simp [catL, szL]
  | x :: y :: r, _ => by
    have := catL_len1 (y :: r) (by simp)
    simp [catL, szL] at this ⊢; omega
theorem orL_len : ∀ xs : List (List Nd), (orL xs).length ≤ szL xs + xs.length
  | [] => by simp [orL, szL]
  | [x] => by simp [orL, szL]
  | x :: y :: r => by
    have := orL_len (y :: r)
    simp [orL, szL] at this ⊢; omega
theorem szL_drop : ∀ (xs : List (List Nd)) (i : Nat), szL (xs.drop i) ≤ szL xs
  | xs, 0 => by simp
  | [], i + 1 => by simp
  | x :: r, i + 1 => by
    have := szL_drop r i
    simp [szL]; omega
theorem posts_size : ∀ (l : List UInt8) (t : Rx), (posts t l).1.flat.length + (posts t l).2.length = t.flat.length + l.length
  | [], t => by simp [posts]
  | c :: r, t => by
    rw [posts]
    split
    · have := posts_size r (.one ⟨5, z4⟩ t); simp [Rx.flat] at this ⊢; omega
    · split
      · have := posts_size r (.one ⟨6, z4⟩ t); simp [Rx.flat] at this ⊢; omega
      · split
        · have := posts_size r (.one ⟨7, z4⟩ t); simp [Rx.flat] at this ⊢; omega
        · simp
theorem alt_ne (l : List UInt8) (ss : List Rx) (l1 : List UInt8) (h : Alt l (.ok (ss, l1))) : ss ≠ [] := by
  cases h with
  | last => simp
  | more => simp
theorem sizes : ∀ (n : Nat) (l : List UInt8), l.length ≤ n → (∀ x l1, Atom l (.ok (x, l1)) → x.flat.length + 1 + 2 * l1.length ≤ 2 * l.length) ∧ (∀ xs l1, Seq l (.ok (xs, l1)) → szL (xs.map Rx.flat) + xs.length + 2 * l1.length ≤ 2 * l.length) ∧ (∀ ss l1, Alt l (.ok (ss, l1)) → szL (ss.map Rx.flat) + ss.length + 2 * l1.length ≤ 2 * l.length + 2)
  | n, l, hn => by
    have hA : ∀ x l1, Atom l (.ok (x, l1)) → x.flat.length + 1 + 2 * l1.length ≤ 2 * l.length := by
      intro x l1 h
      generalize hr : (Except.ok (x, l1) : Except Nat (Rx × List UInt8)) = r at h
      cases h with
      | bad => cases hr
      | ok _ m l2 h1 h2 =>
        have g := base_len _ _ _ h2
        have p := posts_size l2 (.leaf m)
        have q := posts_len l2 (.leaf m)
        injection hr with hr
        rw [← hr] at p q
        simp [Rx.flat] at p q ⊢
        omega
      | inBad => cases hr
      | inOpen => cases hr
      | inOk l0 ss l2 h1 =>
        cases n with
        | zero => simp at hn
        | succ n =>
          have g := (sizes n l0 (by simp at hn; omega)).2.2 ss _ h1
          have p := posts_size l2 (ors ss)
          have q := posts_len l2 (ors ss)
          have hne := alt_ne _ _ _ h1
          have o := ors_flat ss hne
          have ol := orL_len (ss.map Rx.flat)
          injection hr with hr
          rw [← hr] at p q
          rw [o] at p
          simp at p q g ol ⊢
          omega
    have hS : ∀ xs l1, Seq l (.ok (xs, l1)) → szL (xs.map Rx.flat) + xs.length + 2 * l1.length ≤ 2 * l.length := by
      intro xs l1 h
      cases h with
      | stop => simp [szL]
      | more _ x l2 xs _ h1 h2 h3 =>
        have g := hA x l2 h2
        have fp := x.flat_pos
        cases n with
        | zero => omega
        | succ n =>
          have g2 := (sizes n l2 (by omega)).2.1 xs l1 h3
          simp [szL] at g2 ⊢
          omega
    refine ⟨hA, hS, ?_⟩
    intro ss l1 h
    cases h with
    | last _ xs _ h1 h2 =>
      have g := hS xs l1 h1
      have c := catL_len (xs.map Rx.flat)
      simp [szL, cats_flat] at g c ⊢
      omega
    | more _ xs l2 ss _ h1 h2 =>
      have g := hS xs _ h1
      have c := catL_len (xs.map Rx.flat)
      simp at g
      cases n with
      | zero => omega
      | succ n =>
        have g2 := (sizes n l2 (by omega)).2.2 ss l1 h2
        simp [szL, cats_flat] at g g2 c ⊢
        omega
end Go.Proofs.YtejbififfceamaaGreatDoor
namespace Go.Proofs.YtejbififfceamaaGreatDoor
set_option linter.unusedSimpArgs false
set_option linter.unusedVariables false
set_option maxRecDepth 100000
open Go.RowKit

theorem flat_inj : ∀ (t u : Rx), t.Ok → u.Ok → ∀ (p q : List Nd), t.flat ++ p = u.flat ++ q → t = u ∧ p = q
  | .leaf n, .leaf m, ht, hu, p, q, h => by
    simp [Rx.flat] at h
    exact ⟨by rw [h.1], h.2⟩
  | .leaf n, .one m a, ht, hu, p, q, h => by
    simp [Rx.flat] at h
    have h1 : prt n.op = 0 := ht
    have h2 := hu.1
    rw [h.1] at h1
    omega
  | .leaf n, .two m a b, ht, hu, p, q, h => by
    simp [Rx.flat] at h
    have h1 : prt n.op = 0 := ht
    have h2 := hu.1
    rw [h.1] at h1
    omega
  | .one n a, .leaf m, ht, hu, p, q, h => by
    simp [Rx.flat] at h
    have h1 : prt m.op = 0 := hu
    have h2 := ht.1
    rw [h.1] at h2
    omega
  | .one n a, .one m b, ht, hu, p, q, h => by
    simp [Rx.flat] at h
    obtain ⟨h1, h2⟩ := flat_inj a b ht.2 hu.2 p q h.2
    exact ⟨by rw [h.1, h1], h2⟩
  | .one n a, .two m b c, ht, hu, p, q, h => by
    simp [Rx.flat] at h
    have h1 := ht.1
    have h2 := hu.1
    rw [h.1] at h1
    omega
  | .two n a b, .leaf m, ht, hu, p, q, h => by
    simp [Rx.flat] at h
    have h1 : prt m.op = 0 := hu
    have h2 := ht.1
    rw [h.1] at h2
    omega
  | .two n a b, .one m c, ht, hu, p, q, h => by
    simp [Rx.flat] at h
    have h1 := ht.1
    have h2 := hu.1
    rw [h.1] at h1
    omega
  | .two n a b, .two m c d, ht, hu, p, q, h => by
    simp only [Rx.flat, List.cons_append, List.append_assoc, List.cons.injEq] at h
    obtain ⟨h1, h2⟩ := flat_inj a c ht.2.1 hu.2.1 _ _ h.2
    obtain ⟨h3, h4⟩ := flat_inj b d ht.2.2 hu.2.2 _ _ h2
    exact ⟨by rw [h.1, h1, h3], h4⟩
theorem tree_inj (t u : Rx) (ht : t.Ok) (hu : u.Ok) (h : t.flat = u.flat) : t = u := (flat_inj t u ht hu [] [] (by rw [h])).1
end Go.Proofs.YtejbififfceamaaGreatDoor
namespace Go.Proofs.YtejbififfceamaaGreatDoor
set_option linter.unusedSimpArgs false
set_option linter.unusedVariables false
set_option maxRecDepth 100000
open Go.RowKit

theorem det : ∀ (n : Nat) (l : List UInt8), l.length ≤ n → (∀ r r', Atom l r → Atom l r' → r = r') ∧ (∀ r r', Seq l r → Seq l r' → r = r') ∧ (∀ r r', Alt l r → Alt l r' → r = r')
  | n, l, hn => by
    have hA : ∀ r r', Atom l r → Atom l r' → r = r' := by
      intro r r' h h'
      by_cases h40 : l.head? = some 40
      · obtain ⟨el, hl⟩ := tail_len l _ h40
        have hal : ∀ x y, Alt l.tail x → Alt l.tail y → x = y := by
          cases n with
          | zero => omega
          | succ n => exact (det n l.tail (by omega)).2.2
        have key : ∀ r, Atom l r → ∃ x, Alt l.tail x ∧ r = (match x with | .error k => .error k | .ok (ss, l1) => if l1.head? = some 41 then .ok (posts (ors ss) l1.tail) else .error l1.length) := by
          intro r h
          cases h with
          | bad _ _ h1 _ => exact absurd h40 h1
          | ok _ _ _ h1 _ => exact absurd h40 h1
          | inBad l' k h1 => exact ⟨_, h1, rfl⟩
          | inOpen l' ss l1 h1 h2 => exact ⟨_, h1, by simp only; rw [if_neg h2]⟩
          | inOk l' ss l1 h1 => exact ⟨_, h1, rfl⟩
        obtain ⟨x, hx, e⟩ := key r h
        obtain ⟨y, hy, e'⟩ := key r' h'
        rw [e, e', hal x y hx hy]
      · have key : ∀ r, Atom l r → r = (match base l with | .error k => .error k | .ok (m, l1) => .ok (posts (.leaf m) l1)) := by
          intro r h
          cases h with
          | bad _ _ _ h1 => rw [h1]
          | ok _ _ _ _ h1 => rw [h1]
          | inBad l' k h1 => exact absurd rfl h40
          | inOpen l' ss l1 h1 h2 => exact absurd rfl h40
          | inOk l' ss l1 h1 => exact absurd rfl h40
        rw [key r h, key r' h']
    have hS : ∀ r r', Seq l r → Seq l r' → r = r' := by
      intro r r' h h'
      cases hs : stp l with
      | true =>
        have key : ∀ r, Seq l r → r = .ok ([], l) := by
          intro r h
          cases h with
          | stop _ _ => rfl
          | bad _ _ h1 _ => rw [hs] at h1; cases h1
          | more _ _ _ _ _ h1 _ _ => rw [hs] at h1; cases h1
          | moreBad _ _ _ _ h1 _ _ => rw [hs] at h1; cases h1
        rw [key r h, key r' h']
      | false =>
        have key : ∀ r, Seq l r → ∃ a, Atom l a ∧ ((∃ k, a = .error k ∧ r = .error k) ∨ (∃ x l1 b, a = .ok (x, l1) ∧ Seq l1 b ∧ r = (match b with | .error k => .error k | .ok (xs, l2) => .ok (x :: xs, l2)))) := by
          intro r h
          cases h with
          | stop _ h1 => rw [hs] at h1; cases h1
          | bad _ k _ h1 => exact ⟨_, h1, Or.inl ⟨k, rfl, rfl⟩⟩
          | more _ x l1 xs l2 _ h1 h2 => exact ⟨_, h1, Or.inr ⟨x, l1, _, rfl, h2, rfl⟩⟩
          | moreBad _ x l1 k _ h1 h2 => exact ⟨_, h1, Or.inr ⟨x, l1, _, rfl, h2, rfl⟩⟩
        obtain ⟨a, ha, e⟩ := key r h
        obtain ⟨a', ha', e'⟩ := key r' h'
        have hh := hA a a' ha ha'
        subst hh
        rcases e with ⟨k, h1, h2⟩ | ⟨x, l1, b, h1, h2, h3⟩
        · rcases e' with ⟨k', h1', h2'⟩ | ⟨x', l1', b', h1', h2', h3'⟩
          · rw [h1] at h1'
            injection h1' with h1'
            rw [h2, h2', h1']
          · rw [h1] at h1'; cases h1'
        · rcases e' with ⟨k', h1', h2'⟩ | ⟨x', l1', b', h1', h2', h3'⟩
          · rw [h1] at h1'; cases h1'
          · rw [h1] at h1'
            injection h1' with h1'
            injection h1' with h4 h5
            subst h4; subst h5
            rw [h1] at ha
            have hz := (sizes n l hn).1 x l1 ha
            have fp := x.flat_pos
            cases n with
            | zero => omega
            | succ n =>
              have := (det n l1 (by omega)).2.1 b b' h2 h2'
              rw [h3, h3', this]
    refine ⟨hA, hS, ?_⟩
    intro r r' h h'
    have key : ∀ r, Alt l r → ∃ a, Seq l a ∧ ((∃ k, a = .error k ∧ r = .error k) ∨ (∃ xs l1, a = .ok (xs, l1) ∧ l1.head? ≠ some 124 ∧ r = .ok ([cats xs], l1)) ∨ (∃ xs l1 b, a = .ok (xs, 124 :: l1) ∧ Alt l1 b ∧ r = (match b with | .error k => .error k | .ok (ss, l2) => .ok (cats xs :: ss, l2)))) := by
      intro r h
      cases h with
      | bad _ k h1 => exact ⟨_, h1, Or.inl ⟨k, rfl, rfl⟩⟩
      | last _ xs l1 h1 h2 => exact ⟨_, h1, Or.inr (Or.inl ⟨xs, l1, rfl, h2, rfl⟩)⟩
      | more _ xs l1 ss l2 h1 h2 => exact ⟨_, h1, Or.inr (Or.inr ⟨xs, l1, _, rfl, h2, rfl⟩)⟩
      | moreBad _ xs l1 k h1 h2 => exact ⟨_, h1, Or.inr (Or.inr ⟨xs, l1, _, rfl, h2, rfl⟩)⟩
    obtain ⟨a, ha, e⟩ := key r h
    obtain ⟨a', ha', e'⟩ := key r' h'
    have hh := hS a a' ha ha'
    subst hh
    rcases e with ⟨k, h1, h2⟩ | ⟨xs, l1, h1, h2, h3⟩ | ⟨xs, l1, b, h1, h2, h3⟩
    · rcases e' with ⟨k', h1', h2'⟩ | ⟨xs', l1', h1', h2', h3'⟩ | ⟨xs', l1', b', h1', h2', h3'⟩
      · rw [h1] at h1'; injection h1' with h1'; rw [h2, h2', h1']
      · rw [h1] at h1'; cases h1'
      · rw [h1] at h1'; cases h1'
    · rcases e' with ⟨k', h1', h2'⟩ | ⟨xs', l1', h1', h2', h3'⟩ | ⟨xs', l1', b', h1', h2', h3'⟩
      · rw [h1] at h1'; cases h1'
      · rw [h1] at h1'
        injection h1' with h1'
        injection h1' with h4 h5
        subst h4; subst h5
        rw [h3, h3']
      · rw [h1] at h1'
        injection h1' with h1'
        injection h1' with h4 h5
        subst h5
        exact absurd rfl h2
    · rcases e' with ⟨k', h1', h2'⟩ | ⟨xs', l1', h1', h2', h3'⟩ | ⟨xs', l1', b', h1', h2', h3'⟩
      · rw [h1] at h1'; cases h1'
      · rw [h1] at h1'
        injection h1' with h1'
        injection h1' with h4 h5
        rw [← h5] at h2'
        exact absurd rfl h2'
      · rw [h1] at h1'
        injection h1' with h1'
        injection h1' with h4 h5
        injection h5 with _ h5
        subst h4; subst h5
        rw [h1] at ha
        have hz := (sizes n l hn).2.1 xs _ ha
        simp at hz
        cases n with
        | zero => omega
        | succ n =>
          have := (det n l1 (by omega)).2.2 b b' h2 h2'
          rw [h3, h3', this]
theorem whole_det (l : List UInt8) (r r' : Except Nat Rx) (h : Whole l r) (h' : Whole l r') : r = r' := by
  have hd := (det l.length l (Nat.le_refl _)).2.2
  have key : ∀ r, Whole l r → ∃ a, Alt l a ∧ r = (match a with | .error k => .error k | .ok (ss, l1) => if l1 = [] then .ok (ors ss) else .error l1.length) := by
    intro r h
    cases h with
    | bad k h1 => exact ⟨_, h1, rfl⟩
    | more ss l1 h1 h2 => exact ⟨_, h1, by simp only; rw [if_neg h2]⟩
    | ok ss h1 => exact ⟨_, h1, rfl⟩
  obtain ⟨a, ha, e⟩ := key r h
  obtain ⟨a', ha', e'⟩ := key r' h'
  rw [e, e', hd a a' ha ha']
theorem txt_inj (t u : Rx) (ht : t.Good) (hu : u.Good) (h : t.txt = u.txt) : t = u := by
  have h1 := read_txt t ht
  have h2 := read_txt u hu
  rw [← h] at h2
  have := whole_det _ _ _ h1 h2
  injection this
theorem items_ok : ∀ (f : Nat) (c : C4) (l : List UInt8) (k : C4) (r : List UInt8), c.ok → items f c l = .ok (k, r) → k.ok
  | 0, c, l, k, r, hc, h => by simp [items] at h
  | f + 1, c, l, k, r, hc, h => by
    rw [items] at h
    split at h
    · injection h with h
      injection h with h1 _
      rw [← h1]; exact hc
    · cases h1 : rd1 l with
      | error e => rw [h1] at h; simp at h
      | ok p =>
        obtain ⟨lo, l1⟩ := p
        rw [h1] at h
        simp only at h
        split at h
        · cases h3 : rd1 l1.tail with
          | error e => rw [h3] at h; simp at h
          | ok p =>
            obtain ⟨hi, l2⟩ := p
            rw [h3] at h
            simp only at h
            split at h
            · simp at h
            · exact items_ok f _ _ _ _ (addTo_ok hc _ _) h
        · exact items_ok f _ _ _ _ (C4.add_ok hc _) h
theorem bracket_ok (l : List UInt8) (k : C4) (r : List UInt8) (h : bracket l = .ok (k, r)) : k.ok := by
  unfold bracket at h
  split at h
  · cases h1 : items l.length z4 l.tail with
    | error e => rw [h1] at h; simp at h
    | ok p =>
      obtain ⟨c, r'⟩ := p
      rw [h1] at h
      injection h with h
      injection h with h2 _
      rw [← h2]
      exact C4.not_ok (items_ok _ _ _ _ _ z4_ok h1)
  · exact items_ok _ _ _ _ _ z4_ok h
theorem leaf_byte {k : C4} (hk : k.ok) : (Rx.leaf ⟨1, k⟩).Good := ⟨rfl, ⟨Int.le_refl 1, (by decide : (1 : Int) ≤ 9)⟩, Or.inl rfl, hk⟩
theorem base_good (l : List UInt8) (n : Nd) (r : List UInt8) (h : base l = .ok (n, r)) : (Rx.leaf n).Good := by
  unfold base at h
  split at h
  · cases h1 : bracket l.tail with
    | error e => rw [h1] at h; simp at h
    | ok p =>
      obtain ⟨c, r'⟩ := p
      rw [h1] at h
      injection h with h
      injection h with h2 _
      rw [← h2]
      exact leaf_byte (bracket_ok _ _ _ h1)
  · split at h
    · injection h with h
      injection h with h2 _
      rw [← h2]
      exact leaf_byte dotC_ok
    · split at h
      · injection h with h
        injection h with h2 _
        rw [← h2]
        exact ⟨rfl, ⟨by decide, by decide⟩, Or.inr rfl, z4_ok⟩
      · split at h
        · injection h with h
          injection h with h2 _
          rw [← h2]
          exact ⟨rfl, ⟨by decide, by decide⟩, Or.inr rfl, z4_ok⟩
        · cases h1 : rd1 l with
          | error e => rw [h1] at h; simp at h
          | ok p =>
            obtain ⟨b, r'⟩ := p
            rw [h1] at h
            injection h with h
            injection h with h2 _
            rw [← h2]
            exact leaf_byte (C4.add_ok z4_ok _)
theorem posts_good : ∀ (l : List UInt8) (t : Rx), t.Good → (posts t l).1.Good
  | [], t, h => h
  | c :: r, t, h => by
    rw [posts]
    split
    · exact posts_good r _ ⟨rfl, ⟨⟨by decide, by decide⟩, Or.inr rfl, z4_ok⟩, h⟩
    · split
      · exact posts_good r _ ⟨rfl, ⟨⟨by decide, by decide⟩, Or.inr rfl, z4_ok⟩, h⟩
      · split
        · exact posts_good r _ ⟨rfl, ⟨⟨by decide, by decide⟩, Or.inr rfl, z4_ok⟩, h⟩
        · exact h
theorem cats_good : ∀ (xs : List Rx), (∀ x ∈ xs, x.Good) → (cats xs).Good
  | [], _ => ⟨rfl, ⟨by decide, by decide⟩, Or.inr rfl, z4_ok⟩
  | [x], h => h x (by simp)
  | x :: y :: r, h => ⟨rfl, ⟨⟨by decide, by decide⟩, Or.inr rfl, z4_ok⟩, h x (by simp), cats_good (y :: r) fun z hz => h z (by simp at hz ⊢; exact Or.inr hz)⟩
theorem ors_good : ∀ (xs : List Rx), (∀ x ∈ xs, x.Good) → (ors xs).Good
  | [], _ => ⟨rfl, ⟨by decide, by decide⟩, Or.inr rfl, z4_ok⟩
  | [x], h => h x (by simp)
  | x :: y :: r, h => ⟨rfl, ⟨⟨by decide, by decide⟩, Or.inr rfl, z4_ok⟩, h x (by simp), ors_good (y :: r) fun z hz => h z (by simp at hz ⊢; exact Or.inr hz)⟩
theorem goods : ∀ (n : Nat) (l : List UInt8), l.length ≤ n → (∀ x l1, Atom l (.ok (x, l1)) → x.Good) ∧ (∀ xs l1, Seq l (.ok (xs, l1)) → ∀ x ∈ xs, x.Good) ∧ (∀ ss l1, Alt l (.ok (ss, l1)) → ∀ x ∈ ss, x.Good)
  | n, l, hn => by
    have hA : ∀ x l1, Atom l (.ok (x, l1)) → x.Good := by
      intro x l1 h
      generalize hr : (Except.ok (x, l1) : Except Nat (Rx × List UInt8)) = r at h
      cases h with
      | bad => cases hr
      | ok _ m l2 h1 h2 =>
        have p := posts_good l2 (.leaf m) (base_good _ _ _ h2)
        injection hr with hr
        rw [← hr] at p
        exact p
      | inBad => cases hr
      | inOpen => cases hr
      | inOk l0 ss l2 h1 =>
        cases n with
        | zero => simp at hn
        | succ n =>
          have g := (goods n l0 (by simp at hn; omega)).2.2 ss _ h1
          have p := posts_good l2 (ors ss) (ors_good ss g)
          injection hr with hr
          rw [← hr] at p
          exact p
    have hS : ∀ xs l1, Seq l (.ok (xs, l1)) → ∀ x ∈ xs, x.Good := by
      intro xs l1 h
      cases h with
      | stop => simp
      | more _ x l2 xs _ h1 h2 h3 =>
        have g := hA x l2 h2
        have hz := (sizes n l hn).1 x l2 h2
        have fp := x.flat_pos
        cases n with
        | zero => omega
        | succ n =>
          have g2 := (goods n l2 (by omega)).2.1 xs l1 h3
          intro y hy
          rcases List.mem_cons.1 hy with rfl | hy
          · exact g
          · exact g2 y hy
    refine ⟨hA, hS, ?_⟩
    intro ss l1 h
    cases h with
    | last _ xs _ h1 h2 =>
      intro y hy
      simp at hy
      rw [hy]
      exact cats_good xs (hS xs l1 h1)
    | more _ xs l2 ss _ h1 h2 =>
      have hz := (sizes n l hn).2.1 xs _ h1
      simp at hz
      cases n with
      | zero => omega
      | succ n =>
        have g2 := (goods n l2 (by omega)).2.2 ss l1 h2
        intro y hy
        rcases List.mem_cons.1 hy with rfl | hy
        · exact cats_good xs (hS xs _ h1)
        · exact g2 y hy
theorem whole_good (l : List UInt8) (t : Rx) (h : Whole l (.ok t)) : t.Good := by
  generalize hr : (Except.ok t : Except Nat Rx) = r at h
  cases h with
  | bad => cases hr
  | more => cases hr
  | ok ss h1 =>
    injection hr with hr
    rw [hr]
    exact ors_good ss ((goods _ l (Nat.le_refl _)).2.2 ss _ h1)
theorem Rx.Good.isOk : ∀ {t : Rx}, t.Good → t.Ok
  | .leaf n, h => h.1
  | .one n a, h => ⟨h.1, Rx.Good.isOk h.2.2⟩
  | .two n a b, h => ⟨h.1, Rx.Good.isOk h.2.2.1, Rx.Good.isOk h.2.2.2⟩
theorem Rx.Good.all : ∀ {t : Rx}, t.Good → ∀ n ∈ t.flat, n.good
  | .leaf n, h, m, hm => by simp [Rx.flat] at hm; rw [hm]; exact h.2
  | .one n a, h, m, hm => by
    simp [Rx.flat] at hm
    rcases hm with rfl | hm
    · exact h.2.1
    · exact Rx.Good.all h.2.2 m hm
  | .two n a b, h, m, hm => by
    simp [Rx.flat] at hm
    rcases hm with rfl | hm | hm
    · exact h.2.1
    · exact Rx.Good.all h.2.2.1 m hm
    · exact Rx.Good.all h.2.2.2 m hm
/-- A good pattern of so many nodes has no fault. -/
theorem good_fault (t : Rx) (h : t.Good) (hl : t.flat.length ≤ 60) : faultL t.flat = 0 := by
  refine (faultL_zero _).2 ⟨hl, fun n hn => ?_, endE_flat t h.isOk⟩
  have := h.all n hn
  exact ⟨this.1, this.2.1.imp id fun e => by rw [e]; exact eqb_self _⟩
/-- And a pattern without a fault is good. -/
theorem fault_good (t : Rx) (ht : t.Ok) (hf : faultL t.flat = 0) (hc : ∀ n ∈ t.flat, n.c.ok) : t.Good := by
  obtain ⟨_, hr, _⟩ := (faultL_zero _).1 hf
  exact good_of t ht fun n hn => ⟨(hr n hn).1, (hr n hn).2.imp id fun e => (C4.eqb_iff _ _).1 e, hc n hn⟩
end Go.Proofs.YtejbififfceamaaGreatDoor
namespace Go.Proofs.YtejbififfceamaaGreatDoor
set_option linter.unusedSimpArgs false
set_option linter.unusedVariables false
set_option maxRecDepth 100000
open Go.RowKit

/-- What is read of a text: the nodes, the place, the fault. -/
inductive PsR (s : ByteArray) : List Nd → Int → Int → Prop
  | full : 200 < s.size → PsR s [] 0 3
  | bad (k : Nat) : s.size ≤ 200 → Whole s.data.toList (.error k) → PsR s [] ((s.size : Int) - (k : Int)) 5
  | many (t : Rx) : s.size ≤ 200 → Whole s.data.toList (.ok t) → 60 < t.flat.length → PsR s [] 0 3
  | ok (t : Rx) : s.size ≤ 200 → Whole s.data.toList (.ok t) → ¬ 60 < t.flat.length → PsR s t.flat 0 0
theorem psR_total (s : ByteArray) : ∃ ms k e, PsR s ms k e := by
  by_cases h : 200 < s.size
  · exact ⟨_, _, _, .full h⟩
  · obtain ⟨r, hr⟩ := whole_total s.data.toList
    cases r with
    | error k => exact ⟨_, _, _, .bad k (by omega) hr⟩
    | ok t =>
      by_cases h6 : 60 < t.flat.length
      · exact ⟨_, _, _, .many t (by omega) hr h6⟩
      · exact ⟨_, _, _, .ok t (by omega) hr h6⟩
end Go.Proofs.YtejbififfceamaaGreatDoor
