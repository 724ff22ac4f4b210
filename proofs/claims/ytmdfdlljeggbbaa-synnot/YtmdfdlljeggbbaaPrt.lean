/- A pattern's text is read as it: plain mathematics. -/
import Derived.Test.YtmdfdlljeggbbaaPrb
set_option linter.unusedSimpArgs false
set_option linter.unusedVariables false
set_option maxRecDepth 100000
namespace Go.Proofs.Ytmdfdlljeggbbaa
open Go.RowKit

/-- A node that may be. -/
def Nd.good (n : Nd) : Prop := (1 ≤ n.op ∧ n.op ≤ 9) ∧ (n.op = 1 ∨ n.c = z4) ∧ n.c.ok
/-- A pattern that may be. -/
def Rx.Good : Rx → Prop
  | .leaf n => prt n.op = 0 ∧ n.good
  | .one n a => prt n.op = 1 ∧ n.good ∧ a.Good
  | .two n a b => prt n.op = 2 ∧ n.good ∧ a.Good ∧ b.Good
def Rx.sides : Rx → List Rx
  | .leaf n => [.leaf n]
  | .one n a => [.one n a]
  | .two n a b => if n.op = 4 then a :: b.sides else [.two n a b]
def Rx.atoms : Rx → List Rx
  | .leaf n => if n.op = 2 then [] else [.leaf n]
  | .one n a => [.one n a]
  | .two n a b => if n.op = 3 then a :: (if b.top.op = 3 then b.atoms else [b]) else [.two n a b]
theorem good_of : ∀ (t : Rx), t.Ok → (∀ n ∈ t.flat, n.good) → t.Good
  | .leaf n, h, hn => ⟨h, hn n (by simp [Rx.flat])⟩
  | .one n a, h, hn => ⟨h.1, hn n (by simp [Rx.flat]), good_of a h.2 fun m hm => hn m (by simp [Rx.flat, hm])⟩
  | .two n a b, h, hn => ⟨h.1, hn n (by simp [Rx.flat]), good_of a h.2.1 fun m hm => hn m (by simp [Rx.flat, hm]), good_of b h.2.2 fun m hm => hn m (by simp [Rx.flat, hm])⟩
theorem nd_eq {n : Nd} (h : n.good) (k : Int) (hk : n.op = k) (h1 : k ≠ 1) : n = ⟨k, z4⟩ := by
  obtain ⟨op, c⟩ := n
  simp only at hk
  subst hk
  rcases h.2.1 with h | h
  · exact absurd h h1
  · simp only at h; rw [h]
theorem two_op {n : Nd} (h : prt n.op = 2) : n.op = 3 ∨ n.op = 4 := (prt_two n.op).1 h
theorem sides_ne (t : Rx) : ∃ x r, t.sides = x :: r := by
  cases t with
  | leaf n => exact ⟨_, _, rfl⟩
  | one n a => exact ⟨_, _, rfl⟩
  | two n a b =>
    unfold Rx.sides
    split
    · exact ⟨_, _, rfl⟩
    · exact ⟨_, _, rfl⟩
theorem ors_sides : ∀ (t : Rx), t.Good → ors t.sides = t
  | .leaf n, _ => rfl
  | .one n a, _ => rfl
  | .two n a b, h => by
    unfold Rx.sides
    split
    · rename_i h4
      have ih := ors_sides b h.2.2.2
      obtain ⟨x, r, e⟩ := sides_ne b
      rw [e] at ih ⊢
      rw [ors, ih, nd_eq h.2.1 4 h4 (by decide)]
    · rfl
theorem atoms_ne (t : Rx) (h : t.top.op = 3) : ∃ x r, t.atoms = x :: r := by
  cases t with
  | leaf n =>
    have h : n.op = 3 := h
    unfold Rx.atoms
    rw [if_neg (by omega)]
    exact ⟨_, _, rfl⟩
  | one n a => exact ⟨_, _, rfl⟩
  | two n a b =>
    unfold Rx.atoms
    split
    · exact ⟨_, _, rfl⟩
    · exact ⟨_, _, rfl⟩
theorem cats_atoms : ∀ (t : Rx), t.Good → cats t.atoms = t
  | .leaf n, h => by
    unfold Rx.atoms
    split
    · rename_i h2
      rw [cats, nd_eq h.2 2 h2 (by decide)]
    · rfl
  | .one n a, _ => rfl
  | .two n a b, h => by
    unfold Rx.atoms
    split
    · rename_i h3
      split
      · rename_i hb
        have ih := cats_atoms b h.2.2.2
        obtain ⟨x, r, e⟩ := atoms_ne b hb
        rw [e] at ih ⊢
        rw [cats, ih, nd_eq h.2.1 3 h3 (by decide)]
      · rw [cats, cats, nd_eq h.2.1 3 h3 (by decide)]
    · rfl
/-- A sign that may not stand where an atom opens. -/
def noHead (c : UInt8) : Prop := c = 42 ∨ c = 43 ∨ c = 63 ∨ c = 124 ∨ c = 41
theorem noHead_sign {c : UInt8} (h : noHead c) : c ∈ signL ∧ c ≠ 92 ∧ c ≠ 46 ∧ c ≠ 91 ∧ c ≠ 40 ∧ c ≠ 94 ∧ c ≠ 36 := by
  rcases h with rfl | rfl | rfl | rfl | rfl <;> decide
theorem textL_head (k : C4) (hk : k.ok) (r : List UInt8) : ∃ c l, textL k ++ r = c :: l ∧ ¬ noHead c ∧ c ≠ 40 := by
  by_cases hd : k.eqb dotC = true
  · exact ⟨46, r, by rw [textL_dot k hd]; rfl, fun h => (noHead_sign h).2.2.1 rfl, by decide⟩
  · have hd2 : k.eqb dotC = false := Bool.eq_false_iff.2 hd
    cases h1 : (k.many 4 == 1)
    · exact ⟨91, runs256 k ++ [93] ++ r, by rw [textL_more k hd2 h1]; rfl, fun h => (noHead_sign h).2.2.2.1 rfl, by decide⟩
    · obtain ⟨b, hb, e1, e2⟩ := single_class hk h1
      rw [textL_one k hd2 h1, e1]
      cases he : bt b ++ r with
      | nil =>
        have : bt b = [] := (List.append_eq_nil_iff.1 he).1
        unfold bt at this
        split at this
        · cases this
        · split at this <;> cases this
      | cons c l =>
        refine ⟨c, l, rfl, fun h => ?_, ?_⟩
        · obtain ⟨h1, h2, _⟩ := noHead_sign h
          exact bt_head b r c h1 h2 (by rw [he]; rfl)
        · rintro rfl
          exact bt_head b r 40 (by decide) (by decide) (by rw [he]; rfl)
theorem brT_true (s r : List UInt8) : brT true s ++ r = 40 :: (s ++ 41 :: r) := by simp [brT]
theorem brT_false (s : List UInt8) : brT false s = s := rfl
/-- Brackets: whether a part has them. -/
theorem brk_unit (p op : Int) (s : Bool) (h2 : op ≠ 2) (h3 : op ≠ 3) (h4 : op ≠ 4) : brk p op s = false := by
  unfold brk
  rw [if_neg h2, if_neg h4, if_neg h3]
theorem brk_post (p op : Int) (hp : p = 5 ∨ p = 6 ∨ p = 7) (h : op = 2 ∨ op = 3 ∨ op = 4) : brk p op false = true := by
  rcases hp with rfl | rfl | rfl <;> rcases h with rfl | rfl | rfl <;> rfl
theorem brk_cat1 (op : Int) (h : op = 2 ∨ op = 3 ∨ op = 4) : brk 3 op false = true := by
  rcases h with rfl | rfl | rfl <;> rfl
theorem unit_cases (t : Rx) : (t.top.op = 2 ∨ t.top.op = 3 ∨ t.top.op = 4) ∨ (t.top.op ≠ 2 ∧ t.top.op ≠ 3 ∧ t.top.op ≠ 4) := by
  by_cases h2 : t.top.op = 2
  · exact Or.inl (Or.inl h2)
  · by_cases h3 : t.top.op = 3
    · exact Or.inl (Or.inr (Or.inl h3))
    · by_cases h4 : t.top.op = 4
      · exact Or.inl (Or.inr (Or.inr h4))
      · exact Or.inr ⟨h2, h3, h4⟩
/-- With what a text opens: a part that stands first, with brackets if it needs them. -/
def HeadOk (s : List UInt8) : Prop := ∀ r, ∃ c l, s ++ r = c :: l ∧ ¬ noHead c
theorem headOk_br (s : List UInt8) : HeadOk (brT true s) := fun r => ⟨40, _, brT_true s r, fun h => (noHead_sign h).2.2.2.2.1 rfl⟩
theorem headOk_app {s : List UInt8} (h : HeadOk s) (q : List UInt8) : HeadOk (s ++ q) := fun r => by rw [List.append_assoc]; exact h (q ++ r)
theorem txt_head : ∀ (t : Rx), t.Good → t.top.op ≠ 2 → t.top.op ≠ 4 → HeadOk t.txt
  | .leaf n, h, h2, h4 => by
    intro r
    have h2 : n.op ≠ 2 := h2
    have h4 : n.op ≠ 4 := h4
    have h0 := h.1
    have hop : n.op = 1 ∨ n.op = 8 ∨ n.op = 9 := by
      have := h.2.1
      have e3 : n.op ≠ 3 := by intro e; rw [e] at h0; simp [prt] at h0
      have e5 : n.op ≠ 5 := by intro e; rw [e] at h0; simp [prt] at h0
      have e6 : n.op ≠ 6 := by intro e; rw [e] at h0; simp [prt] at h0
      have e7 : n.op ≠ 7 := by intro e; rw [e] at h0; simp [prt] at h0
      omega
    unfold Rx.txt
    rcases hop with h1 | h1 | h1
    · rw [if_pos h1]
      obtain ⟨c, l, e, hc, _⟩ := textL_head n.c h.2.2.2 r
      exact ⟨c, l, e, hc⟩
    · rw [if_neg (by omega), if_pos h1]
      exact ⟨94, r, rfl, fun h => (noHead_sign h).2.2.2.2.2.1 rfl⟩
    · rw [if_neg (by omega), if_neg (by omega), if_pos h1]
      exact ⟨36, r, rfl, fun h => (noHead_sign h).2.2.2.2.2.2 rfl⟩
  | .one n a, h, _, _ => by
    unfold Rx.txt
    apply headOk_app
    have hp := (prt_one n.op).1 h.1
    rcases unit_cases a with hu | ⟨u2, u3, u4⟩
    · rw [brk_post _ _ hp hu]; exact headOk_br _
    · rw [brk_unit _ _ _ u2 u3 u4, brT_false]
      exact txt_head a h.2.2 u2 u4
  | .two n a b, h, _, h4 => by
    have h4 : n.op ≠ 4 := h4
    have h3 : n.op = 3 := by rcases two_op h.1 with h | h <;> omega
    unfold Rx.txt
    apply headOk_app
    rw [h3]
    rcases unit_cases a with hu | ⟨u2, u3, u4⟩
    · rw [brk_cat1 _ hu]; exact headOk_br _
    · rw [brk_unit _ _ _ u2 u3 u4, brT_false]
      exact txt_head a h.2.2.1 u2 u4
theorem posts_no (t : Rx) (l : List UInt8) (h : ∀ c, l.head? = some c → noHead c → c = 124 ∨ c = 41) : posts t l = (t, l) := by
  cases l with
  | nil => rfl
  | cons c r =>
    have hc := h c rfl
    have e1 : c ≠ 42 := by rintro rfl; rcases hc (Or.inl rfl) with h | h <;> exact absurd h (by decide)
    have e2 : c ≠ 43 := by rintro rfl; rcases hc (Or.inr (Or.inl rfl)) with h | h <;> exact absurd h (by decide)
    have e3 : c ≠ 63 := by rintro rfl; rcases hc (Or.inr (Or.inr (Or.inl rfl))) with h | h <;> exact absurd h (by decide)
    rw [posts, if_neg e1, if_neg e2, if_neg e3]
theorem posts_stp (t : Rx) (l : List UInt8) (h : stp l = true) : posts t l = (t, l) := by
  apply posts_no
  intro c hc _
  cases l with
  | nil => cases hc
  | cons d r =>
    simp at hc
    subst hc
    simpa [stp] using h
theorem stp_head {s : List UInt8} (h : HeadOk s) (r : List UInt8) : stp (s ++ r) = false := by
  obtain ⟨c, l, e, hc⟩ := h r
  rw [e]
  simp only [stp, Bool.or_eq_false_iff, beq_eq_false_iff_ne]
  exact ⟨fun h => hc (Or.inr (Or.inr (Or.inr (Or.inl h)))), fun h => hc (Or.inr (Or.inr (Or.inr (Or.inr h))))⟩
theorem posts_head {s : List UInt8} (h : HeadOk s) (t : Rx) (r : List UInt8) : posts t (s ++ r) = (t, s ++ r) := by
  apply posts_no
  intro c hc hn
  obtain ⟨d, l, e, hd⟩ := h r
  rw [e] at hc
  simp at hc
  subst hc
  exact absurd hn hd
/-- How a pattern's text is read, wherever it stands. -/
structure Reads (t : Rx) : Prop where
  atom : t.top.op ≠ 2 → t.top.op ≠ 3 → t.top.op ≠ 4 → ∀ r, Atom (t.txt ++ r) (.ok (posts t r))
  seq : t.top.op ≠ 4 → ∀ r, stp r = true → Seq (t.txt ++ r) (.ok (t.atoms, r))
  alt : ∀ r, stp r = true → r.head? ≠ some 124 → Alt (t.txt ++ r) (.ok (t.sides, r))
/-- In brackets it is an atom. -/
theorem Reads.inBr {t : Rx} (h : Reads t) (hg : t.Good) (r : List UInt8) : Atom (brT true t.txt ++ r) (.ok (posts t r)) := by
  rw [brT_true]
  have := Atom.inOk _ _ r (h.alt (41 :: r) (by simp [stp]) (by simp))
  rw [ors_sides t hg] at this
  exact this
theorem Reads.part {t : Rx} (h : Reads t) (hg : t.Good) (p : Int) (s : Bool) (hb : brk p t.top.op s = true ∨ (t.top.op ≠ 2 ∧ t.top.op ≠ 3 ∧ t.top.op ≠ 4)) (r : List UInt8) : Atom (brT (brk p t.top.op s) t.txt ++ r) (.ok (posts t r)) := by
  rcases hb with hb | ⟨h2, h3, h4⟩
  · rw [hb]; exact h.inBr hg r
  · rw [brk_unit _ _ _ h2 h3 h4, brT_false]; exact h.atom h2 h3 h4 r
theorem part_head {t : Rx} (hg : t.Good) (p : Int) (s : Bool) (hb : brk p t.top.op s = true ∨ (t.top.op ≠ 2 ∧ t.top.op ≠ 4)) : HeadOk (brT (brk p t.top.op s) t.txt) := by
  rcases hb with hb | ⟨h2, h4⟩
  · rw [hb]; exact headOk_br _
  · cases hx : brk p t.top.op s
    · rw [brT_false]; exact txt_head t hg h2 h4
    · exact headOk_br _
/-- From an atom alone to sides. -/
theorem reads_unit (t : Rx) (hg : t.Good) (h2 : t.top.op ≠ 2) (h3 : t.top.op ≠ 3) (h4 : t.top.op ≠ 4) (ha : t.atoms = [t]) (hs : t.sides = [t]) (h : ∀ r, Atom (t.txt ++ r) (.ok (posts t r))) : Reads t := by
  have hseq : ∀ r, stp r = true → Seq (t.txt ++ r) (.ok ([t], r)) := by
    intro r hr
    have h1 := h r
    rw [posts_stp t r hr] at h1
    exact Seq.more _ t r [] r (stp_head (txt_head t hg h2 h4) r) h1 (Seq.stop r hr)
  refine ⟨fun _ _ _ => h, fun _ r hr => ?_, fun r hr hr2 => ?_⟩
  · rw [ha]; exact hseq r hr
  · rw [hs]
    have := Alt.last _ _ _ (hseq r hr) hr2
    exact this
theorem reads : ∀ (t : Rx), t.Good → Reads t
  | .leaf n, hg => by
    have h0 := hg.1
    have hop : n.op = 1 ∨ n.op = 2 ∨ n.op = 8 ∨ n.op = 9 := by
      have := hg.2.1
      have e3 : n.op ≠ 3 := by intro e; rw [e] at h0; simp [prt] at h0
      have e4 : n.op ≠ 4 := by intro e; rw [e] at h0; simp [prt] at h0
      have e5 : n.op ≠ 5 := by intro e; rw [e] at h0; simp [prt] at h0
      have e6 : n.op ≠ 6 := by intro e; rw [e] at h0; simp [prt] at h0
      have e7 : n.op ≠ 7 := by intro e; rw [e] at h0; simp [prt] at h0
      omega
    by_cases h2 : n.op = 2
    · have ht : (Rx.leaf n).txt = [] := by
        unfold Rx.txt
        rw [if_neg (by omega), if_neg (by omega), if_neg (by omega)]
      have ha : (Rx.leaf n).atoms = [] := by unfold Rx.atoms; rw [if_pos h2]
      refine ⟨fun h => absurd h2 h, fun _ r hr => ?_, fun r hr hr2 => ?_⟩
      · rw [ht, ha]; exact Seq.stop r hr
      · rw [ht]
        have := Alt.last r [] r (Seq.stop r hr) hr2
        rw [cats, ← nd_eq hg.2 2 h2 (by decide)] at this
        exact this
    · refine reads_unit (.leaf n) hg h2 (by show n.op ≠ 3; omega) (by show n.op ≠ 4; omega) (by unfold Rx.atoms; rw [if_neg h2]) rfl ?_
      intro r
      have hb : base ((Rx.leaf n).txt ++ r) = .ok (n, r) ∧ ((Rx.leaf n).txt ++ r).head? ≠ some 40 := by
        unfold Rx.txt
        rcases hop with h1 | h1 | h1 | h1
        · rw [if_pos h1]
          obtain ⟨c, l, e, _, hc⟩ := textL_head n.c hg.2.2.2 r
          refine ⟨?_, by rw [e]; simpa using hc⟩
          rw [base_text hg.2.2.2]
          obtain ⟨op, c⟩ := n
          simp only at h1
          subst h1
          rfl
        · exact absurd h1 h2
        · rw [if_neg (by omega), if_pos h1]
          rw [nd_eq hg.2 8 h1 (by decide)]
          exact ⟨rfl, by simp⟩
        · rw [if_neg (by omega), if_neg (by omega), if_pos h1]
          rw [nd_eq hg.2 9 h1 (by decide)]
          exact ⟨rfl, by simp⟩
      exact Atom.ok _ n r hb.2 hb.1
  | .one n a, hg => by
    have hp := (prt_one n.op).1 hg.1
    refine reads_unit (.one n a) hg (by show n.op ≠ 2; omega) (by show n.op ≠ 3; omega) (by show n.op ≠ 4; omega) rfl rfl ?_
    intro r
    have ih := reads a hg.2.2
    have hb : brk n.op a.top.op false = true ∨ (a.top.op ≠ 2 ∧ a.top.op ≠ 3 ∧ a.top.op ≠ 4) := by
      rcases unit_cases a with hu | hu
      · exact Or.inl (brk_post _ _ hp hu)
      · exact Or.inr hu
    have := ih.part hg.2.2 n.op false hb (signT n.op :: r)
    have e : (Rx.one n a).txt ++ r = brT (brk n.op a.top.op false) a.txt ++ signT n.op :: r := by simp [Rx.txt]
    rw [e]
    have e2 : posts a (signT n.op :: r) = posts (.one n a) r := by
      rcases hp with h | h | h
      · rw [nd_eq hg.2.1 5 h (by decide)]; rfl
      · rw [nd_eq hg.2.1 6 h (by decide)]; rfl
      · rw [nd_eq hg.2.1 7 h (by decide)]; rfl
    rw [← e2]
    exact this
  | .two n a b, hg => by
    have iha := reads a hg.2.2.1
    have ihb := reads b hg.2.2.2
    by_cases h3 : n.op = 3
    · have h4 : n.op ≠ 4 := by omega
      have hseq : ∀ r, stp r = true → Seq ((Rx.two n a b).txt ++ r) (.ok ((Rx.two n a b).atoms, r)) := by
        intro r hr
        have hba : brk 3 a.top.op false = true ∨ (a.top.op ≠ 2 ∧ a.top.op ≠ 3 ∧ a.top.op ≠ 4) := by
          rcases unit_cases a with hu | hu
          · exact Or.inl (brk_cat1 _ hu)
          · exact Or.inr hu
        have hba2 : brk 3 a.top.op false = true ∨ (a.top.op ≠ 2 ∧ a.top.op ≠ 4) := by
          rcases hba with h | h
          · exact Or.inl h
          · exact Or.inr ⟨h.1, h.2.2⟩
        have hbb : brk 3 b.top.op true = true ∨ (b.top.op ≠ 2 ∧ b.top.op ≠ 4) := by
          rcases unit_cases b with (h | h | h) | h
          · rw [h]; exact Or.inl rfl
          · exact Or.inr ⟨by omega, by omega⟩
          · rw [h]; exact Or.inl rfl
          · exact Or.inr ⟨h.1, h.2.2⟩
        have hhb := part_head hg.2.2.2 3 true hbb
        have e : (Rx.two n a b).txt ++ r = brT (brk 3 a.top.op false) a.txt ++ (brT (brk 3 b.top.op true) b.txt ++ r) := by
          simp [Rx.txt, h3]
        have h1 := iha.part hg.2.2.1 3 false hba (brT (brk 3 b.top.op true) b.txt ++ r)
        rw [posts_head hhb] at h1
        have h2 : Seq (brT (brk 3 b.top.op true) b.txt ++ r) (.ok (if b.top.op = 3 then b.atoms else [b], r)) := by
          by_cases hb3 : b.top.op = 3
          · rw [if_pos hb3, hb3]
            rw [show brk 3 3 true = false from rfl, brT_false]
            exact ihb.seq (by omega) r hr
          · rw [if_neg hb3]
            have hbu : brk 3 b.top.op true = true ∨ (b.top.op ≠ 2 ∧ b.top.op ≠ 3 ∧ b.top.op ≠ 4) := by
              rcases hbb with h | h
              · exact Or.inl h
              · exact Or.inr ⟨h.1, hb3, h.2⟩
            have := ihb.part hg.2.2.2 3 true hbu r
            rw [posts_stp b r hr] at this
            exact Seq.more _ b r [] r (stp_head hhb r) this (Seq.stop r hr)
        rw [e]
        have ea : (Rx.two n a b).atoms = a :: (if b.top.op = 3 then b.atoms else [b]) := by
          unfold Rx.atoms
          rw [if_pos h3]
          cases b <;> rfl
        rw [ea]
        exact Seq.more _ a _ _ r (stp_head (part_head hg.2.2.1 3 false hba2) _) h1 h2
      refine ⟨fun _ h => absurd h3 h, fun _ => hseq, fun r hr hr2 => ?_⟩
      have := Alt.last _ _ _ (hseq r hr) hr2
      rw [cats_atoms _ hg] at this
      have es : (Rx.two n a b).sides = [.two n a b] := by unfold Rx.sides; rw [if_neg h4]
      rw [es]
      exact this
    · have h4 : n.op = 4 := by rcases two_op hg.1 with h | h <;> omega
      refine ⟨fun _ _ h => absurd h4 h, fun h => absurd h4 h, fun r hr hr2 => ?_⟩
      have es : (Rx.two n a b).sides = a :: b.sides := by
        unfold Rx.sides
        rw [if_pos h4]
        cases b <;> rfl
      have hbf : brk 4 b.top.op true = false := by
        rcases unit_cases b with (h | h | h) | h
        · rw [h]; rfl
        · rw [h]; rfl
        · rw [h]; rfl
        · exact brk_unit _ _ _ h.1 h.2.1 h.2.2
      have e : (Rx.two n a b).txt ++ r = brT (brk 4 a.top.op false) a.txt ++ (124 :: (b.txt ++ r)) := by
        simp [Rx.txt, h4, hbf, brT_false]
      have hb := ihb.alt r hr hr2
      rw [e, es]
      by_cases ha4 : a.top.op = 4
      · have hbr : brk 4 a.top.op false = true := by rw [ha4]; rfl
        rw [hbr]
        have h1 := iha.inBr hg.2.2.1 (124 :: (b.txt ++ r))
        rw [posts_stp a _ (by simp [stp])] at h1
        have h2 := Seq.more _ a _ [] _ (stp_head (headOk_br a.txt) _) h1 (Seq.stop (124 :: (b.txt ++ r)) (by simp [stp]))
        exact Alt.more _ [a] _ _ r h2 hb
      · have hbr : brk 4 a.top.op false = false := by
          rcases unit_cases a with (h | h | h) | h
          · rw [h]; rfl
          · rw [h]; rfl
          · exact absurd h ha4
          · exact brk_unit _ _ _ h.1 h.2.1 h.2.2
        rw [hbr, brT_false]
        have h2 := iha.seq ha4 (124 :: (b.txt ++ r)) (by simp [stp])
        have := Alt.more _ _ _ _ r h2 hb
        rw [cats_atoms a hg.2.2.1] at this
        exact this
/-- WHAT IS PRINTED IS READ. -/
theorem read_txt (t : Rx) (hg : t.Good) : Whole t.txt (.ok t) := by
  have := Whole.ok _ _ (by have := (reads t hg).alt [] rfl (by simp); rwa [List.append_nil] at this)
  rw [ors_sides t hg] at this
  exact this
end Go.Proofs.Ytmdfdlljeggbbaa
