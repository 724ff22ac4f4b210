/- A pattern's text is read as it: plain mathematics. The place behind a part, by counting the parts that are missing. No function of the program. Package rex: parts, behind, checkNode, turnedNode. Package rex: Check. -/
import Derived.Test.YtmdfdlljeggbbaaGreatDoorY08
import Derived.Test.YtmdfdlljeggbbaaGreatDoorY03
import Derived.Test.YtmdfdlljeggbbaaGreatDoorY02
import Derived.Handy
namespace Go.Proofs.YtmdfdlljeggbbaaGreatDoor
set_option linter.unusedSimpArgs false
set_option linter.unusedVariables false
set_option maxRecDepth 100000
open Go.RowKit

/-- A node that may be. -/
def Nd.good (n : Nd) : Prop := (1 ≤ n.op ∧ n.op ≤ 9) ∧ (n.op = 1 ∨ n.c = z4) ∧ n.c.ok
/-- A pattern that may be. -/
def Rx.Good : Rx → Prop
  | .leaf n => prt n.op = 0 ∧ n.good
  | .one n a => prt n.op = 1 ∧ n.good ∧ a.Good
  | .two n a b => prt n.op = 2 ∧ n.good ∧ a.Good ∧ b.Good
def Rx.sides : Rx → List Rx
  | .leaf n => [.leaf n]
  | .one n a => [.one n a]
  | .two n a b => if n.op = 4 then a :: b.sides else [.two n a b]
def Rx.atoms : Rx → List Rx
  | .leaf n => if n.op = 2 then [] else [.leaf n]
  | .one n a => [.one n a]
  | .two n a b => if n.op = 3 then a :: (if b.top.op = 3 then b.atoms else [b]) else [.two n a b]
theorem good_of : ∀ (t : Rx), t.Ok → (∀ n ∈ t.flat, n.good) → t.Good
  | .leaf n, h, hn => ⟨h, hn n (by simp [Rx.flat])⟩
  | .one n a, h, hn => ⟨h.1, hn n (by simp [Rx.flat]), good_of a h.2 fun m hm => hn m (by simp [Rx.flat, hm])⟩
  | .two n a b, h, hn => ⟨h.1, hn n (by simp [Rx.flat]), good_of a h.2.1 fun m hm => hn m (by simp [Rx.flat, hm]), good_of b h.2.2 fun m hm => hn m (by simp [Rx.flat, hm])⟩
theorem nd_eq {n : Nd} (h : n.good) (k : Int) (hk : n.op = k) (h1 : k ≠ 1) : n = ⟨k, z4⟩ := by
  obtain ⟨op, c⟩ := n
  simp only at hk
  subst hk
  rcases h.2.1 with h | h
  · exact absurd h h1
  · simp only at h; rw [h]
theorem two_op {n : Nd} (h : prt n.op = 2) : n.op = 3 ∨ n.op = 4 := (prt_two n.op).1 h
theorem sides_ne (t : Rx) : ∃ x r, t.sides = x :: r := by
  cases t with
  | leaf n => exact ⟨_, _, rfl⟩
  | one n a => exact ⟨_, _, rfl⟩
  | two n a b =>
    unfold Rx.sides
    split
    · exact ⟨_, _, rfl⟩
    · exact ⟨_, _, rfl⟩
theorem ors_sides : ∀ (t : Rx), t.Good → ors t.sides = t
  | .leaf n, _ => rfl
  | .one n a, _ => rfl
  | .two n a b, h => by
    unfold Rx.sides
    split
    · rename_i h4
      have ih := ors_sides b h.2.2.2
      obtain ⟨x, r, e⟩ := sides_ne b
      rw [e] at ih ⊢
      rw [ors, ih, nd_eq h.2.1 4 h4 (by decide)]
    · rfl
theorem atoms_ne (t : Rx) (h : t.top.op = 3) : ∃ x r, t.atoms = x :: r := by
  cases t with
  | leaf n =>
    have h : n.op = 3 := h
    unfold Rx.atoms
    rw [if_neg (by omega)]
    exact ⟨_, _, rfl⟩
  | one n a => exact ⟨_, _, rfl⟩
  | two n a b =>
    unfold Rx.atoms
    split
    · exact ⟨_, _, rfl⟩
    · exact ⟨_, _, rfl⟩
theorem cats_atoms : ∀ (t : Rx), t.Good → cats t.atoms = t
  | .leaf n, h => by
    unfold Rx.atoms
    split
    · rename_i h2
      rw [cats, nd_eq h.2 2 h2 (by decide)]
    · rfl
  | .one n a, _ => rfl
  | .two n a b, h => by
    unfold Rx.atoms
    split
    · rename_i h3
      split
      · rename_i hb
        have ih := cats_atoms b h.2.2.2
        obtain ⟨x, r, e⟩ := atoms_ne b hb
        rw [e] at ih ⊢
        rw [cats, ih, nd_eq h.2.1 3 h3 (by decide)]
      · rw [cats, cats, nd_eq h.2.1 3 h3 (by decide)]
    · rfl
/-- A sign that may not stand where an atom opens. -/
def noHead (c : UInt8) : Prop := c = 42 ∨ c = 43 ∨ c = 63 ∨ c = 124 ∨ c = 41
theorem noHead_sign {c : UInt8} (h : noHead c) : c ∈ signL ∧ c ≠ 92 ∧ c ≠ 46 ∧ c ≠ 91 ∧ c ≠ 40 ∧ c ≠ 94 ∧ c ≠ 36 := by
  rcases h with rfl | rfl | rfl | rfl | rfl <;> decide
theorem textL_head (k : C4) (hk : k.ok) (r : List UInt8) : ∃ c l, textL k ++ r = c :: l ∧ ¬ noHead c ∧ c ≠ 40 := by
  by_cases hd : k.eqb dotC = true
  · exact ⟨46, r, by rw [textL_dot k hd]; rfl, fun h => (noHead_sign h).2.2.1 rfl, by decide⟩
  · have hd2 : k.eqb dotC = false := Bool.eq_false_iff.2 hd
    cases h1 : (k.many 4 == 1)
    · exact ⟨91, runs256 k ++ [93] ++ r, by rw [textL_more k hd2 h1]; rfl, fun h => (noHead_sign h).2.2.2.1 rfl, by decide⟩
    · obtain ⟨b, hb, e1, e2⟩ := single_class hk h1
      rw [textL_one k hd2 h1, e1]
      cases he : bt b ++ r with
      | nil =>
        have : bt b = [] := (List.append_eq_nil_iff.1 he).1
        unfold bt at this
        split at this
        · cases this
        · split at this <;> cases this
      | cons c l =>
        refine ⟨c, l, rfl, fun h => ?_, ?_⟩
        · obtain ⟨h1, h2, _⟩ := noHead_sign h
          exact bt_head b r c h1 h2 (by rw [he]; rfl)
        · rintro rfl
          exact bt_head b r 40 (by decide) (by decide) (by rw [he]; rfl)
theorem brT_true (s r : List UInt8) : brT true s ++ r = 40 :: (s ++ 41 :: r) := by simp [brT]
theorem brT_false (s : List UInt8) : brT false s = s := rfl
/-- Brackets: whether a part has them. -/
theorem brk_unit (p op : Int) (s : Bool) (h2 : op ≠ 2) (h3 : op ≠ 3) (h4 : op ≠ 4) : brk p op s = false := by
  unfold brk
  rw [if_neg h2, if_neg h4, if_neg h3]
theorem brk_post (p op : Int) (hp : p = 5 ∨ p = 6 ∨ p = 7) (h : op = 2 ∨ op = 3 ∨ op = 4) : brk p op false = true := by
  rcases hp with rfl | rfl | rfl <;> rcases h with rfl | rfl | rfl <;> rfl
theorem brk_cat1 (op : Int) (h : op = 2 ∨ op = 3 ∨ op = 4) : brk 3 op false = true := by
  rcases h with rfl | rfl | rfl <;> rfl
theorem unit_cases (t : Rx) : (t.top.op = 2 ∨ t.top.op = 3 ∨ t.top.op = 4) ∨ (t.top.op ≠ 2 ∧ t.top.op ≠ 3 ∧ t.top.op ≠ 4) := by
  by_cases h2 : t.top.op = 2
  · exact Or.inl (Or.inl h2)
  · by_cases h3 : t.top.op = 3
    · exact Or.inl (Or.inr (Or.inl h3))
    · by_cases h4 : t.top.op = 4
      · exact Or.inl (Or.inr (Or.inr h4))
      · exact Or.inr ⟨h2, h3, h4⟩
/-- With what a text opens: a part that stands first, with brackets if it needs them. -/
def HeadOk (s : List UInt8) : Prop := ∀ r, ∃ c l, s ++ r = c :: l ∧ ¬ noHead c
theorem headOk_br (s : List UInt8) : HeadOk (brT true s) := fun r => ⟨40, _, brT_true s r, fun h => (noHead_sign h).2.2.2.2.1 rfl⟩
theorem headOk_app {s : List UInt8} (h : HeadOk s) (q : List UInt8) : HeadOk (s ++ q) := fun r => by rw [List.append_assoc]; exact h (q ++ r)
theorem txt_head : ∀ (t : Rx), t.Good → t.top.op ≠ 2 → t.top.op ≠ 4 → HeadOk t.txt
  | .leaf n, h, h2, h4 => by
    intro r
    have h2 : n.op ≠ 2 := h2
    have h4 : n.op ≠ 4 := h4
    have h0 := h.1
    have hop : n.op = 1 ∨ n.op = 8 ∨ n.op = 9 := by
      have := h.2.1
      have e3 : n.op ≠ 3 := by intro e; rw [e] at h0; simp [prt] at h0
      have e5 : n.op ≠ 5 := by intro e; rw [e] at h0; simp [prt] at h0
      have e6 : n.op ≠ 6 := by intro e; rw [e] at h0; simp [prt] at h0
      have e7 : n.op ≠ 7 := by intro e; rw [e] at h0; simp [prt] at h0
      omega
    unfold Rx.txt
    rcases hop with h1 | h1 | h1
    · rw [if_pos h1]
      obtain ⟨c, l, e, hc, _⟩ := textL_head n.c h.2.2.2 r
      exact ⟨c, l, e, hc⟩
    · rw [if_neg (by omega), if_pos h1]
      exact ⟨94, r, rfl, fun h => (noHead_sign h).2.2.2.2.2.1 rfl⟩
    · rw [if_neg (by omega), if_neg (by omega), if_pos h1]
      exact ⟨36, r, rfl, fun h => (noHead_sign h).2.2.2.2.2.2 rfl⟩
  | .one n a, h, _, _ => by
    unfold Rx.txt
    apply headOk_app
    have hp := (prt_one n.op).1 h.1
    rcases unit_cases a with hu | ⟨u2, u3, u4⟩
    · rw [brk_post _ _ hp hu]; exact headOk_br _
    · rw [brk_unit _ _ _ u2 u3 u4, brT_false]
      exact txt_head a h.2.2 u2 u4
  | .two n a b, h, _, h4 => by
    have h4 : n.op ≠ 4 := h4
    have h3 : n.op = 3 := by rcases two_op h.1 with h | h <;> omega
    unfold Rx.txt
    apply headOk_app
    rw [h3]
    rcases unit_cases a with hu | ⟨u2, u3, u4⟩
    · rw [brk_cat1 _ hu]; exact headOk_br _
    · rw [brk_unit _ _ _ u2 u3 u4, brT_false]
      exact txt_head a h.2.2.1 u2 u4
theorem posts_no (t : Rx) (l : List UInt8) (h : ∀ c, l.head? = some c → noHead c → c = 124 ∨ c = 41) : posts t l = (t, l) := by
  cases l with
  | nil => rfl
  | cons c r =>
    have hc := h c rfl
    have e1 : c ≠ 42 := by rintro rfl; rcases hc (Or.inl rfl) with h | h <;> exact absurd h (by decide)
    have e2 : c ≠ 43 := by rintro rfl; rcases hc (Or.inr (Or.inl rfl)) with h | h <;> exact absurd h (by decide)
    have e3 : c ≠ 63 := by rintro rfl; rcases hc (Or.inr (Or.inr (Or.inl rfl))) with h | h <;> exact absurd h (by decide)
    rw [posts, if_neg e1, if_neg e2, if_neg e3]
theorem posts_stp (t : Rx) (l : List UInt8) (h : stp l = true) : posts t l = (t, l) := by
  apply posts_no
  intro c hc _
  cases l with
  | nil => cases hc
  | cons d r =>
    simp at hc
    subst hc
    simpa [stp] using h
theorem stp_head {s : List UInt8} (h : HeadOk s) (r : List UInt8) : stp (s ++ r) = false := by
  obtain ⟨c, l, e, hc⟩ := h r
  rw [e]
  simp only [stp, Bool.or_eq_false_iff, beq_eq_false_iff_ne]
  exact ⟨fun h => hc (Or.inr (Or.inr (Or.inr (Or.inl h)))), fun h => hc (Or.inr (Or.inr (Or.inr (Or.inr h))))⟩
theorem posts_head {s : List UInt8} (h : HeadOk s) (t : Rx) (r : List UInt8) : posts t (s ++ r) = (t, s ++ r) := by
  apply posts_no
  intro c hc hn
  obtain ⟨d, l, e, hd⟩ := h r
  rw [e] at hc
  simp at hc
  subst hc
  exact absurd hn hd
/-- How a pattern's text is read, wherever it stands. -/
structure Reads (t : Rx) : Prop where
  atom : t.top.op ≠ 2 → t.top.op ≠ 3 → t.top.op ≠ 4 → ∀ r, Atom (t.txt ++ r) (.ok (posts t r))
  seq : t.top.op ≠ 4 → ∀ r, stp r = true → Seq (t.txt ++ r) (.ok (t.atoms, r))
  alt : ∀ r, stp r = true → r.head? ≠ some 124 → Alt (t.txt ++ r) (.ok (t.sides, r))
/-- In brackets it is an atom. -/
theorem Reads.inBr {t : Rx} (h : Reads t) (hg : t.Good) (r : List UInt8) : Atom (brT true t.txt ++ r) (.ok (posts t r)) := by
  rw [brT_true]
  have := Atom.inOk _ _ r (h.alt (41 :: r) (by simp [stp]) (by simp))
  rw [ors_sides t hg] at this
  exact this
theorem Reads.part {t : Rx} (h : Reads t) (hg : t.Good) (p : Int) (s : Bool) (hb : brk p t.top.op s = true ∨ (t.top.op ≠ 2 ∧ t.top.op ≠ 3 ∧ t.top.op ≠ 4)) (r : List UInt8) : Atom (brT (brk p t.top.op s) t.txt ++ r) (.ok (posts t r)) := by
  rcases hb with hb | ⟨h2, h3, h4⟩
  · rw [hb]; exact h.inBr hg r
  · rw [brk_unit _ _ _ h2 h3 h4, brT_false]; exact h.atom h2 h3 h4 r
theorem part_head {t : Rx} (hg : t.Good) (p : Int) (s : Bool) (hb : brk p t.top.op s = true ∨ (t.top.op ≠ 2 ∧ t.top.op ≠ 4)) : HeadOk (brT (brk p t.top.op s) t.txt) := by
  rcases hb with hb | ⟨h2, h4⟩
  · rw [hb]; exact headOk_br _
  · cases hx : brk p t.top.op s
    · rw [brT_false]; exact txt_head t hg h2 h4
    · exact headOk_br _
/-- From an atom alone to sides. -/
theorem reads_unit (t : Rx) (hg : t.Good) (h2 : t.top.op ≠ 2) (h3 : t.top.op ≠ 3) (h4 : t.top.op ≠ 4) (ha : t.atoms = [t]) (hs : t.sides = [t]) (h : ∀ r, Atom (t.txt ++ r) (.ok (posts t r))) : Reads t := by
  have hseq : ∀ r, stp r = true → Seq (t.txt ++ r) (.ok ([t], r)) := by
    intro r hr
    have h1 := h r
    rw [posts_stp t r hr] at h1
    exact Seq.more _ t r [] r (stp_head (txt_head t hg h2 h4) r) h1 (Seq.stop r hr)
  refine ⟨fun _ _ _ => h, fun _ r hr => ?_, fun r hr hr2 => ?_⟩
  · rw [ha]; exact hseq r hr
  · rw [hs]
    have := Alt.last _ _ _ (hseq r hr) hr2
    exact this
theorem reads : ∀ (t : Rx), t.Good → Reads t
  | .leaf n, hg => by
    have h0 := hg.1
    have hop : n.op = 1 ∨ n.op = 2 ∨ n.op = 8 ∨ n.op = 9 := by
      have := hg.2.1
      have e3 : n.op ≠ 3 := by intro e; rw [e] at h0; simp [prt] at h0
      have e4 : n.op ≠ 4 := by intro e; rw [e] at h0; simp [prt] at h0
      have e5 : n.op ≠ 5 := by intro e; rw [e] at h0; simp [prt] at h0
      have e6 : n.op ≠ 6 := by intro e; rw [e] at h0; simp [prt] at h0
      have e7 : n.op ≠ 7 := by intro e; rw [e] at h0; simp [prt] at h0
      omega
    by_cases h2 : n.op = 2
    · have ht : (Rx.leaf n).txt = [] := by
        unfold Rx.txt
        rw [if_neg (by omega), if_neg (by omega), if_neg (by omega)]
      have ha : (Rx.leaf n).atoms = [] := by unfold Rx.atoms; rw [if_pos h2]
      refine ⟨fun h => absurd h2 h, fun _ r hr => ?_, fun r hr hr2 => ?_⟩
      · rw [ht, ha]; exact Seq.stop r hr
      · rw [ht]
        have := Alt.last r [] r (Seq.stop r hr) hr2
        rw [cats, ← nd_eq hg.2 2 h2 (by decide)] at this
        exact this
    · refine reads_unit (.leaf n) hg h2 (by show n.op ≠ 3; omega) (by show n.op ≠ 4; omega) (by unfold Rx.atoms; rw [if_neg h2]) rfl ?_
      intro r
      have hb : base ((Rx.leaf n).txt ++ r) = .ok (n, r) ∧ ((Rx.leaf n).txt ++ r).head? ≠ some 40 := by
        unfold Rx.txt
        rcases hop with h1 | h1 | h1 | h1
        · rw [if_pos h1]
          obtain ⟨c, l, e, _, hc⟩ := textL_head n.c hg.2.2.2 r
          refine ⟨?_, by rw [e]; simpa using hc⟩
          rw [base_text hg.2.2.2]
          obtain ⟨op, c⟩ := n
          simp only at h1
          subst h1
          rfl
        · exact absurd h1 h2
        · rw [if_neg (by omega), if_pos h1]
          rw [nd_eq hg.2 8 h1 (by decide)]
          exact ⟨rfl, by simp⟩
        · rw [if_neg (by omega), if_neg (by omega), if_pos h1]
          rw [nd_eq hg.2 9 h1 (by decide)]
          exact ⟨rfl, by simp⟩
      exact Atom.ok _ n r hb.2 hb.1
  | .one n a, hg => by
    have hp := (prt_one n.op).1 hg.1
    refine reads_unit (.one n a) hg (by show n.op ≠ 2; omega) (by show n.op ≠ 3; omega) (by show n.op ≠ 4; omega) rfl rfl ?_
    intro r
    have ih := reads a hg.2.2
    have hb : brk n.op a.top.op false = true ∨ (a.top.op ≠ 2 ∧ a.top.op ≠ 3 ∧ a.top.op ≠ 4) := by
      rcases unit_cases a with hu | hu
      · exact Or.inl (brk_post _ _ hp hu)
      · exact Or.inr hu
    have := ih.part hg.2.2 n.op false hb (signT n.op :: r)
    have e : (Rx.one n a).txt ++ r = brT (brk n.op a.top.op false) a.txt ++ signT n.op :: r := by simp [Rx.txt]
    rw [e]
    have e2 : posts a (signT n.op :: r) = posts (.one n a) r := by
      rcases hp with h | h | h
      · rw [nd_eq hg.2.1 5 h (by decide)]; rfl
      · rw [nd_eq hg.2.1 6 h (by decide)]; rfl
      · rw [nd_eq hg.2.1 7 h (by decide)]; rfl
    rw [← e2]
    exact this
  | .two n a b, hg => by
    have iha := reads a hg.2.2.1
    have ihb := reads b hg.2.2.2
    by_cases h3 : n.op = 3
    · have h4 : n.op ≠ 4 := by omega
      have hseq : ∀ r, stp r = true → Seq ((Rx.two n a b).txt ++ r) (.ok ((Rx.two n a b).atoms, r)) := by
        intro r hr
        have hba : brk 3 a.top.op false = true ∨ (a.top.op ≠ 2 ∧ a.top.op ≠ 3 ∧ a.top.op ≠ 4) := by
          rcases unit_cases a with hu | hu
          · exact Or.inl (brk_cat1 _ hu)
          · exact Or.inr hu
        have hba2 : brk 3 a.top.op false = true ∨ (a.top.op ≠ 2 ∧ a.top.op ≠ 4) := by
          rcases hba with h | h
          · exact Or.inl h
          · exact Or.inr ⟨h.1, h.2.2⟩
        have hbb : brk 3 b.top.op true = true ∨ (b.top.op ≠ 2 ∧ b.top.op ≠ 4) := by
          rcases unit_cases b with (h | h | h) | h
          · rw [h]; exact Or.inl rfl
          · exact Or.inr ⟨by omega, by omega⟩
          · rw [h]; exact Or.inl rfl
          · exact Or.inr ⟨h.1, h.2.2⟩
        have hhb := part_head hg.2.2.2 3 true hbb
        have e : (Rx.two n a b).txt ++ r = brT (brk 3 a.top.op false) a.txt ++ (brT (brk 3 b.top.op true) b.txt ++ r) := by
          simp [Rx.txt, h3]
        have h1 := iha.part hg.2.2.1 3 false hba (brT (brk 3 b.top.op true) b.txt ++ r)
        rw [posts_head hhb] at h1
        have h2 : Seq (brT (brk 3 b.top.op true) b.txt ++ r) (.ok (if b.top.op = 3 then b.atoms else [b], r)) := by
          by_cases hb3 : b.top.op = 3
          · rw [if_pos hb3, hb3]
            rw [show brk 3 3 true = false from rfl, brT_false]
            exact ihb.seq (by omega) r hr
          · rw [if_neg hb3]
            have hbu : brk 3 b.top.op true = true ∨ (b.top.op ≠ 2 ∧ b.top.op ≠ 3 ∧ b.top.op ≠ 4) := by
              rcases hbb with h | h
              · exact Or.inl h
              · exact Or.inr ⟨h.1, hb3, h.2⟩
            have := ihb.part hg.2.2.2 3 true hbu r
            rw [posts_stp b r hr] at this
            exact Seq.more _ b r [] r (stp_head hhb r) this (Seq.stop r hr)
        rw [e]
        have ea : (Rx.two n a b).atoms = a :: (if b.top.op = 3 then b.atoms else [b]) := by
          unfold Rx.atoms
          rw [if_pos h3]
          cases b <;> rfl
        rw [ea]
        exact Seq.more _ a _ _ r (stp_head (part_head hg.2.2.1 3 false hba2) _) h1 h2
      refine ⟨fun _ h => absurd h3 h, fun _ => hseq, fun r hr hr2 => ?_⟩
      have := Alt.last _ _ _ (hseq r hr) hr2
      rw [cats_atoms _ hg] at this
      have es : (Rx.two n a b).sides = [.two n a b] := by unfold Rx.sides; rw [if_neg h4]
      rw [es]
      exact this
    · have h4 : n.op = 4 := by rcases two_op hg.1 with h | h <;> omega
      refine ⟨fun _ _ h => absurd h4 h, fun h => absurd h4 h, fun r hr hr2 => ?_⟩
      have es : (Rx.two n a b).sides = a :: b.sides := by
        unfold Rx.sides
        rw [if_pos h4]
        cases b <;> rfl
      have hbf : brk 4 b.top.op true = false := by
        rcases unit_cases b with (h | h | h) | h
        · rw [h]; rfl
        · rw [h]; rfl
        · rw [h]; rfl
        · exact brk_unit _ _ _ h.1 h.2.1 h.2.2
      have e : (Rx.two n a b).txt ++ r = brT (brk 4 a.top.op false) a.txt ++ (124 :: (b.txt ++ r)) := by
        simp [Rx.txt, h4, hbf, brT_false]
      have hb := ihb.alt r hr hr2
      rw [e, es]
      by_cases ha4 : a.top.op = 4
      · have hbr : brk 4 a.top.op false = true := by rw [ha4]; rfl
        rw [hbr]
        have h1 := iha.inBr hg.2.2.1 (124 :: (b.txt ++ r))
        rw [posts_stp a _ (by simp [stp])] at h1
        have h2 := Seq.more _ a _ [] _ (stp_head (headOk_br a.txt) _) h1 (Seq.stop (124 :: (b.txt ++ r)) (by simp [stp]))
        exact Alt.more _ [a] _ _ r h2 hb
      · have hbr : brk 4 a.top.op false = false := by
          rcases unit_cases a with (h | h | h) | h
          · rw [h]; rfl
          · rw [h]; rfl
          · exact absurd h ha4
          · exact brk_unit _ _ _ h.1 h.2.1 h.2.2
        rw [hbr, brT_false]
        have h2 := iha.seq ha4 (124 :: (b.txt ++ r)) (by simp [stp])
        have := Alt.more _ _ _ _ r h2 hb
        rw [cats_atoms a hg.2.2.1] at this
        exact this
/-- WHAT IS PRINTED IS READ. -/
theorem read_txt (t : Rx) (hg : t.Good) : Whole t.txt (.ok t) := by
  have := Whole.ok _ _ (by have := (reads t hg).alt [] rfl (by simp); rwa [List.append_nil] at this)
  rw [ors_sides t hg] at this
  exact this
end Go.Proofs.YtmdfdlljeggbbaaGreatDoor
namespace Go.Proofs.YtmdfdlljeggbbaaGreatDoor
set_option linter.unusedSimpArgs false
set_option linter.unusedVariables false
set_option maxRecDepth 100000
open Go.RowKit

/-- So many parts are missing: how many nodes they are, and whether all are there. -/
def beh : List Nd → Nat → Nat × Bool
  | _, 0 => (0, true)
  | [], _ + 1 => (0, false)
  | n :: r, m + 1 => ((beh r (m + prt n.op)).1 + 1, (beh r (m + prt n.op)).2)
theorem beh_zero (l : List Nd) : beh l 0 = (0, true) := by cases l <;> rfl
theorem beh_flat : ∀ (t : Rx), t.Ok → ∀ (q : List Nd) (m : Nat), beh (t.flat ++ q) (m + 1) = ((beh q m).1 + t.flat.length, (beh q m).2)
  | .leaf n, h, q, m => by
    have h0 : prt n.op = 0 := h
    simp [Rx.flat, beh, h0]
  | .one n a, h, q, m => by
    have ih := beh_flat a h.2 q m
    simp [Rx.flat, beh, h.1, ih]; omega
  | .two n a b, h, q, m => by
    have ih := beh_flat a h.2.1 (b.flat ++ q) (m + 1)
    have ih2 := beh_flat b h.2.2 q m
    rw [ih2] at ih
    simp only [Rx.flat, List.cons_append, List.append_assoc, beh, h.1, ih, List.length_cons, List.length_append]
    refine Prod.ext ?_ rfl
    simp only
    omega
theorem beh_le : ∀ (l : List Nd) (m : Nat), (beh l m).1 ≤ l.length
  | l, 0 => by rw [beh_zero]; simp
  | [], m + 1 => by simp [beh]
  | n :: r, m + 1 => by
    have := beh_le r (m + prt n.op)
    simp [beh]; omega
theorem beh_trees : ∀ (l : List Nd) (m : Nat), (beh l m).2 = true → ∃ (ts : List Rx) (q : List Nd), ts.length = m ∧ (∀ t ∈ ts, t.Ok) ∧ l = (ts.map Rx.flat).flatten ++ q ∧ (beh l m).1 = (ts.map Rx.flat).flatten.length
  | l, 0, h => ⟨[], l, rfl, by simp, by simp, by rw [beh_zero]; rfl⟩
  | [], m + 1, h => by simp [beh] at h
  | n :: r, m + 1, h => by
    simp only [beh] at h
    obtain ⟨ts, q, hl, hok, he, hk⟩ := beh_trees r (m + prt n.op) h
    have hp := prt_le n.op
    have h3 : prt n.op = 0 ∨ prt n.op = 1 ∨ prt n.op = 2 := by omega
    rcases h3 with h0 | h0 | h0
    · refine ⟨.leaf n :: ts, q, by simp; omega, ?_, by simp [he, Rx.flat], by simp [beh, hk, Rx.flat]⟩
      intro t ht
      rcases List.mem_cons.1 ht with rfl | ht
      · exact h0
      · exact hok t ht
    · match ts, hl, hok, he, hk with
      | [], hl, _, _, _ => simp at hl; omega
      | a :: ts, hl, hok, he, hk =>
        refine ⟨.one n a :: ts, q, by simp at hl ⊢; omega, ?_, by simp [he, Rx.flat], by simp [beh, hk, Rx.flat]⟩
        intro t ht
        rcases List.mem_cons.1 ht with rfl | ht
        · exact ⟨h0, hok a (by simp)⟩
        · exact hok t (by simp [ht])
    · match ts, hl, hok, he, hk with
      | [], hl, _, _, _ => simp at hl; omega
      | [a], hl, _, _, _ => simp at hl; omega
      | a :: b :: ts, hl, hok, he, hk =>
        refine ⟨.two n a b :: ts, q, by simp at hl ⊢; omega, ?_, by simp [he, Rx.flat], by simp [beh, hk, Rx.flat]⟩
        intro t ht
        rcases List.mem_cons.1 ht with rfl | ht
        · exact ⟨h0, hok a (by simp), hok b (by simp)⟩
        · exact hok t (by simp [ht])
theorem beh_end (ns : List Nd) (h : (beh ns 1).2 = true) : endE ns 0 = some (beh ns 1).1 := by
  obtain ⟨ts, q, hl, hok, he, hk⟩ := beh_trees ns 1 h
  match ts, hl, hok, he, hk with
  | [t], hl, hok, he, hk =>
    have e : ns = t.flat ++ q := by simpa using he
    have e2 : (beh ns 1).1 = t.flat.length := by simpa using hk
    have := endE_mid t (hok t (by simp)) [] q
    rw [e2, e]
    simpa using this
theorem end_beh (ns : List Nd) (f i j : Nat) (h : endF ns f i = some j) : (beh (ns.drop i) 1).2 = true ∧ i + (beh (ns.drop i) 1).1 = j := by
  obtain ⟨t, ht, q, e, ej⟩ := part_tree ns f i j h
  have := beh_flat t ht q 0
  rw [e, this, beh_zero]
  refine ⟨rfl, ?_⟩
  simp only
  omega
/-- The fault of nodes that are fine one by one. -/
theorem fault_beh (ns : List Nd) (h60 : ¬ 60 < ns.length) (h0 : scanL ns = 0) : faultL ns = if (beh ns 1).2 = true ∧ ns.length ≤ (beh ns 1).1 then 0 else 2 := by
  rw [faultL, if_neg h60, h0, if_neg (by simp)]
  by_cases h : (beh ns 1).2 = true ∧ ns.length ≤ (beh ns 1).1
  · have e := beh_end ns h.1
    have hl := beh_le ns 1
    have e2 : (beh ns 1).1 = ns.length := by omega
    rw [e2] at e
    have hne : ns ≠ [] := by rintro rfl; rw [endE_nil] at e; cases e
    rw [if_pos h, if_neg (by simp [e, hne])]
  · rw [if_neg h, if_pos]
    refine Or.inr fun e => h ?_
    have := end_beh ns _ 0 _ e
    rw [List.drop_zero] at this
    exact ⟨this.1, by omega⟩
/-- Each node of a valid pattern begins a part. -/
theorem tree_sub : ∀ (t : Rx), t.Ok → ∀ i, i < t.flat.length → ∃ s : Rx, s.Ok ∧ ∃ q, t.flat.drop i = s.flat ++ q
  | t, ht, 0, _ => ⟨t, ht, [], by simp⟩
  | .leaf n, ht, i + 1, h => by simp [Rx.flat] at h
  | .one n a, ht, i + 1, h => by
    obtain ⟨s, hs, q, e⟩ := tree_sub a ht.2 i (by simp [Rx.flat] at h; omega)
    exact ⟨s, hs, q, by simpa [Rx.flat] using e⟩
  | .two n a b, ht, i + 1, h => by
    by_cases hi : i < a.flat.length
    · obtain ⟨s, hs, q, e⟩ := tree_sub a ht.2.1 i hi
      refine ⟨s, hs, q ++ b.flat, ?_⟩
      simp only [Rx.flat, List.drop_succ_cons]
      rw [List.drop_append_of_le_length (by omega), e, List.append_assoc]
    · obtain ⟨s, hs, q, e⟩ := tree_sub b ht.2.2 (i - a.flat.length) (by simp [Rx.flat] at h; omega)
      refine ⟨s, hs, q, ?_⟩
      simp only [Rx.flat, List.drop_succ_cons]
      rw [List.drop_append, List.drop_eq_nil_of_le (by omega), List.nil_append, e]
theorem part_at (ns : List Nd) (hv : endE ns 0 = some ns.length) (i : Nat) (hi : i < ns.length) : ∃ j, endE ns i = some j := by
  obtain ⟨t, ht, rfl⟩ := tree_of ns hv
  obtain ⟨s, hs, q, e⟩ := tree_sub t ht i hi
  have h := endE_mid s hs (t.flat.take i) q
  have e1 : (t.flat.take i).length = i := by simp; omega
  have e2 : t.flat.take i ++ s.flat ++ q = t.flat := by rw [List.append_assoc, ← e, List.take_append_drop]
  rw [e1, e2] at h
  exact ⟨_, h⟩
theorem beh_step (ns : List Nd) (i m : Nat) (n : Nd) (hn : ns[i]? = some n) : beh (ns.drop i) (m + 1) = ((beh (ns.drop (i + 1)) (m + prt n.op)).1 + 1, (beh (ns.drop (i + 1)) (m + prt n.op)).2) := by
  have hi : i < ns.length := by
    rcases Nat.lt_or_ge i ns.length with h | h
    · exact h
    · rw [List.getElem?_eq_none h] at hn; cases hn
  rw [List.drop_eq_getElem_cons hi]
  rw [List.getElem?_eq_getElem hi] at hn
  rw [Option.some.inj hn, beh]
end Go.Proofs.YtmdfdlljeggbbaaGreatDoor
namespace Go.Proofs.YtmdfdlljeggbbaaGreatDoor
set_option linter.unusedSimpArgs false
set_option linter.unusedVariables false
set_option maxRecDepth 100000
open Go.RowKit

set_option maxHeartbeats 400000 in
theorem rparts_any (op : Int) (w : World) :
    Calls Tryz.prog 43 #[.int .i64 op] w fun e w' => e = .returned (.int .i64 (prt op)) ∧ w' = w := by
  by_cases h3 : op = 3
  · subst h3
    go_enter Tryz.func43, Tryz.ntmps43
    go_wp2
    go_ret
    exact ⟨rfl, rfl⟩
  by_cases h4 : op = 4
  · subst h4
    go_enter Tryz.func43, Tryz.ntmps43
    go_wp2
    go_ret
    exact ⟨rfl, rfl⟩
  by_cases h5 : op = 5
  · subst h5
    go_enter Tryz.func43, Tryz.ntmps43
    go_wp2
    go_ret
    exact ⟨rfl, rfl⟩
  by_cases h6 : op = 6
  · subst h6
    go_enter Tryz.func43, Tryz.ntmps43
    go_wp2
    go_ret
    exact ⟨rfl, rfl⟩
  by_cases h7 : op = 7
  · subst h7
    go_enter Tryz.func43, Tryz.ntmps43
    go_wp2
    go_ret
    exact ⟨rfl, rfl⟩
  have b3 : (op == 3) = false := by simp [h3]
  have b4 : (op == 4) = false := by simp [h4]
  have b5 : (op == 5) = false := by simp [h5]
  have b6 : (op == 6) = false := by simp [h6]
  have b7 : (op == 7) = false := by simp [h7]
  have e0 : prt op = 0 := by unfold prt; simp [h3, h4, h5, h6, h7]
  rw [e0]
  clear h3 h4 h5 h6 h7 e0
  go_enter Tryz.func43, Tryz.ntmps43
  go_wp2
  go_ret
  exact ⟨rfl, rfl⟩
set_option maxHeartbeats 1000000 in
theorem behind_at (ns : List Nd) (b off cap i : Nat) (hm : ns.length ≤ maxLen) (hm2 : ns.length ≤ 2 ^ 62) (hi : i ≤ ns.length) (w : World) (hN : NsAt w b off ns) :
    Calls Tryz.prog 28 #[.slice (some ⟨b, off, none⟩) ns.length cap, .int .i64 i] w fun e w' => e = .returned (.tuple #[.int .i64 (i + (beh (ns.drop i) 1).1 : Nat), .bool (beh (ns.drop i) 1).2]) ∧ w' = w := by
  unfold maxLen at hm
  obtain ⟨k, x, HK, HX⟩ : ∃ k x, Hid (i + (beh (ns.drop i) 1).1 = k) ∧ Hid ((beh (ns.drop i) 1).2 = x) := ⟨_, _, Eq.refl _, Eq.refl _⟩
  rw [HK.out, HX.out]
  go_enter Tryz.func28, Tryz.ntmps28
  go_wp2_with fail
  go_loop [1, 6] (fun v u => ∃ (j m : Nat), j ≤ ns.length ∧ m ≤ j + 1 ∧ v = .int .i64 j ∧ u = .int .i64 m ∧ Hid (j + (beh (ns.drop j) m).1 = k) ∧ Hid ((beh (ns.drop j) m).2 = x)) (fun v _ => ns.length - (intOf v).toNat)
  case atStart => exact ⟨i, 1, by omega, by omega, rfl, rfl, HK, HX⟩
  case round =>
    obtain ⟨j, m, hj, hmj, rfl, rfl, H1, H2⟩ := hrel
    clear HK HX
    cases m with
    | zero =>
      rw [beh_zero] at H1 H2
      obtain rfl := H1.out
      obtain rfl := H2.out
      clear H1 H2
      go_wp2
      go_ret2
      exact ⟨rfl, rfl⟩
    | succ m =>
      have m0 : (0 : Int) < ((m + 1 : Nat) : Int) := by omega
      by_cases hl : j < ns.length
      · obtain ⟨n, hn⟩ : ∃ n, ns[j]? = some n := ⟨ns[j], List.getElem?_eq_getElem hl⟩
        obtain ⟨c0, _⟩ := hN j n hn
        have hp := prt_le n.op
        have i0 : (0 : Int) ≤ (j : Int) := by omega
        have i1 : (j : Int) < (ns.length : Int) := by omega
        rw [beh_step ns j m n hn] at H1 H2
        have H3 : Hid (j + 1 + (beh (ns.drop (j + 1)) (m + prt n.op)).1 = k) := by show _ = _; rw [← H1.out]; simp only; omega
        have H4 : Hid ((beh (ns.drop (j + 1)) (m + prt n.op)).2 = x) := H2.out
        clear hn H1 H2
        go_wp2_with fail
        refine (rparts_any _ _).mono ?_
        rintro e w1 ⟨rfl, rfl⟩
        generalize prt n.op = pr at *
        go_wp2
        refine ⟨⟨j + 1, m + pr, by omega, by omega, by go_num, ?_, H3, H4⟩, by simp [intOf]; omega⟩
        rw [show (m : Int) + 1 + ((pr : Int) - 1) = ((m + pr : Nat) : Int) from by omega]
      · have hj2 : j = ns.length := by omega
        have i1 : ¬ (j : Int) < (ns.length : Int) := by omega
        have d0 : ns.drop j = [] := List.drop_eq_nil_of_le (by omega)
        rw [d0] at H1 H2
        obtain rfl := H1.out
        obtain rfl := H2.out
        have m1 : (((m + 1 : Nat) : Int) == 0) = false := by rw [beq_eq_false_iff_ne]; omega
        clear H1 H2
        go_wp2
        go_ret2
        exact ⟨rfl, rfl⟩
theorem behind_any (ns : List Nd) (v : Value) (i : Nat) (w : World) (hN : NsIn w v ns) (hm2 : ns.length ≤ 2 ^ 62) (hi : i < ns.length) :
    Calls Tryz.prog 28 #[v, .int .i64 i] w fun e w' => e = .returned (.tuple #[.int .i64 (i + (beh (ns.drop i) 1).1 : Nat), .bool (beh (ns.drop i) 1).2]) ∧ w' = w := by
  obtain ⟨a, cap, rfl, hm, h | ⟨b, off, rfl, hlt, hn⟩⟩ := hN
  · subst h
    simp at hi
  · exact behind_at ns b off cap i hm hm2 (by omega) w hn
set_option maxHeartbeats 1000000 in
theorem behind_nil (a : Option Addr) (cap : Nat) (w : World) :
    Calls Tryz.prog 28 #[.slice a 0 cap, .int .i64 0] w fun e w' => e = .returned (.tuple #[.int .i64 0, .bool false]) ∧ w' = w := by
  go_enter Tryz.func28, Tryz.ntmps28
  go_wp2_with fail
  go_loop [1, 6] (fun v u => v = .int .i64 0 ∧ u = .int .i64 1) (fun _ _ => 0)
  case atStart => exact ⟨rfl, rfl⟩
  case round =>
    obtain ⟨rfl, rfl⟩ := hrel
    go_wp2
    go_ret2
    exact ⟨rfl, rfl⟩
set_option maxHeartbeats 1000000 in
theorem checkNode_any (n : Nd) (w : World) :
    Calls Tryz.prog 27 #[n.v] w fun e w' => e = .returned (errV (scanL [n])) ∧ Below w.heap.size w w' := by
  by_cases h1 : n.op < 1
  · have HF : Hid (scanL [n] = 1) := by show _ = _; rw [scanL, if_pos (Or.inl h1)]
    go_enter Tryz.func27, Tryz.ntmps27
    go_wp2
    go_ret
    exact ⟨by rw [HF.out]; rfl, Below.alloc (Below.refl _ _) (Nat.le_refl _) _⟩
  by_cases h9 : 9 < n.op
  · have HF : Hid (scanL [n] = 1) := by show _ = _; rw [scanL, if_pos (Or.inr h9)]
    go_enter Tryz.func27, Tryz.ntmps27
    go_wp2
    go_ret
    exact ⟨by rw [HF.out]; rfl, Below.alloc (Below.refl _ _) (Nat.le_refl _) _⟩
  by_cases hb : n.op = 1
  · have HF : Hid (scanL [n] = 0) := by show _ = _; rw [scanL, if_neg (by omega), if_neg (by simp [hb])]; rfl
    have hb2 : (n.op != 1) = false := by simp [hb]
    clear hb
    go_enter Tryz.func27, Tryz.ntmps27
    go_wp2
    go_ret
    exact ⟨by rw [HF.out]; rfl, Below.alloc (Below.refl _ _) (Nat.le_refl _) _⟩
  have hb2 : (n.op != 1) = true := by simp [hb]
  by_cases hz : n.c.eqb z4 = true
  · have HF : Hid (scanL [n] = 0) := by show _ = _; rw [scanL, if_neg (by omega), if_neg (by simp [hz])]; rfl
    clear hb
    have he : ∀ w, (Op.equalIn 10000 39 (.agg #[.int .u64 n.c.a, .int .u64 n.c.b, .int .u64 n.c.c, .int .u64 n.c.d]) (.agg #[.int .u64 0, .int .u64 0, .int .u64 0, .int .u64 0])).run Tryz.prog w = .ok true w := fun w => (eq4 n.c z4 w).trans (by rw [hz])
    go_enter Tryz.func27, Tryz.ntmps27
    go_wp2
    go_ret
    exact ⟨by rw [HF.out]; rfl, Below.alloc (Below.refl _ _) (Nat.le_refl _) _⟩
  · have HF : Hid (scanL [n] = 2) := by show _ = _; rw [scanL, if_neg (by omega), if_pos ⟨hb, hz⟩]
    clear hb
    have he : ∀ w, (Op.equalIn 10000 39 (.agg #[.int .u64 n.c.a, .int .u64 n.c.b, .int .u64 n.c.c, .int .u64 n.c.d]) (.agg #[.int .u64 0, .int .u64 0, .int .u64 0, .int .u64 0])).run Tryz.prog w = .ok false w := fun w => (eq4 n.c z4 w).trans (by rw [Bool.eq_false_iff.2 hz])
    go_enter Tryz.func27, Tryz.ntmps27
    go_wp2
    go_ret
    exact ⟨by rw [HF.out]; rfl, Below.alloc (Below.refl _ _) (Nat.le_refl _) _⟩
end Go.Proofs.YtmdfdlljeggbbaaGreatDoor
namespace Go.Proofs.YtmdfdlljeggbbaaGreatDoor
set_option linter.unusedSimpArgs false
set_option linter.unusedVariables false
set_option maxRecDepth 100000
open Go.RowKit

theorem scan_one (n : Nd) : scanL [n] = if n.op < 1 ∨ 9 < n.op then 1 else if ¬ n.op = 1 ∧ ¬ n.c.eqb z4 = true then 2 else 0 := by
  rw [scanL]; rfl
set_option maxHeartbeats 4000000 in
theorem check_at (ns : List Nd) (b off cap : Nat) (hm : ns.length ≤ maxLen) (w : World) (hlt : b < w.heap.size) (hN : NsAt w b off ns) (h0 : 0 < ns.length) :
    Calls Tryz.prog 15 #[.slice (some ⟨b, off, none⟩) ns.length cap] w fun e w' => e = .returned (errV (faultL ns)) ∧ Below w.heap.size w w' := by
  have HM := (show Hid _ from hm)
  unfold maxLen at hm
  by_cases h60 : 60 < ns.length
  · have g60 : (60 : Int) < (ns.length : Int) := by omega
    have HF : Hid (faultL ns = 3) := by show _ = _; rw [faultL, if_pos h60]
    go_enter Tryz.func15, Tryz.ntmps15
    go_wp2
    go_ret
    exact ⟨by rw [HF.out]; rfl, Below.refl _ _⟩
  · have g60 : ¬ (60 : Int) < (ns.length : Int) := by omega
    go_enter Tryz.func15, Tryz.ntmps15
    go_wp2
    go_loopw [14] (fun v wr => ∃ i : Nat, i ≤ ns.length ∧ v = .int .i64 i ∧ Hid (scanL ns = scanL (ns.drop i)) ∧ Below w.heap.size w wr) (fun v _ => ns.length - (intOf v).toNat)
    case atStart => exact ⟨0, by omega, rfl, Eq.refl _, Below.refl _ _⟩
    case round =>
      obtain ⟨i, hi, rfl, HS, hB⟩ := hrel
      have hNr := hN.below hB hlt
      by_cases hil : i < ns.length
      · obtain ⟨n, hn⟩ : ∃ n, ns[i]? = some n := ⟨ns[i], List.getElem?_eq_getElem hil⟩
        obtain ⟨c0, c1, c2, c3, c4⟩ := hNr i n hn
        have HD : Hid _ := scan_drop ns i n hn
        have H1 : Hid _ := scan_one n
        have i0 : (0 : Int) ≤ (i : Int) := by omega
        have i1 : (i : Int) < (ns.length : Int) := by omega
        clear hn
        have hcn := checkNode_any n
        go_wp2_with fail
        refine (hcn _).mono ?_
        rintro e w1 ⟨rfl, hb1⟩
        have hB1 : Below w.heap.size w w1 := hB.trans ((Below.alloc (Below.refl _ _) (Nat.le_refl _) _).trans (hb1.mono (by simp)) |>.mono hB.size)
        clear hb1 hcn
        by_cases hs : scanL [n] = 0
        · have HS2 : Hid (scanL ns = scanL (ns.drop (i + 1))) := by
            show _ = _
            rw [HS.out, HD.out]
            rw [H1.out] at hs
            split
            · rename_i h; rw [if_pos h] at hs; cases hs
            · rename_i h
              rw [if_neg h] at hs
              split
              · rename_i h2; rw [if_pos h2] at hs; cases hs
              · rfl
          rw [hs, show errV 0 = .nilIface from rfl]
          clear hs HD H1 HS
          go_wp2
          exact ⟨⟨i + 1, by omega, by go_num, HS2, hB1⟩, by simp [intOf]; omega⟩
        · have HF : Hid (faultL ns = scanL [n]) := by
            show _ = _
            have e1 : scanL ns = scanL [n] := by
              rw [HS.out, HD.out]
              rw [H1.out] at hs ⊢
              split
              · rfl
              · rename_i h
                rw [if_neg h] at hs
                split
                · rfl
                · rename_i h2; rw [if_neg h2] at hs; exact absurd rfl hs
            rw [faultL, if_neg h60, e1, if_pos hs]
          rw [show errV (scanL [n]) = .iface 23 (.int .i64 (scanL [n])) from if_neg hs]
          have HE : Hid (errV (faultL ns) = .iface 23 (.int .i64 (scanL [n]))) := by show _ = _; rw [HF.out]; exact if_neg hs
          clear hs HD H1 HS HF
          generalize scanL [n] = er at *
          go_wp2
          go_ret
          exact ⟨by rw [HE.out]; rfl, hB1⟩
      · have hi2 : i = ns.length := by omega
        have e0 : scanL ns = 0 := by rw [HS.out, List.drop_eq_nil_of_le (by omega)]; rfl
        have HF : Hid _ := fault_beh ns h60 e0
        have HC : Hid (Calls Tryz.prog 28 #[.slice (some ⟨b, off, none⟩) ns.length cap, .int .i64 0] wr fun e w' => e = .returned (.tuple #[.int .i64 ((beh ns 1).1 : Nat), .bool (beh ns 1).2]) ∧ w' = wr) := by
          have := behind_at ns b off cap 0 HM.out (by omega) (by omega) wr hNr
          rw [List.drop_zero, Nat.zero_add] at this
          exact this
        subst hi2
        have hkl := beh_le ns 1
        clear e0 HS
        generalize beh ns 1 = x at *
        obtain ⟨k, y⟩ := x
        simp only at HC HF hkl
        go_wp2_with fail
        refine HC.out.mono ?_
        rintro e w1 ⟨rfl, rfl⟩
        cases y with
        | false =>
          have HF2 : Hid (faultL ns = 2) := by show _ = _; rw [HF.out]; rfl
          clear HF HC
          go_wp2
          go_ret
          exact ⟨by rw [HF2.out]; rfl, hB⟩
        | true =>
          by_cases hk : k < ns.length
          · have HF2 : Hid (faultL ns = 2) := by show _ = _; rw [HF.out, if_neg (by simp; omega)]
            have hk2 : (k : Int) < (ns.length : Int) := by omega
            clear HF HC
            go_wp2
            go_ret
            exact ⟨by rw [HF2.out]; rfl, hB⟩
          · have HF2 : Hid (faultL ns = 0) := by show _ = _; rw [HF.out, if_pos (by simp; omega)]
            have hk2 : ¬ (k : Int) < (ns.length : Int) := by omega
            clear HF HC
            go_wp2
            go_ret
            exact ⟨by rw [HF2.out]; rfl, hB⟩
set_option maxHeartbeats 1000000 in
theorem check_nil (a : Option Addr) (cap : Nat) (w : World) :
    Calls Tryz.prog 15 #[.slice a 0 cap] w fun e w' => e = .returned (errV 2) ∧ Below w.heap.size w w' := by
  go_enter Tryz.func15, Tryz.ntmps15
  go_wp2_with fail
  go_loop [14] (fun v => v = .int .i64 0) (fun _ => 0)
  case atStart => rfl
  case round =>
    subst hrel
    go_wp2_with fail
    refine (behind_nil a cap w).mono ?_
    rintro e w1 ⟨rfl, rfl⟩
    go_wp2
    go_ret
    exact ⟨rfl, Below.refl _ _⟩
theorem rcheck_any (ns : List Nd) (v : Value) (w : World) (hN : NsIn w v ns) :
    Calls Tryz.prog 15 #[v] w fun e w' => e = .returned (errV (faultL ns)) ∧ Below w.heap.size w w' := by
  obtain ⟨a, cap, rfl, hm, h | ⟨b, off, rfl, hlt, hn⟩⟩ := hN
  · subst h
    exact check_nil a cap w
  · by_cases h0 : 0 < ns.length
    · exact check_at ns b off cap hm w hlt hn h0
    · have : ns = [] := List.eq_nil_of_length_eq_zero (by omega)
      subst this
      exact check_nil _ cap w
end Go.Proofs.YtmdfdlljeggbbaaGreatDoor
