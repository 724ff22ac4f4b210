/- A program, all ways at once: what is come to at one place, and the next one: plain mathematics. Sets of steps: what a program comes to at a place and at the next one hangs on the set, the byte, and whether the text begins or ends there: plain mathematics. Sets of steps in memory; package sim: with, has. Package sim: IsEmpty. Package sim: PlaceOf. -/
import Derived.Test.YtphcncgdodhlbaaDoorY12
import Derived.Test.YtphcncgdodhlbaaDoorY03
import Derived.Test.YtphcncgdodhlbaaDoorY01
namespace Go.Proofs.YtphcncgdodhlbaaDoor
set_option linter.unusedSimpArgs false
set_option linter.unusedVariables false
set_option maxRecDepth 100000
open Go.RowKit

/-- As many steps as one likes at one place. -/
inductive Sta (ss : List St) (s : List UInt8) (a : Nat) : Nat → Nat → Prop
  | nil (k : Nat) : Sta ss s a k k
  | cons (k k1 k2 : Nat) : Stp ss s k a k1 a → Sta ss s a k1 k2 → Sta ss s a k k2
theorem Sta.snoc {ss : List St} {s : List UInt8} {a k k1 k2 : Nat} (h : Sta ss s a k k1) (h2 : Stp ss s k1 a k2 a) : Sta ss s a k k2 := by
  induction h with
  | nil k => exact .cons _ _ _ h2 (.nil _)
  | cons k k1 k2 h _ ih => exact .cons _ _ _ h (ih h2)
theorem Sta.trans {ss : List St} {s : List UInt8} {a k k1 k2 : Nat} (h : Sta ss s a k k1) (h2 : Sta ss s a k1 k2) : Sta ss s a k k2 := by
  induction h with
  | nil k => exact h2
  | cons k k1 k2 h _ ih => exact .cons _ _ _ h (ih h2)
/-- What is seen, S, has become S' by going on from the steps K. -/
structure Vst (ss : List St) (s : List UInt8) (a : Nat) (S S' K : List Nat) : Prop where
  pre : ∃ m, S' = S ++ m
  has : ∀ k ∈ K, k ∈ S'
  sound : ∀ x ∈ S', x ∈ S ∨ ∃ k ∈ K, Sta ss s a k x
  shut : ∀ x ∈ S', x ∈ S ∨ ∀ y, Stp ss s x a y a → y ∈ S'
theorem Vst.sub {ss : List St} {s : List UInt8} {a : Nat} {S S' K : List Nat} (h : Vst ss s a S S' K) : ∀ x ∈ S, x ∈ S' := fun x hx => by
  obtain ⟨m, rfl⟩ := h.pre
  simp [hx]
theorem Vst.refl (ss : List St) (s : List UInt8) (a : Nat) (S K : List Nat) (h : ∀ k ∈ K, k ∈ S) : Vst ss s a S S K := ⟨⟨[], by simp⟩, h, fun x hx => Or.inl hx, fun x hx => Or.inl hx⟩
theorem Vst.comp {ss : List St} {s : List UInt8} {a : Nat} {S S1 S2 K L : List Nat} (h : Vst ss s a S S1 K) (g : Vst ss s a S1 S2 L) : Vst ss s a S S2 (K ++ L) where
  pre := by
    obtain ⟨m, rfl⟩ := h.pre
    obtain ⟨m', rfl⟩ := g.pre
    exact ⟨m ++ m', by simp⟩
  has := fun k hk => by
    rcases List.mem_append.1 hk with hk | hk
    · exact g.sub k (h.has k hk)
    · exact g.has k hk
  sound := fun x hx => by
    rcases g.sound x hx with h1 | ⟨k, hk, h1⟩
    · rcases h.sound x h1 with h2 | ⟨k, hk, h2⟩
      · exact Or.inl h2
      · exact Or.inr ⟨k, by simp [hk], h2⟩
    · exact Or.inr ⟨k, by simp [hk], h1⟩
  shut := fun x hx => by
    rcases g.shut x hx with h1 | h1
    · rcases h.shut x h1 with h2 | h2
      · exact Or.inl h2
      · exact Or.inr fun y hy => g.sub y (h2 y hy)
    · exact Or.inr h1
/-- One that was not seen is entered; behind it are K. -/
theorem Vst.enter {ss : List St} {s : List UInt8} {a k : Nat} {S S' K : List Nat} (h : Vst ss s a (S ++ [k]) S' K) (hK : ∀ y, Stp ss s k a y a ↔ y ∈ K) : Vst ss s a S S' [k] where
  pre := by
    obtain ⟨m, rfl⟩ := h.pre
    exact ⟨k :: m, by simp⟩
  has := fun x hx => by
    rw [List.mem_singleton.1 hx]
    exact h.sub k (by simp)
  sound := fun x hx => by
    rcases h.sound x hx with h1 | ⟨y, hy, h1⟩
    · rcases List.mem_append.1 h1 with h2 | h2
      · exact Or.inl h2
      · rw [List.mem_singleton.1 h2]
        exact Or.inr ⟨k, by simp, .nil _⟩
    · exact Or.inr ⟨k, by simp, .cons _ _ _ ((hK y).2 hy) h1⟩
  shut := fun x hx => by
    rcases h.shut x hx with h1 | h1
    · rcases List.mem_append.1 h1 with h2 | h2
      · exact Or.inl h2
      · rw [List.mem_singleton.1 h2]
        exact Or.inr fun y hy => h.has y ((hK y).1 hy)
    · exact Or.inr h1
/-- F is what is come to from b, at a place. -/
def Clo (ss : List St) (s : List UInt8) (a : Nat) (b F : List Nat) : Prop := ∀ k, k ∈ F ↔ ∃ k0 ∈ b, Sta ss s a k0 k
theorem Vst.clo {ss : List St} {s : List UInt8} {a : Nat} {b F : List Nat} (h : Vst ss s a [] F b) : Clo ss s a b F := by
  intro k
  constructor
  · intro hk
    rcases h.sound k hk with h1 | h1
    · cases h1
    · exact h1
  · rintro ⟨k0, hk0, h1⟩
    have h2 := h.has k0 hk0
    clear hk0
    induction h1 with
    | nil k => exact h2
    | cons k k1 k2 hs _ ih =>
      refine ih ?_
      rcases h.shut k h2 with h3 | h3
      · cases h3
      · exact h3 k1 hs
/-- What is come to from step 0 at place i. -/
inductive Rc (ss : List St) (s : List UInt8) (i : Nat) : Nat → Nat → Prop
  | base : Rc ss s i 0 i
  | step (k a k' a' : Nat) : Rc ss s i k a → Stp ss s k a k' a' → Rc ss s i k' a'
theorem Rc.sta {ss : List St} {s : List UInt8} {i k a k' : Nat} (h : Rc ss s i k a) (h2 : Sta ss s a k k') : Rc ss s i k' a := by
  induction h2 with
  | nil k => exact h
  | cons k k1 k2 hs _ ih => exact ih (.step _ _ _ _ h hs)
theorem Rc.le {ss : List St} {s : List UInt8} {i k a : Nat} (hi : i ≤ s.length) (h : Rc ss s i k a) : i ≤ a ∧ a ≤ s.length := by
  induction h with
  | base => exact ⟨Nat.le_refl _, hi⟩
  | step k a k' a' _ hs ih =>
    refine ⟨?_, stp_le ih.2 hs⟩
    obtain ⟨n, _, ⟨_, _, h, _⟩ | ⟨_, _, h⟩ | ⟨_, _, h, _⟩ | ⟨_, _, h, _⟩⟩ := hs <;> omega
theorem stp_place {ss : List St} {s : List UInt8} {k a k' a' : Nat} (hs : Stp ss s k a k' a') : a' = a ∨ a' = a + 1 := by
  obtain ⟨n, _, ⟨_, _, h, _⟩ | ⟨_, _, h⟩ | ⟨_, _, h, _⟩ | ⟨_, _, h, _⟩⟩ := hs <;> omega
/-- The last byte that was taken. -/
theorem Rc.last {ss : List St} {s : List UInt8} {i k a : Nat} (h : Rc ss s i k a) : (a = i ∧ Sta ss s a 0 k) ∨ ∃ a0 k0 k1, a = a0 + 1 ∧ Rc ss s i k0 a0 ∧ Stp ss s k0 a0 k1 (a0 + 1) ∧ Sta ss s a k1 k := by
  induction h with
  | base => exact Or.inl ⟨rfl, .nil _⟩
  | step k a k' a' hr hs ih =>
    rcases stp_place hs with rfl | rfl
    · rcases ih with ⟨h1, h2⟩ | ⟨a0, k0, k1, h1, h2, h3, h4⟩
      · exact Or.inl ⟨h1, h2.snoc hs⟩
      · exact Or.inr ⟨a0, k0, k1, h1, h2, h3, h4.snoc hs⟩
    · exact Or.inr ⟨a, k, k', rfl, hr, hs, .nil _⟩
/-- b is where the program begins at place a. -/
def Bgn (ss : List St) (s : List UInt8) (i a : Nat) (b : List Nat) : Prop := ∀ k, Rc ss s i k a ↔ ∃ k0 ∈ b, Sta ss s a k0 k
/-- b' is where it goes on behind the byte at a place. -/
def Tkn (ss : List St) (s : List UInt8) (a : Nat) (F b' : List Nat) : Prop := ∀ k', k' ∈ b' ↔ ∃ k ∈ F, Stp ss s k a k' (a + 1)
theorem bgn_init (ss : List St) (s : List UInt8) (i : Nat) (hi : i ≤ s.length) : Bgn ss s i i [0] := by
  intro k
  constructor
  · intro h
    rcases h.last with ⟨_, h1⟩ | ⟨a0, k0, k1, h1, h2, _, _⟩
    · exact ⟨0, by simp, h1⟩
    · have := (h2.le hi).1
      omega
  · rintro ⟨k0, hk, h⟩
    rw [List.mem_singleton.1 hk] at h
    exact Rc.base.sta h
theorem Bgn.clo {ss : List St} {s : List UInt8} {i a : Nat} {b F : List Nat} (h : Bgn ss s i a b) (hF : Clo ss s a b F) (k : Nat) : k ∈ F ↔ Rc ss s i k a := (hF k).trans (h k).symm
theorem Bgn.next {ss : List St} {s : List UInt8} {i a : Nat} {b F b' : List Nat} (hia : i ≤ a) (h : Bgn ss s i a b) (hF : Clo ss s a b F) (hT : Tkn ss s a F b') : Bgn ss s i (a + 1) b' := by
  intro k
  constructor
  · intro hr
    rcases hr.last with ⟨h1, _⟩ | ⟨a0, k0, k1, h1, h2, h3, h4⟩
    · omega
    · obtain rfl : a0 = a := by omega
      exact ⟨k1, (hT k1).2 ⟨k0, (h.clo hF k0).2 h2, h3⟩, h4⟩
  · rintro ⟨k1, hk1, h4⟩
    obtain ⟨k0, hk0, h3⟩ := (hT k1).1 hk1
    exact (Rc.step _ _ _ _ ((h.clo hF k0).1 hk0) h3).sta h4
/-- A place at which it is done. -/
def Dne (ss : List St) (k : Nat) : Prop := ∃ n, ss[k]? = some n ∧ n.op = 5
theorem rc_rch {ss : List St} {s : List UInt8} {i k a : Nat} (hi : i ≤ s.length) (h : Rc ss s i k a) : Rch ss s i (k * (s.length + 1) + a) := by
  induction h with
  | base => simpa using Rch.base
  | step k a k' a' hr hs ih =>
    have ha := (hr.le hi).2
    exact .step _ _ ih ((nx_stp ss s ha).2 ⟨k', a', hs, stp_le ha hs, rfl⟩)
theorem pth_rc {ss : List St} {s : List UInt8} {i m k a k' a' : Nat} (h : Pth ss s m k a k' a') : Rc ss s i k a → Rc ss s i k' a' := by
  induction h with
  | nil k a => exact id
  | cons m k a k1 a1 k' a' hs _ ih => exact fun hr => ih (.step _ _ _ _ hr hs)
theorem run_mem {ss : List St} {s : List UInt8} {i : Nat} (hi : i ≤ s.length) {l : List Nat} (hl : RunR ss s i l) (j : Nat) : j ∈ l ↔ ∃ k, Rc ss s i k j ∧ Dne ss k := by
  rw [hl.2 j]
  constructor
  · rintro ⟨q, hq, hd, rfl⟩
    obtain ⟨n, k, a, ha, rfl, hp⟩ := rch_pth ss s hi hq
    have hsd := spot_div (N := s.length + 1) (k := k) (a := a) (by omega)
    rw [hsd.2]
    refine ⟨k, pth_rc hp .base, ?_⟩
    unfold dn at hd
    rw [hsd.1] at hd
    cases hn : ss[k]? with
    | none => rw [hn] at hd; cases hd
    | some n => rw [hn] at hd; exact ⟨n, hn, of_decide_eq_true hd⟩
  · rintro ⟨k, hr, n, hn, h5⟩
    have ha := (hr.le hi).2
    have hsd := spot_div (N := s.length + 1) (k := k) (a := j) (by omega)
    refine ⟨_, rc_rch hi hr, ?_, hsd.2⟩
    unfold dn
    rw [hsd.1, hn]
    exact decide_eq_true h5
/-- The ends ahead of a place. -/
def ahead (l : List Nat) (a : Nat) : List Nat := l.filter fun j => decide (j < a)
theorem ahead_yes {l : List Nat} (hl : l.Pairwise (· < ·)) (a : Nat) (ha : a ∈ l) : ahead l (a + 1) = ahead l a ++ [a] := by
  induction l with
  | nil => cases ha
  | cons x r ih =>
    rw [List.pairwise_cons] at hl
    rcases List.mem_cons.1 ha with rfl | ha
    · have h1 : ahead r (a + 1) = [] := List.filter_eq_nil_iff.2 fun j hj => by
        have := hl.1 j hj
        simp
        omega
      have h2 : ahead r a = [] := List.filter_eq_nil_iff.2 fun j hj => by
        have := hl.1 j hj
        simp
        omega
      unfold ahead at h1 h2 ⊢
      simp [h1, h2]
    · have hx := hl.1 a ha
      have := ih hl.2 ha
      unfold ahead at this ⊢
      simp [this, show x < a + 1 by omega, hx]
theorem ahead_no {l : List Nat} (a : Nat) (ha : ¬ a ∈ l) : ahead l (a + 1) = ahead l a := by
  unfold ahead
  refine List.filter_congr fun j hj => ?_
  have : j ≠ a := fun e => ha (e ▸ hj)
  rw [decide_eq_decide]
  omega
theorem ahead_all {l : List Nat} (a : Nat) (h : ∀ j ∈ l, j < a) : ahead l a = l := List.filter_eq_self.2 fun j hj => decide_eq_true (h j hj)
theorem ahead_none {l : List Nat} (a : Nat) (h : ∀ j ∈ l, a ≤ j) : ahead l a = [] := List.filter_eq_nil_iff.2 fun j hj => by
  have := h j hj
  simp
  omega
/-- Where nothing is begun nothing is come to, there and behind. -/
theorem Bgn.none {ss : List St} {s : List UInt8} {i a : Nat} (h : Bgn ss s i a []) (hia : i ≤ a) : ∀ k a', Rc ss s i k a' → a' < a := by
  have key : ∀ d k, ¬ Rc ss s i k (a + d) := by
    intro d
    induction d with
    | zero =>
      intro k hr
      obtain ⟨k0, hk0, _⟩ := (h k).1 hr
      cases hk0
    | succ d ih =>
      intro k hr
      rcases hr.last with ⟨h1, _⟩ | ⟨a0, k0, k1, h1, h2, _, _⟩
      · omega
      · obtain rfl : a0 = a + d := by omega
        exact ih k0 h2
  intro k a' hr
  rcases Nat.lt_or_ge a' a with h1 | h1
  · exact h1
  · obtain ⟨d, rfl⟩ : ∃ d, a' = a + d := ⟨a' - a, by omega⟩
    exact absurd hr (key d k)
/-- Numbers below N, each once, are N at most. -/
theorem nodup_le (N : Nat) : ∀ (l : List Nat), l.Nodup → (∀ x ∈ l, x < N) → l.length ≤ N := by
  induction N with
  | zero =>
    intro l _ h
    cases l with
    | nil => simp
    | cons x r => exact absurd (h x (by simp)) (by omega)
  | succ N ih =>
    intro l hn h
    have h1 := ih (l.erase N) (hn.erase N) fun x hx => by
      have h2 := h x (List.mem_of_mem_erase hx)
      have h3 : x ≠ N := fun e => by
        subst e
        exact hn.not_mem_erase hx
      omega
    by_cases hN : N ∈ l
    · rw [List.length_erase_of_mem hN] at h1
      omega
    · rw [List.erase_of_not_mem hN] at h1
      omega
end Go.Proofs.YtphcncgdodhlbaaDoor
namespace Go.Proofs.YtphcncgdodhlbaaDoor
set_option linter.unusedSimpArgs false
set_option linter.unusedVariables false
set_option maxRecDepth 100000
open Go.RowKit

theorem stp_stay {ss : List St} {s : List UInt8} {a k y : Nat} {n : St} (hn : ss[k]? = some n) : Stp ss s k a y a ↔ (n.op = 2 ∧ (y = n.x.toNat ∨ y = n.y.toNat)) ∨ (n.op = 3 ∧ y = n.x.toNat ∧ a = 0) ∨ (n.op = 4 ∧ y = n.x.toNat ∧ a = s.length) := by
  constructor
  · rintro ⟨n', hn', h⟩
    rw [hn] at hn'
    obtain rfl := Option.some.inj hn'
    rcases h with ⟨_, _, h, _⟩ | ⟨h1, h2, _⟩ | ⟨h1, h2, _, h3⟩ | ⟨h1, h2, _, h3⟩
    · omega
    · exact Or.inl ⟨h1, h2⟩
    · exact Or.inr (Or.inl ⟨h1, h2, h3⟩)
    · exact Or.inr (Or.inr ⟨h1, h2, h3⟩)
  · rintro (⟨h1, h2⟩ | ⟨h1, h2, h3⟩ | ⟨h1, h2, h3⟩)
    · exact ⟨n, hn, Or.inr (Or.inl ⟨h1, h2, rfl⟩)⟩
    · exact ⟨n, hn, Or.inr (Or.inr (Or.inl ⟨h1, h2, rfl, h3⟩))⟩
    · exact ⟨n, hn, Or.inr (Or.inr (Or.inr ⟨h1, h2, rfl, h3⟩))⟩
/-- A text and a place of it that begin and end as told. -/
def tx : Bool → Bool → List UInt8
  | true, true => []
  | true, false => [0]
  | false, true => [0]
  | false, false => [0, 0]
def pc : Bool → Nat
  | true => 0
  | false => 1
theorem tx_first (fi : Bool) : pc fi = 0 ↔ fi = true := by cases fi <;> simp [pc]
theorem tx_last (fi la : Bool) : pc fi = (tx fi la).length ↔ la = true := by cases fi <;> cases la <;> simp [pc, tx]
theorem sta_same {ss : List St} {s s' : List UInt8} {a a' : Nat} (h0 : a = 0 ↔ a' = 0) (h1 : a = s.length ↔ a' = s'.length) {k k' : Nat} (h : Sta ss s a k k') : Sta ss s' a' k k' := by
  induction h with
  | nil k => exact .nil _
  | cons k k1 k2 hs _ ih =>
    refine .cons _ k1 _ ?_ ih
    obtain ⟨n, hn, _⟩ := id hs
    rw [stp_stay hn] at hs ⊢
    rw [← h0, ← h1]
    exact hs
theorem fun_ext {p q : Nat → Bool} (h : ∀ j, p j = true ↔ q j = true) : p = q := by
  funext j
  have := h j
  cases hp : p j <;> cases hq : q j <;> simp_all
/-- What is come to at a place, from some steps on. -/
noncomputable def cloF (ss : List St) (fi la : Bool) (b : Nat → Bool) : Nat → Bool := fun k => @decide (∃ k0, b k0 = true ∧ Sta ss (tx fi la) (pc fi) k0 k) (Classical.propDecidable _)
theorem cloF_iff {ss : List St} {fi la : Bool} {b : Nat → Bool} {k : Nat} : cloF ss fi la b k = true ↔ ∃ k0, b k0 = true ∧ Sta ss (tx fi la) (pc fi) k0 k := @decide_eq_true_iff _ (Classical.propDecidable _)
/-- Step k takes the byte c, and goes on at k'. -/
def Tks (ss : List St) (c k k' : Nat) : Prop := ∃ n, ss[k]? = some n ∧ n.op = 1 ∧ n.c.has c = true ∧ k' = n.x.toNat
/-- Where it goes on behind a byte. -/
noncomputable def takF (ss : List St) (c : Nat) (p : Nat → Bool) : Nat → Bool := fun k' => @decide (∃ k, p k = true ∧ Tks ss c k k') (Classical.propDecidable _)
theorem takF_iff {ss : List St} {c : Nat} {p : Nat → Bool} {k' : Nat} : takF ss c p k' = true ↔ ∃ k, p k = true ∧ Tks ss c k k' := @decide_eq_true_iff _ (Classical.propDecidable _)
noncomputable def takL (ss : List St) (c : Nat) (l : List Nat) : Nat → Bool := fun k' => @decide (∃ k ∈ l, Tks ss c k k') (Classical.propDecidable _)
theorem takL_iff {ss : List St} {c : Nat} {l : List Nat} {k' : Nat} : takL ss c l k' = true ↔ ∃ k ∈ l, Tks ss c k k' := @decide_eq_true_iff _ (Classical.propDecidable _)
noncomputable def donF (ss : List St) (p : Nat → Bool) : Bool := @decide (∃ k, p k = true ∧ Dne ss k) (Classical.propDecidable _)
theorem donF_iff {ss : List St} {p : Nat → Bool} : donF ss p = true ↔ ∃ k, p k = true ∧ Dne ss k := @decide_eq_true_iff _ (Classical.propDecidable _)
noncomputable def begS (ss : List St) (fi la : Bool) : Nat → Bool := cloF ss fi la (withP noP 0)
noncomputable def nxtS (ss : List St) (p : Nat → Bool) (c : Nat) (fi la : Bool) : Nat → Bool := cloF ss fi la (takF ss c p)
/-- A set of the program's steps. -/
def Sub (ss : List St) (p : Nat → Bool) : Prop := ∀ k, p k = true → k < ss.length
/-- Each step leads to one. -/
def Leads (ss : List St) : Prop := ∀ (k : Nat) (n : St), ss[k]? = some n → (n.op = 1 ∨ n.op = 2 ∨ n.op = 3 ∨ n.op = 4 → n.x.toNat < ss.length) ∧ (n.op = 2 → n.y.toNat < ss.length)
theorem sta_lt {ss : List St} (hL : Leads ss) {s : List UInt8} {a k k' : Nat} (h : Sta ss s a k k') (hk : k < ss.length) : k' < ss.length := by
  induction h with
  | nil k => exact hk
  | cons k k1 k2 hs _ ih =>
    refine ih ?_
    obtain ⟨n, hn, _⟩ := id hs
    rw [stp_stay hn] at hs
    have := hL k n hn
    rcases hs with ⟨h1, h2 | h2⟩ | ⟨h1, h2, _⟩ | ⟨h1, h2, _⟩
    · rw [h2]; exact this.1 (by omega)
    · rw [h2]; exact this.2 h1
    · rw [h2]; exact this.1 (by omega)
    · rw [h2]; exact this.1 (by omega)
theorem clo_sub {ss : List St} (hL : Leads ss) {fi la : Bool} {b : Nat → Bool} (hb : Sub ss b) : Sub ss (cloF ss fi la b) := fun k hk => by
  obtain ⟨k0, h0, h1⟩ := cloF_iff.1 hk
  exact sta_lt hL h1 (hb k0 h0)
theorem tak_sub {ss : List St} (hL : Leads ss) {c : Nat} {p : Nat → Bool} : Sub ss (takF ss c p) := fun k hk => by
  obtain ⟨k0, _, n, hn, h1, _, rfl⟩ := takF_iff.1 hk
  exact (hL k0 n hn).1 (Or.inl h1)
theorem takL_sub {ss : List St} (hL : Leads ss) {c : Nat} {l : List Nat} : Sub ss (takL ss c l) := fun k hk => by
  obtain ⟨k0, _, n, hn, h1, _, rfl⟩ := takL_iff.1 hk
  exact (hL k0 n hn).1 (Or.inl h1)
theorem zero_sub {ss : List St} (h : 0 < ss.length) : Sub ss (withP noP 0) := fun k hk => by
  simp [withP, noP] at hk
  omega
theorem beg_sub {ss : List St} (hL : Leads ss) (h : 0 < ss.length) (fi la : Bool) : Sub ss (begS ss fi la) := clo_sub hL (zero_sub h)
theorem nxt_sub {ss : List St} (hL : Leads ss) (p : Nat → Bool) (c : Nat) (fi la : Bool) : Sub ss (nxtS ss p c fi la) := clo_sub hL (tak_sub hL)
/-- The elements of a set, as a list. -/
theorem el_in {ss : List St} (hl : ss.length ≤ 200) {p : Nat → Bool} (hp : Sub ss p) (k : Nat) : k ∈ el p 256 ↔ p k = true := by
  rw [el_mem]
  constructor
  · exact fun h => h.2
  · exact fun h => ⟨by have := hp k h; omega, h⟩
theorem clo_list {ss : List St} (hl : ss.length ≤ 200) {fi la : Bool} {b : Nat → Bool} (hb : Sub ss b) {S : List Nat} (h : Vst ss (tx fi la) (pc fi) [] S (el b 256)) : (fun j => decide (j ∈ S)) = cloF ss fi la b := fun_ext fun j => by
  rw [decide_eq_true_iff, cloF_iff, h.clo j]
  constructor
  · rintro ⟨k0, h1, h2⟩
    exact ⟨k0, (el_in hl hb k0).1 h1, h2⟩
  · rintro ⟨k0, h1, h2⟩
    exact ⟨k0, (el_in hl hb k0).2 h1, h2⟩
theorem tak_list {ss : List St} (hl : ss.length ≤ 200) {c : Nat} {p : Nat → Bool} (hp : Sub ss p) : takL ss c (el p 256) = takF ss c p := fun_ext fun j => by
  rw [takL_iff, takF_iff]
  constructor
  · rintro ⟨k0, h1, h2⟩
    exact ⟨k0, (el_in hl hp k0).1 h1, h2⟩
  · rintro ⟨k0, h1, h2⟩
    exact ⟨k0, (el_in hl hp k0).2 h1, h2⟩
theorem takL_nil (ss : List St) (c : Nat) : takL ss c [] = noP := fun_ext fun j => by
  rw [takL_iff]
  simp [noP]
theorem takL_yes {ss : List St} {c x : Nat} {l : List Nat} {n : St} (hn : ss[x]? = some n) (h1 : n.op = 1) (hc : n.c.has c = true) : takL ss c (l ++ [x]) = withP (takL ss c l) n.x.toNat := fun_ext fun j => by
  unfold withP
  rw [Bool.or_eq_true, takL_iff, takL_iff, decide_eq_true_iff]
  constructor
  · rintro ⟨k, hk, ht⟩
    rcases List.mem_append.1 hk with hk | hk
    · exact Or.inl ⟨k, hk, ht⟩
    · rw [List.mem_singleton.1 hk] at ht
      obtain ⟨m, hm, _, _, e⟩ := ht
      rw [hn] at hm
      obtain rfl := Option.some.inj hm
      exact Or.inr e
  · rintro (⟨k, hk, ht⟩ | e)
    · exact ⟨k, List.mem_append.2 (Or.inl hk), ht⟩
    · exact ⟨x, by simp, n, hn, h1, hc, e⟩
theorem takL_no {ss : List St} {c x : Nat} {l : List Nat} {n : St} (hn : ss[x]? = some n) (h : ¬ (n.op = 1 ∧ n.c.has c = true)) : takL ss c (l ++ [x]) = takL ss c l := fun_ext fun j => by
  rw [takL_iff, takL_iff]
  constructor
  · rintro ⟨k, hk, ht⟩
    rcases List.mem_append.1 hk with hk | hk
    · exact ⟨k, hk, ht⟩
    · rw [List.mem_singleton.1 hk] at ht
      obtain ⟨m, hm, h1, h2, e⟩ := ht
      rw [hn] at hm
      obtain rfl := Option.some.inj hm
      exact absurd ⟨h1, h2⟩ h
  · rintro ⟨k, hk, ht⟩
    exact ⟨k, List.mem_append.2 (Or.inl hk), ht⟩
/-- What is come to from step 0 at place i, at place a. -/
noncomputable def curS (ss : List St) (s : List UInt8) (i a : Nat) : Nat → Bool := fun k => @decide (Rc ss s i k a) (Classical.propDecidable _)
theorem curS_iff {ss : List St} {s : List UInt8} {i a k : Nat} : curS ss s i a k = true ↔ Rc ss s i k a := @decide_eq_true_iff _ (Classical.propDecidable _)
theorem cur_beg (ss : List St) (s : List UInt8) (i : Nat) (hi : i ≤ s.length) : curS ss s i i = begS ss (decide (i = 0)) (decide (i = s.length)) := fun_ext fun k => by
  unfold begS
  rw [curS_iff, cloF_iff, bgn_init ss s i hi k]
  have e0 : i = 0 ↔ pc (decide (i = 0)) = 0 := by rw [tx_first, decide_eq_true_iff]
  have e1 : i = s.length ↔ pc (decide (i = 0)) = (tx (decide (i = 0)) (decide (i = s.length))).length := by rw [tx_last, decide_eq_true_iff]
  constructor
  · rintro ⟨k0, hk, h⟩
    rw [List.mem_singleton.1 hk] at h
    exact ⟨0, by simp [withP], sta_same e0 e1 h⟩
  · rintro ⟨k0, hk, h⟩
    have : k0 = 0 := by simpa [withP, noP] using hk
    subst this
    exact ⟨0, by simp, sta_same e0.symm e1.symm h⟩
theorem cur_next (ss : List St) (s : List UInt8) (i a : Nat) (hia : i ≤ a) (c : UInt8) (hc : s[a]? = some c) : curS ss s i (a + 1) = nxtS ss (curS ss s i a) c.toNat false (decide (a + 1 = s.length)) := fun_ext fun k => by
  unfold nxtS
  rw [curS_iff, cloF_iff]
  have e0 : a + 1 = 0 ↔ pc false = 0 := by simp [pc]
  have e1 : a + 1 = s.length ↔ pc false = (tx false (decide (a + 1 = s.length))).length := by rw [tx_last, decide_eq_true_iff]
  constructor
  · intro hr
    rcases hr.last with ⟨h1, _⟩ | ⟨a0, k0, k1, h1, h2, h3, h4⟩
    · omega
    · obtain rfl : a0 = a := by omega
      refine ⟨k1, takF_iff.2 ⟨k0, curS_iff.2 h2, ?_⟩, sta_same e0 e1 h4⟩
      obtain ⟨n, hn, ⟨q1, q2, _, c', q3, q4⟩ | ⟨_, _, h⟩ | ⟨_, _, h, _⟩ | ⟨_, _, h, _⟩⟩ := h3
      · rw [hc] at q3
        obtain rfl := Option.some.inj q3
        exact ⟨n, hn, q1, q4, q2⟩
      · omega
      · omega
      · omega
  · rintro ⟨k1, hk1, h4⟩
    obtain ⟨k0, hk0, n, hn, q1, q2, q3⟩ := takF_iff.1 hk1
    exact (Rc.step _ _ _ _ (curS_iff.1 hk0) ⟨n, hn, Or.inl ⟨q1, q3, rfl, c, hc, q2⟩⟩).sta (sta_same e0.symm e1.symm h4)
theorem cur_done {ss : List St} {s : List UInt8} {i : Nat} (hi : i ≤ s.length) {l : List Nat} (hl : RunR ss s i l) (a : Nat) : donF ss (curS ss s i a) = true ↔ a ∈ l := by
  rw [donF_iff, run_mem hi hl a]
  constructor
  · rintro ⟨k, h1, h2⟩
    exact ⟨k, curS_iff.1 h1, h2⟩
  · rintro ⟨k, h1, h2⟩
    exact ⟨k, curS_iff.2 h1, h2⟩
/-- Where nothing is come to nothing is, there and behind. -/
theorem cur_none {ss : List St} {s : List UInt8} {i a : Nat} (hia : i ≤ a) (h : curS ss s i a = noP) : ∀ k a', Rc ss s i k a' → a' < a := by
  refine Bgn.none (fun k => ⟨fun hr => ?_, fun ⟨k0, hk, _⟩ => by cases hk⟩) hia
  have : curS ss s i a k = true := curS_iff.2 hr
  rw [h] at this
  cases this
/-- The ends are all there, where nothing is come to, or the text ends. -/
theorem cur_all {ss : List St} {s : List UInt8} {i a : Nat} (hi : i ≤ s.length) (hia : i ≤ a) {l : List Nat} (hl : RunR ss s i l) (h : curS ss s i a = noP) : ahead l a = l := ahead_all a fun j hj => by
  obtain ⟨k, hr, _⟩ := (run_mem hi hl j).1 hj
  exact cur_none hia h k j hr
theorem cur_last {ss : List St} {s : List UInt8} {i : Nat} (hi : i ≤ s.length) {l : List Nat} (hl : RunR ss s i l) : ahead l (s.length + 1) = l := ahead_all _ fun j hj => by
  obtain ⟨k, hr, _⟩ := (run_mem hi hl j).1 hj
  have := (hr.le hi).2
  omega
theorem cur_begin {ss : List St} {s : List UInt8} {i : Nat} (hi : i ≤ s.length) {l : List Nat} (hl : RunR ss s i l) : ahead l i = [] := ahead_none i fun j hj => by
  obtain ⟨k, hr, _⟩ := (run_mem hi hl j).1 hj
  exact (hr.le hi).1
theorem cur_sub {ss : List St} (hL : Leads ss) (h0 : 0 < ss.length) {s : List UInt8} {i a : Nat} : Sub ss (curS ss s i a) := by
  have key : ∀ k a, Rc ss s i k a → k < ss.length := fun k a h => by
    induction h with
    | base => exact h0
    | step k a k' a' _ hs ih =>
      obtain ⟨n, hn, ⟨q1, q2, _, _⟩ | ⟨q1, q2 | q2, _⟩ | ⟨q1, q2, _, _⟩ | ⟨q1, q2, _, _⟩⟩ := hs
      · rw [q2]; exact (hL k n hn).1 (by omega)
      · rw [q2]; exact (hL k n hn).1 (by omega)
      · rw [q2]; exact (hL k n hn).2 q1
      · rw [q2]; exact (hL k n hn).1 (by omega)
      · rw [q2]; exact (hL k n hn).1 (by omega)
  exact fun k hk => key k a (curS_iff.1 hk)
end Go.Proofs.YtphcncgdodhlbaaDoor
namespace Go.Proofs.YtphcncgdodhlbaaDoor
set_option linter.unusedSimpArgs false
set_option linter.unusedVariables false
set_option maxRecDepth 100000
open Go.RowKit

/-- A set of steps as a value, and its cells. -/
def stV (p : Nat → Bool) : Value := .agg #[.int .u64 (wd p 0), .int .u64 (wd p 1), .int .u64 (wd p 2), .int .u64 (wd p 3)]
def cellsS (p : Nat → Bool) : List Value := [.int .u64 (wd p 0), .int .u64 (wd p 1), .int .u64 (wd p 2), .int .u64 (wd p 3)]
theorem cellsS_get (p : Nat → Bool) (i : Nat) (h : i < 4) : (cellsS p)[i]? = some (.int .u64 (wd p i)) := by
  match i, h with
  | 0, _ | 1, _ | 2, _ | 3, _ => rfl
theorem cellsS_set {p q : Nat → Bool} (i : Nat) (hi : i < 4) {x : Int} (hx : okW x) (hb : ∀ j, j < 64 → x.toNat.testBit j = q (64 * i + j)) (ho : ∀ k j, k < 4 → k ≠ i → j < 64 → p (64 * k + j) = q (64 * k + j)) :
    (cellsS p).set i (.int .u64 x) = cellsS q := by
  have e1 : x = wd q i := wd_of hx hb
  have e2 : ∀ k, k < 4 → k ≠ i → wd p k = wd q k := fun k hk hne => wd_congr (fun j hj => ho k j hk hne hj)
  subst e1
  apply List.ext_getElem?
  intro k
  rw [List.getElem?_set]
  have hl : (cellsS p).length = 4 := rfl
  have hl2 : (cellsS q).length = 4 := rfl
  by_cases hk : k < 4
  · by_cases hki : i = k
    · subst hki
      rw [if_pos rfl, if_pos (by omega), cellsS_get q i hk]
    · rw [if_neg hki, cellsS_get p k hk, cellsS_get q k hk, e2 k hk (fun e => hki e.symm)]
  · rw [if_neg (by omega), List.getElem?_eq_none (by omega), List.getElem?_eq_none (by omega)]
theorem withS_set (p : Nat → Bool) (a : Nat) (ha : a < 256) : (cellsS p).set (a / 64) (.int .u64 (bits .or .u64 (wd p (a / 64)) (IntKind.u64.wrap (2 ^ (a % 64))))) = cellsS (withP p a) := by
  have h1 := or_ok (wd_ok p (a / 64)) (pow_small (a % 64) (by omega)).1
  refine cellsS_set (a / 64) (by omega) h1.1 (fun j hj => ?_) (fun k j hk hne hj => ?_)
  · rw [h1.2, wd_bit p _ j hj, (pow_small (a % 64) (by omega)).2]
    unfold withP
    congr 1
    have : (a % 64 = j) = (64 * (a / 64) + j = a) := by apply propext; omega
    simp only [this]
  · unfold withP
    have : ¬ 64 * k + j = a := by omega
    simp [this]
/-- Block b holds a set of steps. -/
def Hq (w : World) (b : Nat) (p : Nat → Bool) : Prop := w.heap[b]? = some (.cells #[.int .u64 (wd p 0), .int .u64 (wd p 1), .int .u64 (wd p 2), .int .u64 (wd p 3)] 119 (0, 0))
theorem Hq.cell {w : World} {b : Nat} {p : Nat → Bool} (h : Hq w b p) (i : Nat) (hi : i < 4) : w.cell? ⟨b, i, none⟩ = some (.int .u64 (wd p i)) := by
  rw [Lib.cell_of_heap h]
  have := cellsS_get p i hi
  simpa [cellsS] using this
theorem Hq.frozen {w : World} {b : Nat} {p : Nat → Bool} (h : Hq w b p) (i : Nat) : w.frozen? ⟨b, i, none⟩ = false := Lib.frozen_of_heap h i
theorem Hq.all {w : World} {b : Nat} {p : Nat → Bool} (h : Hq w b p) : w.cell? ⟨b, 0, none⟩ = some (.int .u64 (wd p 0)) ∧ w.cell? ⟨b, 1, none⟩ = some (.int .u64 (wd p 1)) ∧ w.cell? ⟨b, 2, none⟩ = some (.int .u64 (wd p 2)) ∧ w.cell? ⟨b, 3, none⟩ = some (.int .u64 (wd p 3)) :=
  ⟨h.cell 0 (by decide), h.cell 1 (by decide), h.cell 2 (by decide), h.cell 3 (by decide)⟩
theorem Hq.frz {w : World} {b : Nat} {p : Nat → Bool} (h : Hq w b p) : w.frozen? ⟨b, 0, none⟩ = false ∧ w.frozen? ⟨b, 1, none⟩ = false ∧ w.frozen? ⟨b, 2, none⟩ = false ∧ w.frozen? ⟨b, 3, none⟩ = false :=
  ⟨h.frozen 0, h.frozen 1, h.frozen 2, h.frozen 3⟩
theorem Hq.lt {w : World} {b : Nat} {p : Nat → Bool} (h : Hq w b p) : b < w.heap.size := by
  rcases Nat.lt_or_ge b w.heap.size with h' | h'
  · exact h'
  · simp [Hq, Array.getElem?_eq_none h'] at h
theorem Hq.drew {w : World} {b : Nat} {p : Nat → Bool} (h : Hq w b p) : Hq w.drew b p := h
theorem Hq.below {w w' : World} {B b : Nat} {p : Nat → Bool} (h : Hq w b p) (hb : Below B w w') (hlt : b < B) : Hq w' b p := (hb.block b hlt).trans h
theorem Hq.grown {w w' : World} {b : Nat} {p : Nat → Bool} {row : Option Nat} (h : Hq w b p) (hg : w.grownBy w' row) (hne : some b ≠ row) : Hq w' b p := (hg.block b h.lt hne).trans h
theorem Hq.alloc {w : World} {b : Nat} {p : Nat → Bool} (h : Hq w b p) (o : Obj) : Hq (w.alloc o) b p := (Below.heap_alloc w o b h.lt).trans h
theorem Hq.new (w : World) (p : Nat → Bool) (b : Nat) (hb : b = w.heap.size) : Hq (w.alloc (.cells #[.int .u64 (wd p 0), .int .u64 (wd p 1), .int .u64 (wd p 2), .int .u64 (wd p 3)] 119)) b p := by subst hb; exact heap_alloc_new w _
theorem Hq.zero (w : World) (b : Nat) (hb : b = w.heap.size) : Hq (w.alloc (.cells #[.int .u64 0, .int .u64 0, .int .u64 0, .int .u64 0] 119)) b noP := by
  subst hb
  unfold Hq
  rw [wd_no, wd_no, wd_no, wd_no]
  exact heap_alloc_new w _
theorem stV_no : stV noP = .agg #[.int .u64 0, .int .u64 0, .int .u64 0, .int .u64 0] := by
  unfold stV
  rw [wd_no, wd_no, wd_no, wd_no]
theorem Hq.other {w : World} {b : Nat} {p : Nat → Bool} (h : Hq w b p) (a : Addr) (v : Value) (hp : b ≠ a.block) : Hq (w.setCell a v) b p := (Below.heap_setCell w a v b hp).trans h
theorem Hq.store {w : World} {b : Nat} {p q : Nat → Bool} (h : Hq w b p) (i : Nat) (hi : i < 4) (z : Int) (hs : (cellsS p).set i (.int .u64 z) = cellsS q) : Hq (w.setCell ⟨b, i, none⟩ (.int .u64 z)) b q := by
  unfold cellsS at hs
  unfold Hq at h ⊢
  simp [World.setCell, Array.getElem?_modify, h, hs]
/-- All words are set. -/
abbrev putS (w : World) (b : Nat) (q : Nat → Bool) : World := (((w.setCell ⟨b, 0, none⟩ (.int .u64 (wd q 0))).setCell ⟨b, 1, none⟩ (.int .u64 (wd q 1))).setCell ⟨b, 2, none⟩ (.int .u64 (wd q 2))).setCell ⟨b, 3, none⟩ (.int .u64 (wd q 3))
theorem Hq.putS {w : World} {b : Nat} {p : Nat → Bool} (h : Hq w b p) (q : Nat → Bool) : Hq (putS w b q) b q := by
  unfold Hq at h ⊢
  simp [World.setCell, Array.getElem?_modify, h]
theorem Hq.otherS {w : World} {b c : Nat} {p : Nat → Bool} (h : Hq w b p) (q : Nat → Bool) (hc : b ≠ c) : Hq (Go.Proofs.YtphcncgdodhlbaaDoor.putS w c q) b p :=
  (((h.other _ _ hc).other _ _ hc).other _ _ hc).other _ _ hc
theorem below_putS {w0 w : World} {B b : Nat} (h : Below B w0 w) (hb : B ≤ b) (q : Nat → Bool) : Below B w0 (putS w b q) :=
  (((h.setCell hb _).setCell hb _).setCell hb _).setCell hb _
theorem putS_size (w : World) (b : Nat) (q : Nat → Bool) : (putS w b q).heap.size = w.heap.size := by simp [World.setCell]
theorem grown_setS (w : World) (b i : Nat) (v : Value) : w.grownBy (w.setCell ⟨b, i, none⟩ v) (some b) :=
  ⟨rfl, rfl, rfl, by simp [World.setCell], fun k _ hk => Below.heap_setCell _ _ _ _ (fun e => hk (by rw [e]))⟩
theorem grown_putS (w : World) (b : Nat) (q : Nat → Bool) : w.grownBy (putS w b q) (some b) :=
  (((grown_setS w b 0 _).trans (grown_setS _ b 1 _)).trans (grown_setS _ b 2 _)).trans (grown_setS _ b 3 _)
theorem gr_below {w w' : World} (h : Below w.heap.size w w') (row : Option Nat) : w.grownBy w' row := ⟨h.1, h.2, h.3, h.size, fun i hi _ => h.block i hi⟩
theorem sd64 (a : Nat) : (a : Int).tdiv 64 = ((a / 64 : Nat) : Int) := by
  rw [Int.tdiv_eq_ediv_of_nonneg (by omega)]; omega
theorem sm64 (a : Nat) : (a : Int).tmod 64 = ((a % 64 : Nat) : Int) := by
  rw [Int.tmod_eq_emod_of_nonneg (by omega)]; omega
set_option maxHeartbeats 400000 in
theorem shas_any (p : Nat → Bool) (a : Nat) (ha : a < 256) (w : World) :
    Calls Tryd.prog 92 #[stV p, .int .i64 (a : Int)] w fun e w' => e = .returned (.bool (p a)) ∧ Below w.heap.size w w' := by
  have hw := (Hq.new w p _ rfl).cell (a / 64) (by omega)
  have h1 := sd64 a
  have h2 := sm64 a
  have hx := has_word p a
  unfold stV
  go_enter Tryd.func92, Tryd.ntmps92
  go_wp2
  go_ret
  exact ⟨rfl, (Below.refl _ _).alloc (Nat.le_refl _) _⟩
set_option maxHeartbeats 400000 in
theorem swith_any (p : Nat → Bool) (a : Nat) (ha : a < 256) (w : World) :
    Calls Tryd.prog 88 #[stV p, .int .i64 (a : Int)] w fun e w' => e = .returned (stV (withP p a)) ∧ Below w.heap.size w w' := by
  have h1 := sd64 a
  have h2 := sm64 a
  have i0 : (0 : Int) ≤ (a : Int) / 64 := by omega
  have i1 : (a : Int) / 64 < 4 := by omega
  have i2 : ((a : Int) / 64).toNat = a / 64 := by omega
  have i3 : ((a : Int) % 64).toNat = a % 64 := by omega
  have i4 : (0 : Int) ≤ (a : Int) % 64 := by omega
  obtain ⟨w0, hw0⟩ : ∃ w0, w0 = (w.alloc (.cells #[.int .u64 (wd p 0), .int .u64 (wd p 1), .int .u64 (wd p 2), .int .u64 (wd p 3)] 119)).alloc (.cells #[.int .u64 0, .int .u64 0, .int .u64 0, .int .u64 0] 119) := ⟨_, rfl⟩
  have hP : Hq w0 w.heap.size p := by rw [hw0]; exact (Hq.new w p _ rfl).alloc _
  have hZ : Hq w0 (w.heap.size + 1) noP := by rw [hw0]; exact Hq.zero _ _ (by simp)
  have hB : Below w.heap.size w w0 := by rw [hw0]; exact ((Below.refl _ w).alloc (Nat.le_refl _) _).alloc (by simp) _
  have hc := hP.cell (a / 64) (by omega)
  have hf := hP.frozen (a / 64)
  unfold stV
  go_enter Tryd.func88, Tryd.ntmps88
  go_wp2_with fail
  rw [← hw0]
  clear hw0
  go_region
  have hP1 : Hq (w0.setCell ⟨w.heap.size, a / 64, none⟩ (.int .u64 (bits .or .u64 (wd p (a / 64)) (IntKind.u64.wrap (2 ^ (a % 64)))))).drew w.heap.size (withP p a) := (hP.store (a / 64) (by omega) _ (withS_set p a ha)).drew
  have hZ1 : Hq (w0.setCell ⟨w.heap.size, a / 64, none⟩ (.int .u64 (bits .or .u64 (wd p (a / 64)) (IntKind.u64.wrap (2 ^ (a % 64)))))).drew (w.heap.size + 1) noP := (hZ.other _ _ (by simp)).drew
  have hB1 : Below w.heap.size w (w0.setCell ⟨w.heap.size, a / 64, none⟩ (.int .u64 (bits .or .u64 (wd p (a / 64)) (IntKind.u64.wrap (2 ^ (a % 64)))))).drew := (hB.setCell (Nat.le_refl _) _).drew
  generalize (w0.setCell ⟨w.heap.size, a / 64, none⟩ (.int .u64 (bits .or .u64 (wd p (a / 64)) (IntKind.u64.wrap (2 ^ (a % 64)))))).drew = w1 at hP1 hZ1 hB1 ⊢
  clear hP hZ hB hc hf
  obtain ⟨c0, c1, c2, c3⟩ := hP1.all
  obtain ⟨d0, d1, d2, d3⟩ := hZ1.all
  obtain ⟨f0, f1, f2, f3⟩ := hZ1.frz
  go_wp2
  have hq := hZ1.putS (withP p a)
  obtain ⟨e0, e1, e2, e3⟩ := hq.all
  refine bodyPost_ret (v := stV (withP p a)) (by simp [results, Tryd.results88, go_sem, stV, e0, e1, e2, e3]) rfl ⟨rfl, ?_⟩
  exact below_putS hB1 (by omega) _
/-- A place, as told to a program. -/
abbrev pcV (fi la : Bool) : Value := .agg #[.bool fi, .bool la]
end Go.Proofs.YtphcncgdodhlbaaDoor
namespace Go.Proofs.YtphcncgdodhlbaaDoor
set_option linter.unusedSimpArgs false
set_option linter.unusedVariables false
set_option maxRecDepth 100000
open Go.RowKit
/-- Two sets of steps are compared. -/
theorem eqSt (a0 a1 a2 a3 b0 b1 b2 b3 : Int) (w : World) : (Op.equalIn 10000 119 (.agg #[.int .u64 a0, .int .u64 a1, .int .u64 a2, .int .u64 a3]) (.agg #[.int .u64 b0, .int .u64 b1, .int .u64 b2, .int .u64 b3])).run Tryd.prog w = .ok (a0 == b0 && (a1 == b1 && (a2 == b2 && a3 == b3))) w := by
  have hs : Tryd.prog.underlying 119 = some (.struct (Tryd.prog.fieldsOf 119)) := by kernel_rfl
  have hp : Tryd.prog.stoodInHeld 119 = false := by kernel_rfl
  rw [show (10000 : Nat) = 9999 + 1 from rfl, run_equalIn_struct w 9999 _ _ _ hs hp]
  have hf : (Tryd.prog.fieldsOf 119).toList.map (fun f => (f.type, f.offset, f.name == "_")) = [(41, 0, false)] := by kernel_rfl
  generalize (Tryd.prog.fieldsOf 119).toList = fs at hf
  obtain ⟨f0, rfl⟩ : ∃ f0, fs = [f0] := List.length_eq_one_iff.1 (by have := congrArg List.length hf; simpa using this)
  · simp only [List.map_cons, List.map_nil, List.cons.injEq, Prod.mk.injEq, and_true] at hf
    obtain ⟨t0, o0, n0⟩ := hf
    have n0' : f0.name ≠ "_" := by simpa using n0
    have hi : ∀ (a b : Int) (w : World), (Op.equalIn 9998 40 (.int .u64 a) (.int .u64 b)).run Tryd.prog w = .ok (a == b) w := fun a b w => run_equalIn_int w 9997 40 .u64 .u64 a b Tryd.underlying40
    have p0 : ∀ (a b c d : Int) (w : World), (part 40 #[.int .u64 a, .int .u64 b, .int .u64 c, .int .u64 d] 0).run Tryd.prog w = .ok (.int .u64 a) w := fun _ _ _ _ _ => by kernel_rfl
    have p1 : ∀ (a b c d : Int) (w : World), (part 40 #[.int .u64 a, .int .u64 b, .int .u64 c, .int .u64 d] 1).run Tryd.prog w = .ok (.int .u64 b) w := fun _ _ _ _ _ => by kernel_rfl
    have p2 : ∀ (a b c d : Int) (w : World), (part 40 #[.int .u64 a, .int .u64 b, .int .u64 c, .int .u64 d] 2).run Tryd.prog w = .ok (.int .u64 c) w := fun _ _ _ _ _ => by kernel_rfl
    have p3 : ∀ (a b c d : Int) (w : World), (part 40 #[.int .u64 a, .int .u64 b, .int .u64 c, .int .u64 d] 3).run Tryd.prog w = .ok (.int .u64 d) w := fun _ _ _ _ _ => by kernel_rfl
    have q0 : ∀ (a b c d : Int) (w : World), (part 41 #[.int .u64 a, .int .u64 b, .int .u64 c, .int .u64 d] 0).run Tryd.prog w = .ok (.agg #[.int .u64 a, .int .u64 b, .int .u64 c, .int .u64 d]) w := fun _ _ _ _ _ => by kernel_rfl
    have hc : ∀ (w : World), (Op.equalIn 9999 41 (.agg #[.int .u64 a0, .int .u64 a1, .int .u64 a2, .int .u64 a3]) (.agg #[.int .u64 b0, .int .u64 b1, .int .u64 b2, .int .u64 b3])).run Tryd.prog w = .ok (a0 == b0 && (a1 == b1 && (a2 == b2 && a3 == b3))) w := fun w => by
      rw [show (9999 : Nat) = 9998 + 1 from rfl, Op.equalIn]
      simp only [Sem.run_bind, run_underlying Tryd.underlying41, Result.andThen_ok, Tryd.sizeOf40]
      rw [Std.Legacy.Range.forIn_eq_forIn_range']
      rw [show List.range' _ _ _ = [0, 1, 2, 3] from rfl]
      simp only [List.forIn_cons, List.forIn_nil, Sem.run_bind, Nat.mul_one, p0, Result.andThen_ok, hi, Sem.run_ite]
      cases h1 : a0 == b0 <;> cases h2 : a1 == b1 <;> cases h3 : a2 == b2 <;> cases h4 : a3 == b3 <;> simp [p1, p2, p3, hi, h2, h3, h4]
    simp only [Op.eqFields, t0, o0, ne_eq, n0', not_false_eq_true, if_true, Sem.run_bind, q0, Result.andThen_ok, hc, Sem.run_ite, Sem.run_pure]
    cases h1 : (a0 == b0 && (a1 == b1 && (a2 == b2 && a3 == b3))) <;> simp
theorem empty_iff {ss : List St} (hl : ss.length ≤ 200) {p : Nat → Bool} (hp : Sub ss p) : (wd p 0 == 0 && (wd p 1 == 0 && (wd p 2 == 0 && wd p 3 == 0))) = true ↔ p = noP := by
  constructor
  · intro h
    simp only [Bool.and_eq_true, beq_iff_eq] at h
    obtain ⟨h0, h1, h2, h3⟩ := h
    funext j
    by_cases hj : j < 256
    · have key : ∀ i, i < 4 → wd p i = 0 := fun i hi => by
        rcases (by omega : i = 0 ∨ i = 1 ∨ i = 2 ∨ i = 3) with rfl | rfl | rfl | rfl <;> assumption
      have := wd_bit p (j / 64) (j % 64) (by omega)
      rw [key (j / 64) (by omega), show 64 * (j / 64) + j % 64 = j by omega] at this
      rw [← this]
      simp [noP]
    · cases hpj : p j with
      | false => rfl
      | true =>
        have := hp j hpj
        omega
  · rintro rfl
    rw [wd_no, wd_no, wd_no, wd_no]
    rfl
set_option maxHeartbeats 400000 in
theorem sempty_any {ss : List St} (hl : ss.length ≤ 200) (p : Nat → Bool) (hp : Sub ss p) (w : World) :
    Calls Tryd.prog 51 #[stV p] w fun e w' => ∃ y, e = .returned (.bool y) ∧ (y = true ↔ p = noP) ∧ Below w.heap.size w w' := by
  have hy := hid (empty_iff hl hp)
  have hq := fun w => eqSt (wd p 0) (wd p 1) (wd p 2) (wd p 3) 0 0 0 0 w
  generalize (wd p 0 == 0 && (wd p 1 == 0 && (wd p 2 == 0 && wd p 3 == 0))) = y at hq hy
  unfold stV
  go_enter Tryd.func51, Tryd.ntmps51
  go_wp2
  go_ret
  exact ⟨y, rfl, hy.out, (Below.refl _ _).alloc (Nat.le_refl _) _⟩
end Go.Proofs.YtphcncgdodhlbaaDoor
namespace Go.Proofs.YtphcncgdodhlbaaDoor
set_option linter.unusedSimpArgs false
set_option linter.unusedVariables false
set_option maxRecDepth 100000
open Go.RowKit
set_option maxHeartbeats 400000 in
theorem placeOf_any (s : ByteArray) (i : Nat) (w : World) :
    Calls Tryd.prog 50 #[.string s, .int .i64 (i : Int)] w fun e w' => e = .returned (pcV (decide (i = 0)) (decide (i = s.data.toList.length))) ∧ Below w.heap.size w w' := by
  have h0 : ((i : Int) == 0) = decide (i = 0) := by
    by_cases h : i = 0
    · subst h; rfl
    · rw [decide_eq_false h, beq_eq_false_iff_ne]; omega
  have h1 : ((i : Int) == (s.size : Int)) = decide (i = s.data.toList.length) := by
    have : s.data.toList.length = s.size := by simp
    rw [this]
    by_cases h : i = s.size
    · subst h; simp
    · rw [decide_eq_false h, beq_eq_false_iff_ne]; omega
  generalize decide (i = 0) = fi at h0 ⊢
  generalize decide (i = s.data.toList.length) = la at h1 ⊢
  go_enter Tryd.func50, Tryd.ntmps50
  go_wp2
  have hh : (w.alloc (.cells #[.bool fi, .bool la] 116)).heap[w.heap.size]? = some (.cells #[.bool fi, .bool la] 116 (0, 0)) := heap_alloc_new w _
  have c0 := Lib.cell_of_heap hh 0
  have c1 := Lib.cell_of_heap hh 1
  refine bodyPost_ret (v := pcV fi la) (by simp [results, Tryd.results50, go_sem, c0, c1]) rfl ⟨rfl, ?_⟩
  exact (Below.refl _ _).alloc (Nat.le_refl _) _
end Go.Proofs.YtphcncgdodhlbaaDoor
