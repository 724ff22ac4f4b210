/- THOMPSON'S CONSTRUCTION: the program of a tree comes to its end just where the tree fits: plain mathematics. The program of a tree is one, and its ends are the tree's: plain mathematics. A program as an argument: opened. The program of a pattern as a value that may be: plain mathematics. class.with. class.Of. class.Of at one letter. -/
import Derived.Test.YtgnmlnfddcnkbaaDoorY04
import Derived.Test.YtgnmlnfddcnkbaaDoorY03
import Derived.Test.YtgnmlnfddcnkbaaDoorY02
import Derived.Lib.SmallJoins
import Derived.Test.YtgnmlnfddcnkbaaDoorY01
namespace Go.Proofs.YtgnmlnfddcnkbaaDoor
set_option linter.unusedSimpArgs false
set_option linter.unusedVariables false
set_option maxRecDepth 100000
open Go.RowKit

/-- One step of a run, from step k at place a. -/
def Stp (P : List St) (s : List UInt8) (k a k' a' : Nat) : Prop := ∃ n, P[k]? = some n ∧
  ((n.op = 1 ∧ k' = n.x.toNat ∧ a' = a + 1 ∧ ∃ c, s[a]? = some c ∧ n.c.has c.toNat = true) ∨ (n.op = 2 ∧ (k' = n.x.toNat ∨ k' = n.y.toNat) ∧ a' = a) ∨ (n.op = 3 ∧ k' = n.x.toNat ∧ a' = a ∧ a = 0) ∨ (n.op = 4 ∧ k' = n.x.toNat ∧ a' = a ∧ a = s.length))
/-- So many steps of a run. -/
inductive Pth (P : List St) (s : List UInt8) : Nat → Nat → Nat → Nat → Nat → Prop
  | nil (k a : Nat) : Pth P s 0 k a k a
  | cons (m k a k1 a1 k' a' : Nat) : Stp P s k a k1 a1 → Pth P s m k1 a1 k' a' → Pth P s (m + 1) k a k' a'
theorem Pth.trans {P : List St} {s : List UInt8} {m n k a k1 a1 k2 a2 : Nat} (h1 : Pth P s m k a k1 a1) (h2 : Pth P s n k1 a1 k2 a2) : Pth P s (m + n) k a k2 a2 := by
  induction h1 with
  | nil k a => rw [Nat.zero_add]; exact h2
  | cons m k a k3 a3 k' a' h _ ih =>
    rw [show m + 1 + n = m + n + 1 from by omega]
    exact .cons _ _ _ _ _ _ _ h (ih h2)
theorem Pth.one {P : List St} {s : List UInt8} {k a k1 a1 : Nat} (h : Stp P s k a k1 a1) : Pth P s 1 k a k1 a1 := .cons _ _ _ _ _ _ _ h (.nil _ _)
/-- The steps L stand in P from p on. -/
def Seg (P : List St) (p : Nat) (L : List St) : Prop := ∀ i n, L[i]? = some n → P[p + i]? = some n
theorem Seg.left {P : List St} {p : Nat} {A B : List St} (h : Seg P p (A ++ B)) : Seg P p A := fun i n hi => by
  refine h i n ?_
  have : i < A.length := by
    rcases Nat.lt_or_ge i A.length with h' | h'
    · exact h'
    · rw [List.getElem?_eq_none h'] at hi; cases hi
  rw [List.getElem?_append_left this]
  exact hi
theorem Seg.right {P : List St} {p : Nat} {A B : List St} (h : Seg P p (A ++ B)) : Seg P (p + A.length) B := fun i n hi => by
  have := h (A.length + i) n (by rw [List.getElem?_append_right (by omega)]; simpa using hi)
  rw [← this]
  congr 1
  omega
theorem Seg.head {P : List St} {p : Nat} {n : St} {B : List St} (h : Seg P p (n :: B)) : P[p]? = some n := h 0 n rfl
theorem Seg.tail {P : List St} {p : Nat} {n : St} {B : List St} (h : Seg P p (n :: B)) : Seg P (p + 1) B := Seg.right (A := [n]) h
theorem stp_fork {P : List St} {s : List UInt8} {k x y a : Nat} (h : P[k]? = some (stF x y)) : Stp P s k a x a ∧ Stp P s k a y a :=
  ⟨⟨_, h, Or.inr (Or.inl ⟨rfl, Or.inl (by simp), rfl⟩)⟩, ⟨_, h, Or.inr (Or.inl ⟨rfl, Or.inr (by simp), rfl⟩)⟩⟩
theorem fork_stp {P : List St} {s : List UInt8} {k x y a k' a' : Nat} (h : P[k]? = some (stF x y)) (hs : Stp P s k a k' a') : (k' = x ∨ k' = y) ∧ a' = a := by
  obtain ⟨n, hn, hc⟩ := hs
  rw [h] at hn
  obtain rfl := Option.some.inj hn
  rcases hc with ⟨h1, _⟩ | ⟨_, h2, h3⟩ | ⟨h1, _⟩ | ⟨h1, _⟩
  · simp at h1
  · exact ⟨by simpa using h2, h3⟩
  · simp at h1
  · simp at h1
/-- What fits is come to. -/
theorem fit_path (P : List St) (s : List UInt8) : ∀ (t : Rx), t.Ok → (∀ n ∈ t.flat, 1 ≤ n.op ∧ n.op ≤ 9) → ∀ (p i j : Nat), Seg P p (t.cod p) → Fit s t i j → ∃ m, Pth P s m p i (p + (t.cod p).length) j
  | .leaf n, hk, ho, p, i, j, hS, hF => by
    have hop := ho n (by simp [Rx.flat])
    have h0 : prt n.op = 0 := hk
    have h2 : ¬ prt n.op = 2 := by omega
    have h3 : ¬ prt n.op = 1 := by omega
    rw [prt_two] at h2
    rw [prt_one] at h3
    simp only [Rx.cod] at hS ⊢
    simp only [Fit] at hF
    by_cases h1 : n.op = 1
    · rw [if_pos h1] at hF
      simp only [if_pos h1] at hS ⊢
      obtain ⟨c, hc, hh, rfl⟩ := hF
      exact ⟨1, .one ⟨_, hS.head, Or.inl ⟨rfl, by simp, rfl, c, hc, hh⟩⟩⟩
    · rw [if_neg h1] at hF
      simp only [if_neg h1] at hS ⊢
      by_cases h8 : n.op = 8
      · rw [if_pos h8] at hF
        simp only [if_pos h8] at hS ⊢
        obtain ⟨rfl, rfl⟩ := hF
        exact ⟨1, .one ⟨_, hS.head, Or.inr (Or.inr (Or.inl ⟨rfl, by simp, rfl, rfl⟩))⟩⟩
      · rw [if_neg h8] at hF
        simp only [if_neg h8] at hS ⊢
        by_cases h9 : n.op = 9
        · rw [if_pos h9] at hF
          simp only [if_pos h9] at hS ⊢
          obtain ⟨rfl, rfl⟩ := hF
          exact ⟨1, .one ⟨_, hS.head, Or.inr (Or.inr (Or.inr ⟨rfl, by simp, rfl, rfl⟩))⟩⟩
        · rw [if_neg h9] at hF
          simp only [if_neg h9] at hS ⊢
          obtain ⟨rfl, _⟩ := hF
          exact ⟨0, .nil _ _⟩
  | .one n a, hk, ho, p, i, j, hS, hF => by
    have ih := fit_path P s a hk.2 (fun m hm => ho m (by simp [Rx.flat, hm]))
    simp only [Rx.cod] at hS ⊢
    simp only [Fit] at hF
    by_cases h5 : n.op = 5
    · rw [if_pos h5] at hF
      simp only [if_pos h5] at hS ⊢
      have hA := hS.tail.left
      have hE := hS.tail.right.head
      have hf1 := hS.head
      have loop : ∀ {i j : Nat}, Str s.length (Fit s a) i j → ∃ m, Pth P s m (p + 1 + (a.cod (p + 1)).length) i (p + 1 + (a.cod (p + 1)).length + 1) j := by
        intro i j hs
        induction hs with
        | nil i _ => exact ⟨1, .one (stp_fork hE).2⟩
        | cons i k j h1 _ ih2 =>
          obtain ⟨m1, p1⟩ := ih (p + 1) i k hA h1
          obtain ⟨m2, p2⟩ := ih2
          exact ⟨1 + m1 + m2, ((Pth.one (stp_fork hE).1).trans p1).trans p2⟩
      have e : p + (stF (p + 1) (p + 1 + (a.cod (p + 1)).length + 1) :: (a.cod (p + 1) ++ [stF (p + 1) (p + 1 + (a.cod (p + 1)).length + 1)])).length = p + 1 + (a.cod (p + 1)).length + 1 := by simp; omega
      rw [e]
      cases hF with
      | nil _ _ => exact ⟨1, .one (stp_fork hf1).2⟩
      | cons _ k _ h1 h2 =>
        obtain ⟨m1, p1⟩ := ih (p + 1) i k hA h1
        obtain ⟨m2, p2⟩ := loop h2
        exact ⟨1 + m1 + m2, ((Pth.one (stp_fork hf1).1).trans p1).trans p2⟩
    · rw [if_neg h5] at hF
      simp only [if_neg h5] at hS ⊢
      by_cases h6 : n.op = 6
      · rw [if_pos h6] at hF
        simp only [if_pos h6] at hS ⊢
        have hA := hS.left
        have hE := hS.right.head
        have loop : ∀ {i j : Nat}, Str s.length (Fit s a) i j → ∃ m, Pth P s m (p + (a.cod p).length) i (p + (a.cod p).length + 1) j := by
          intro i j hs
          induction hs with
          | nil i _ => exact ⟨1, .one (stp_fork hE).2⟩
          | cons i k j h1 _ ih2 =>
            obtain ⟨m1, p1⟩ := ih p i k hA h1
            obtain ⟨m2, p2⟩ := ih2
            exact ⟨1 + m1 + m2, ((Pth.one (stp_fork hE).1).trans p1).trans p2⟩
        obtain ⟨k, h1, h2⟩ := hF
        obtain ⟨m1, p1⟩ := ih p i k hA h1
        obtain ⟨m2, p2⟩ := loop h2
        rw [show p + (a.cod p ++ [stF p (p + (a.cod p).length + 1)]).length = p + (a.cod p).length + 1 from by simp; omega]
        exact ⟨m1 + m2, p1.trans p2⟩
      · rw [if_neg h6] at hF
        simp only [if_neg h6] at hS ⊢
        have hA := hS.tail
        have hf1 := hS.head
        rw [show p + (stF (p + 1) (p + 1 + (a.cod (p + 1)).length) :: a.cod (p + 1)).length = p + 1 + (a.cod (p + 1)).length from by simp; omega]
        rcases hF with ⟨rfl, _⟩ | h1
        · exact ⟨1, .one (stp_fork hf1).2⟩
        · obtain ⟨m1, p1⟩ := ih (p + 1) i j hA h1
          exact ⟨1 + m1, (Pth.one (stp_fork hf1).1).trans p1⟩
  | .two n a b, hk, ho, p, i, j, hS, hF => by
    have iha := fit_path P s a hk.2.1 (fun m hm => ho m (by simp [Rx.flat, hm]))
    have ihb := fit_path P s b hk.2.2 (fun m hm => ho m (by simp [Rx.flat, hm]))
    simp only [Rx.cod] at hS ⊢
    simp only [Fit] at hF
    by_cases h3 : n.op = 3
    · rw [if_pos h3] at hF
      simp only [if_pos h3] at hS ⊢
      obtain ⟨k, h1, h2⟩ := hF
      obtain ⟨m1, p1⟩ := iha p i k hS.left h1
      obtain ⟨m2, p2⟩ := ihb _ k j hS.right h2
      rw [List.length_append, ← Nat.add_assoc]
      exact ⟨m1 + m2, p1.trans p2⟩
    · rw [if_neg h3] at hF
      simp only [if_neg h3] at hS ⊢
      have hf1 := hS.head
      have hA := hS.tail.left
      have hf2 := hS.tail.right.head
      have hB := hS.tail.right.tail
      generalize hq : p + 1 + (a.cod (p + 1)).length + 1 = q at *
      rw [show p + (stF (p + 1) q :: (a.cod (p + 1) ++ stF (q + (b.cod q).length) (q + (b.cod q).length) :: b.cod q)).length = q + (b.cod q).length from by simp; omega]
      rcases hF with h1 | h1
      · obtain ⟨m1, p1⟩ := iha (p + 1) i j hA h1
        exact ⟨1 + m1 + 1, ((Pth.one (stp_fork hf1).1).trans p1).trans (.one (stp_fork hf2).1)⟩
      · obtain ⟨m1, p1⟩ := ihb q i j hB h1
        exact ⟨1 + m1, (Pth.one (stp_fork hf1).2).trans p1⟩
/-- From the beginning of a part whoever comes out of it comes to the step behind it, and the part fits what was between. -/
def Out (P : List St) (s : List UInt8) (t : Rx) (p : Nat) : Prop := ∀ (n i k a : Nat), i ≤ s.length → Pth P s n p i k a → (k < p ∨ p + (t.cod p).length ≤ k) → ∃ j m, m ≤ n ∧ Fit s t i j ∧ Pth P s m (p + (t.cod p).length) j k a
theorem out_loop {P : List St} {s : List UInt8} {t : Rx} {p : Nat} (h : Out P s t p) (hF : P[p + (t.cod p).length]? = some (stF p (p + (t.cod p).length + 1))) : ∀ (N n i k a : Nat), n ≤ N → i ≤ s.length → Pth P s n p i k a → (k < p ∨ p + (t.cod p).length + 1 ≤ k) → ∃ j m, m ≤ n ∧ (∃ q, Fit s t i q ∧ Str s.length (Fit s t) q j) ∧ Pth P s m (p + (t.cod p).length + 1) j k a := by
  intro N
  induction N with
  | zero =>
    intro n i k a hn hi hp hout
    obtain ⟨j, m, hm, hf, hq⟩ := h n i k a hi hp (by omega)
    have : m = 0 := by omega
    subst this
    cases hq
    omega
  | succ N ih =>
    intro n i k a hn hi hp hout
    obtain ⟨j, m, hm, hf, hq⟩ := h n i k a hi hp (by omega)
    have hj := (fit_le s t i j hf).2
    cases hq with
    | nil => omega
    | cons m _ _ k1 a1 _ _ hs hr =>
      obtain ⟨hk, ha1⟩ := fork_stp hF hs
      rw [ha1] at hr
      rcases hk with rfl | rfl
      · obtain ⟨j2, m2, hm2, ⟨q, hq1, hq2⟩, hq3⟩ := ih m j k a (by omega) hj hr hout
        exact ⟨j2, m2, by omega, ⟨j, hf, .cons _ _ _ hq1 hq2⟩, hq3⟩
      · exact ⟨j, m, by omega, ⟨j, hf, .nil _ hj⟩, hr⟩
/-- Who comes out of a part has fitted it. -/
theorem path_fit (P : List St) (s : List UInt8) : ∀ (t : Rx), t.Ok → (∀ n ∈ t.flat, 1 ≤ n.op ∧ n.op ≤ 9) → ∀ (p : Nat), Seg P p (t.cod p) → Out P s t p
  | .leaf n, hk, ho, p, hS => by
    intro m i k a hi hp hout
    simp only [Rx.cod] at hS hout ⊢
    simp only [Fit]
    by_cases h1 : n.op = 1
    · simp only [if_pos h1] at hS hout ⊢
      cases hp with
      | nil => simp at hout; omega
      | cons m _ _ k1 a1 _ _ hs hr =>
        obtain ⟨x, hx, hc⟩ := hs
        rw [hS.head] at hx
        obtain rfl := Option.some.inj hx
        rcases hc with ⟨_, h2, h3, h4⟩ | ⟨h2, _⟩ | ⟨h2, _⟩ | ⟨h2, _⟩
        · subst h3
          obtain ⟨c, hc, hh⟩ := h4
          refine ⟨i + 1, m, by omega, ⟨c, hc, hh, rfl⟩, ?_⟩
          rw [show (k1 : Nat) = p + 1 from by simpa using h2] at hr
          simpa using hr
        · simp at h2
        · simp at h2
        · simp at h2
    · simp only [if_neg h1] at hS hout ⊢
      by_cases h8 : n.op = 8
      · simp only [if_pos h8] at hS hout ⊢
        cases hp with
        | nil => simp at hout; omega
        | cons m _ _ k1 a1 _ _ hs hr =>
          obtain ⟨x, hx, hc⟩ := hs
          rw [hS.head] at hx
          obtain rfl := Option.some.inj hx
          rcases hc with ⟨h2, _⟩ | ⟨h2, _⟩ | ⟨_, h2, h3, h4⟩ | ⟨h2, _⟩
          · simp at h2
          · simp at h2
          · subst h3
            refine ⟨a1, m, by omega, ⟨h4, h4⟩, ?_⟩
            rw [show (k1 : Nat) = p + 1 from by simpa using h2] at hr
            simpa using hr
          · simp at h2
      · simp only [if_neg h8] at hS hout ⊢
        by_cases h9 : n.op = 9
        · simp only [if_pos h9] at hS hout ⊢
          cases hp with
          | nil => simp at hout; omega
          | cons m _ _ k1 a1 _ _ hs hr =>
            obtain ⟨x, hx, hc⟩ := hs
            rw [hS.head] at hx
            obtain rfl := Option.some.inj hx
            rcases hc with ⟨h2, _⟩ | ⟨h2, _⟩ | ⟨h2, _⟩ | ⟨_, h2, h3, h4⟩
            · simp at h2
            · simp at h2
            · simp at h2
            · subst h3
              refine ⟨a1, m, by omega, ⟨h4, h4⟩, ?_⟩
              rw [show (k1 : Nat) = p + 1 from by simpa using h2] at hr
              simpa using hr
        · simp only [if_neg h9] at hS hout ⊢
          exact ⟨i, m, Nat.le_refl _, ⟨rfl, hi⟩, by simpa using hp⟩
  | .one n t, hk, ho, p, hS => by
    have ih := path_fit P s t hk.2 (fun m hm => ho m (by simp [Rx.flat, hm]))
    intro m i k a hi hp hout
    simp only [Rx.cod] at hS hout ⊢
    simp only [Fit]
    by_cases h5 : n.op = 5
    · simp only [if_pos h5] at hS hout ⊢
      have hA := hS.tail.left
      have hE := hS.tail.right.head
      have hf1 := hS.head
      have e : p + (stF (p + 1) (p + 1 + (t.cod (p + 1)).length + 1) :: (t.cod (p + 1) ++ [stF (p + 1) (p + 1 + (t.cod (p + 1)).length + 1)])).length = p + 1 + (t.cod (p + 1)).length + 1 := by simp; omega
      rw [e] at hout ⊢
      cases hp with
      | nil => omega
      | cons m _ _ k1 a1 _ _ hs hr =>
        obtain ⟨hk1, ha1⟩ := fork_stp hf1 hs
        rw [ha1] at hr
        rcases hk1 with rfl | rfl
        · obtain ⟨j, m2, hm2, ⟨q, h1, h2⟩, h3⟩ := out_loop (ih (p + 1) hA) hE m m i k a (Nat.le_refl _) hi hr (by omega)
          exact ⟨j, m2, by omega, .cons _ _ _ h1 h2, h3⟩
        · exact ⟨i, m, by omega, .nil _ hi, hr⟩
    · simp only [if_neg h5] at hS hout ⊢
      by_cases h6 : n.op = 6
      · simp only [if_pos h6] at hS hout ⊢
        have hA := hS.left
        have hE := hS.right.head
        have e : p + (t.cod p ++ [stF p (p + (t.cod p).length + 1)]).length = p + (t.cod p).length + 1 := by simp; omega
        rw [e] at hout ⊢
        obtain ⟨j, m2, hm2, h1, h3⟩ := out_loop (ih p hA) hE m m i k a (Nat.le_refl _) hi hp hout
        exact ⟨j, m2, hm2, h1, h3⟩
      · simp only [if_neg h6] at hS hout ⊢
        have hA := hS.tail
        have hf1 := hS.head
        have e : p + (stF (p + 1) (p + 1 + (t.cod (p + 1)).length) :: t.cod (p + 1)).length = p + 1 + (t.cod (p + 1)).length := by simp; omega
        rw [e] at hout ⊢
        cases hp with
        | nil => omega
        | cons m _ _ k1 a1 _ _ hs hr =>
          obtain ⟨hk1, ha1⟩ := fork_stp hf1 hs
          rw [ha1] at hr
          rcases hk1 with rfl | rfl
          · obtain ⟨j, m2, hm2, h1, h3⟩ := ih (p + 1) hA m i k a hi hr (by omega)
            exact ⟨j, m2, by omega, Or.inr h1, h3⟩
          · exact ⟨i, m, by omega, Or.inl ⟨rfl, hi⟩, hr⟩
  | .two n t u, hk, ho, p, hS => by
    have iha := path_fit P s t hk.2.1 (fun m hm => ho m (by simp [Rx.flat, hm]))
    have ihb := path_fit P s u hk.2.2 (fun m hm => ho m (by simp [Rx.flat, hm]))
    intro m i k a hi hp hout
    simp only [Rx.cod] at hS hout ⊢
    simp only [Fit]
    by_cases h3 : n.op = 3
    · simp only [if_pos h3] at hS hout ⊢
      rw [List.length_append, ← Nat.add_assoc] at hout ⊢
      obtain ⟨j1, m1, hm1, hf1, hp1⟩ := iha p hS.left m i k a hi hp (by omega)
      obtain ⟨j2, m2, hm2, hf2, hp2⟩ := ihb _ hS.right m1 j1 k a (fit_le s t i j1 hf1).2 hp1 (by omega)
      exact ⟨j2, m2, by omega, ⟨j1, hf1, hf2⟩, hp2⟩
    · simp only [if_neg h3] at hS hout ⊢
      have hf1 := hS.head
      have hA := hS.tail.left
      have hf2 := hS.tail.right.head
      have hB := hS.tail.right.tail
      generalize hq : p + 1 + (t.cod (p + 1)).length + 1 = q at *
      rw [show p + (stF (p + 1) q :: (t.cod (p + 1) ++ stF (q + (u.cod q).length) (q + (u.cod q).length) :: u.cod q)).length = q + (u.cod q).length from by simp; omega] at hout ⊢
      cases hp with
      | nil => omega
      | cons m _ _ k1 a1 _ _ hs hr =>
        obtain ⟨hk1, ha1⟩ := fork_stp hf1 hs
        rw [ha1] at hr
        rcases hk1 with rfl | rfl
        · obtain ⟨j1, m1, hm1, hfa, hp1⟩ := iha (p + 1) hA m i k a hi hr (by omega)
          cases hp1 with
          | nil => omega
          | cons m1 _ _ k2 a2 _ _ hs2 hr2 =>
            obtain ⟨hk2, ha1⟩ := fork_stp hf2 hs2
            rw [ha1] at hr2
            rcases hk2 with rfl | rfl <;> exact ⟨j1, m1, by omega, Or.inl hfa, hr2⟩
        · obtain ⟨j1, m1, hm1, hfb, hp1⟩ := ihb _ hB m i k a hi hr (by omega)
          exact ⟨j1, m1, by omega, Or.inr hfb, hp1⟩
end Go.Proofs.YtgnmlnfddcnkbaaDoor
namespace Go.Proofs.YtgnmlnfddcnkbaaDoor
set_option linter.unusedSimpArgs false
set_option linter.unusedVariables false
set_option maxRecDepth 100000
open Go.RowKit
/-- What may be of a step of a part that ends at step e. -/
def StOk (e : Nat) (n : St) : Prop := (1 ≤ n.op ∧ n.op ≤ 4) ∧ (0 ≤ n.x ∧ n.x ≤ (e : Int)) ∧ (0 ≤ n.y ∧ n.y ≤ (e : Int)) ∧ (n.op ≠ 2 → n.y = 0) ∧ (n.op ≠ 1 → n.c = z4)
theorem StOk.mono {e f : Nat} {n : St} (h : StOk e n) (hf : e ≤ f) : StOk f n := by
  obtain ⟨h1, h2, h3, h4, h5⟩ := h
  exact ⟨h1, ⟨h2.1, by omega⟩, ⟨h3.1, by omega⟩, h4, h5⟩
theorem stF_ok {e x y : Nat} (hx : x ≤ e) (hy : y ≤ e) : StOk e (stF x y) := ⟨by simp, by simp; omega, by simp; omega, by simp, by simp⟩
theorem cod_ok : ∀ (t : Rx) (p : Nat), ∀ n ∈ t.cod p, StOk (p + (t.cod p).length) n
  | .leaf m, p => by
    intro n hn
    simp only [Rx.cod] at hn ⊢
    split at hn
    · simp at hn; subst hn; rename_i h; simp [h]; exact ⟨by simp, by simp; omega, by simp; omega, by simp, by simp⟩
    · rename_i h1
      split at hn
      · simp at hn; subst hn; rename_i h; simp [h]; exact ⟨by simp, by simp; omega, by simp; omega, by simp, by simp⟩
      · rename_i h8
        split at hn
        · simp at hn; subst hn; rename_i h; simp [h]; exact ⟨by simp, by simp; omega, by simp; omega, by simp, by simp⟩
        · cases hn
  | .one m a, p => by
    intro n hn
    have h1 := cod_ok a p
    have h2 := cod_ok a (p + 1)
    simp only [Rx.cod] at hn ⊢
    split at hn
    · rename_i h
      rw [if_pos h]
      simp only [List.length_cons, List.length_append, List.length_nil]
      simp only [List.mem_cons, List.mem_append, List.not_mem_nil, or_false] at hn
      rcases hn with rfl | hn | rfl
      · exact stF_ok (by omega) (by omega)
      · exact (h2 n hn).mono (by omega)
      · exact stF_ok (by omega) (by omega)
    · rename_i h
      rw [if_neg h]
      split at hn
      · rename_i h6
        rw [if_pos h6]
        simp only [List.length_cons, List.length_append, List.length_nil]
        simp only [List.mem_cons, List.mem_append, List.not_mem_nil, or_false] at hn
        rcases hn with hn | rfl
        · exact (h1 n hn).mono (by omega)
        · exact stF_ok (by omega) (by omega)
      · rename_i h6
        rw [if_neg h6]
        simp only [List.length_cons]
        simp only [List.mem_cons] at hn
        rcases hn with rfl | hn
        · exact stF_ok (by omega) (by omega)
        · exact (h2 n hn).mono (by omega)
  | .two m a b, p => by
    intro n hn
    have h1 := cod_ok a p
    have h2 := cod_ok a (p + 1)
    have h3 := cod_ok b (p + (a.cod p).length)
    have h4 := cod_ok b (p + 1 + (a.cod (p + 1)).length + 1)
    simp only [Rx.cod] at hn ⊢
    split at hn
    · rename_i h
      rw [if_pos h, List.length_append]
      rcases List.mem_append.1 hn with hn | hn
      · exact (h1 n hn).mono (by omega)
      · exact (h3 n hn).mono (by omega)
    · rename_i h
      rw [if_neg h]
      simp only [List.length_cons, List.length_append]
      simp only [List.mem_cons, List.mem_append] at hn
      rcases hn with rfl | hn | rfl | hn
      · exact stF_ok (by omega) (by omega)
      · exact (h2 n hn).mono (by omega)
      · exact stF_ok (by omega) (by omega)
      · exact (h4 n hn).mono (by omega)
theorem prog_len (t : Rx) : t.prog.length = (t.cod 0).length + 1 := by simp [Rx.prog]
theorem stScan_of (N : Nat) : ∀ (l : List St), (∀ n ∈ l, stBad N n = 0) → stScan N l = 0
  | [], _ => rfl
  | a :: r, h => by rw [stScan, if_pos (h a (by simp))]; exact stScan_of N r (fun n hn => h n (by simp [hn]))
theorem z4_eqb : z4.eqb z4 = true := by decide
/-- The program of a valid pattern is one. -/
theorem prog_fault (t : Rx) (hl : t.flat.length ≤ 60) : stepsF t.prog = 0 := by
  have hc := t.cod_len 0
  have hp := prog_len t
  unfold stepsF
  rw [if_neg (by omega), if_neg (by omega)]
  refine stScan_of _ _ fun n hn => ?_
  unfold Rx.prog at hn
  rcases List.mem_append.1 hn with hn | hn
  · obtain ⟨h1, h2, h3, h4, h5⟩ := cod_ok t 0 n hn
    refine stBad_ok ?_ ?_
    · unfold stRange
      omega
    · rintro (⟨ha, hb⟩ | ⟨ha, hb⟩ | ⟨ha, hb⟩)
      · rw [h5 ha] at hb
        exact hb z4_eqb
      · exact hb (h4 ha)
      · omega
  · rw [List.mem_singleton] at hn
    subst hn
    refine stBad_ok ?_ ?_
    · unfold stRange
      simp
    · rintro (⟨ha, hb⟩ | ⟨ha, hb⟩ | ⟨ha, hb⟩)
      · exact hb z4_eqb
      · exact hb rfl
      · exact hb rfl
theorem prog_seg (t : Rx) : Seg t.prog 0 (t.cod 0) := by
  have : Seg t.prog 0 t.prog := fun i n hi => by rw [Nat.zero_add]; exact hi
  exact this.left
theorem prog_done (t : Rx) : t.prog[(t.cod 0).length]? = some stD := by simp [Rx.prog]
theorem prog_five (t : Rx) {k : Nat} {n : St} (h : t.prog[k]? = some n) (h5 : n.op = 5) : k = (t.cod 0).length := by
  rcases Nat.lt_trichotomy k (t.cod 0).length with hk | hk | hk
  · unfold Rx.prog at h
    rw [List.getElem?_append_left hk] at h
    have := (cod_ok t 0 n (List.mem_of_getElem? h)).1
    omega
  · exact hk
  · rw [List.getElem?_eq_none (by rw [prog_len]; omega)] at h
    cases h
/-- Spots and steps. -/
theorem spot_div {N k a : Nat} (ha : a < N) : (k * N + a) / N = k ∧ (k * N + a) % N = a := by
  have hN : 0 < N := by omega
  refine ⟨?_, ?_⟩
  · rw [Nat.mul_comm, Nat.mul_add_div hN, Nat.div_eq_of_lt ha, Nat.add_zero]
  · rw [Nat.mul_comm, Nat.mul_add_mod, Nat.mod_eq_of_lt ha]
theorem nx_stp (ss : List St) (s : List UInt8) {k a q' : Nat} (ha : a ≤ s.length) : q' ∈ nx ss s (k * (s.length + 1) + a) ↔ ∃ k' a', Stp ss s k a k' a' ∧ a' ≤ s.length ∧ q' = k' * (s.length + 1) + a' := by
  obtain ⟨hd, hm⟩ := spot_div (N := s.length + 1) (k := k) (a := a) (by omega)
  unfold nx Stp
  rw [hd, hm]
  cases hn : ss[k]? with
  | none => simp
  | some n =>
    simp only [Option.some.injEq, exists_eq_left']
    by_cases h1 : n.op = 1
    · rw [if_pos h1]
      have e : ∀ k' a', ((n.op = 1 ∧ k' = n.x.toNat ∧ a' = a + 1 ∧ ∃ c, s[a]? = some c ∧ n.c.has c.toNat = true) ∨ (n.op = 2 ∧ (k' = n.x.toNat ∨ k' = n.y.toNat) ∧ a' = a) ∨ (n.op = 3 ∧ k' = n.x.toNat ∧ a' = a ∧ a = 0) ∨ (n.op = 4 ∧ k' = n.x.toNat ∧ a' = a ∧ a = s.length)) ↔ (k' = n.x.toNat ∧ a' = a + 1 ∧ ∃ c, s[a]? = some c ∧ n.c.has c.toNat = true) := by
        intro k' a'
        constructor
        · rintro (⟨_, h⟩ | ⟨h, _⟩ | ⟨h, _⟩ | ⟨h, _⟩)
          · exact h
          · omega
          · omega
          · omega
        · intro h
          exact Or.inl ⟨h1, h⟩
      simp only [e]
      cases hc : s[a]? with
      | none => simp
      | some c =>
        have hlt : a < s.length := by
          rcases Nat.lt_or_ge a s.length with h' | h'
          · exact h'
          · rw [List.getElem?_eq_none h'] at hc; cases hc
        simp only [Option.some.injEq, exists_eq_left']
        by_cases hh : n.c.has c.toNat = true
        · rw [if_pos hh, List.mem_singleton]
          constructor
          · rintro rfl
            exact ⟨_, _, ⟨rfl, rfl, hh⟩, by omega, by omega⟩
          · rintro ⟨k', a', ⟨rfl, rfl, _⟩, _, rfl⟩
            omega
        · rw [if_neg hh]
          constructor
          · intro h; cases h
          · rintro ⟨k', a', ⟨_, _, h⟩, _⟩
            exact absurd h hh
    · rw [if_neg h1]
      by_cases h2 : n.op = 2
      · rw [if_pos h2, List.mem_cons, List.mem_singleton]
        constructor
        · rintro (rfl | rfl)
          · exact ⟨_, _, Or.inr (Or.inl ⟨h2, Or.inl rfl, rfl⟩), ha, rfl⟩
          · exact ⟨_, _, Or.inr (Or.inl ⟨h2, Or.inr rfl, rfl⟩), ha, rfl⟩
        · rintro ⟨k', a', h | ⟨_, h, rfl⟩ | h | h, _, rfl⟩
          · exact absurd h.1 h1
          · rcases h with rfl | rfl
            · exact Or.inl rfl
            · exact Or.inr rfl
          · have := h.1; omega
          · have := h.1; omega
      · rw [if_neg h2]
        by_cases h3 : n.op = 3
        · rw [if_pos h3]
          by_cases h0 : a = 0
          · rw [if_pos h0, List.mem_singleton]
            constructor
            · rintro rfl
              exact ⟨_, _, Or.inr (Or.inr (Or.inl ⟨h3, rfl, rfl, h0⟩)), ha, rfl⟩
            · rintro ⟨k', a', h | h | ⟨_, rfl, rfl, _⟩ | h, _, rfl⟩
              · exact absurd h.1 h1
              · exact absurd h.1 h2
              · rfl
              · have := h.1; omega
          · rw [if_neg h0]
            constructor
            · intro h; cases h
            · rintro ⟨k', a', h | h | ⟨_, _, _, h⟩ | h, _⟩
              · exact absurd h.1 h1
              · exact absurd h.1 h2
              · exact absurd h h0
              · have := h.1; omega
        · rw [if_neg h3]
          by_cases h4 : n.op = 4
          · rw [if_pos h4]
            by_cases h0 : a = s.length
            · rw [if_pos h0, List.mem_singleton]
              constructor
              · rintro rfl
                exact ⟨_, _, Or.inr (Or.inr (Or.inr ⟨h4, rfl, rfl, h0⟩)), ha, rfl⟩
              · rintro ⟨k', a', h | h | h | ⟨_, rfl, rfl, _⟩, _, rfl⟩
                · exact absurd h.1 h1
                · exact absurd h.1 h2
                · exact absurd h.1 h3
                · rfl
            · rw [if_neg h0]
              constructor
              · intro h; cases h
              · rintro ⟨k', a', h | h | h | ⟨_, _, _, h⟩, _⟩
                · exact absurd h.1 h1
                · exact absurd h.1 h2
                · exact absurd h.1 h3
                · exact absurd h h0
          · rw [if_neg h4]
            constructor
            · intro h; cases h
            · rintro ⟨k', a', h | h | h | h, _⟩
              · exact absurd h.1 h1
              · exact absurd h.1 h2
              · exact absurd h.1 h3
              · exact absurd h.1 h4
theorem rch_pth (ss : List St) (s : List UInt8) {i q : Nat} (hi : i ≤ s.length) (h : Rch ss s i q) : ∃ n k a, a ≤ s.length ∧ q = k * (s.length + 1) + a ∧ Pth ss s n 0 i k a := by
  induction h with
  | base => exact ⟨0, 0, i, hi, by simp, .nil _ _⟩
  | step q q' _ hn ih =>
    obtain ⟨n, k, a, ha, rfl, hp⟩ := ih
    obtain ⟨k', a', hs, ha', rfl⟩ := (nx_stp ss s ha).1 hn
    exact ⟨n + 1, k', a', ha', rfl, hp.trans (.one hs)⟩
theorem stp_le {ss : List St} {s : List UInt8} {k a k' a' : Nat} (ha : a ≤ s.length) (h : Stp ss s k a k' a') : a' ≤ s.length := by
  obtain ⟨n, _, ⟨_, _, h2, c, hc, _⟩ | ⟨_, _, h2⟩ | ⟨_, _, h2, _⟩ | ⟨_, _, h2, _⟩⟩ := h
  · have hlt : a < s.length := by
      rcases Nat.lt_or_ge a s.length with h' | h'
      · exact h'
      · rw [List.getElem?_eq_none h'] at hc; cases hc
    omega
  · omega
  · omega
  · omega
theorem pth_rch {ss : List St} {s : List UInt8} {q0 n k a k' a' : Nat} (h : Pth ss s n k a k' a') : a ≤ s.length → Rch ss s q0 (k * (s.length + 1) + a) → a' ≤ s.length ∧ Rch ss s q0 (k' * (s.length + 1) + a') := by
  induction h with
  | nil k a => exact fun h1 h2 => ⟨h1, h2⟩
  | cons m k a k1 a1 k' a' hs _ ih =>
    intro h1 h2
    have h3 := stp_le h1 hs
    exact ih h3 (.step _ _ h2 ((nx_stp ss s h1).2 ⟨k1, a1, hs, h3, rfl⟩))
/-- THE PROGRAM FITS WHAT THE PATTERN FITS. -/
theorem run_fit (t : Rx) (ht : t.Ok) (ho : ∀ n ∈ t.flat, 1 ≤ n.op ∧ n.op ≤ 9) (s : List UInt8) (i j : Nat) (hi : i ≤ s.length) : (∃ q, Rch t.prog s i q ∧ dn t.prog s q = true ∧ q % (s.length + 1) = j) ↔ Fit s t i j := by
  constructor
  · rintro ⟨q, hq, hd, rfl⟩
    obtain ⟨n, k, a, ha, rfl, hp⟩ := rch_pth t.prog s hi hq
    obtain ⟨h1, h2⟩ := spot_div (N := s.length + 1) (k := k) (a := a) (by omega)
    unfold dn at hd
    rw [h1] at hd
    rw [h2]
    cases hn : t.prog[k]? with
    | none => rw [hn] at hd; cases hd
    | some x =>
      rw [hn] at hd
      have hk := prog_five t hn (by simpa using hd)
      subst hk
      obtain ⟨j, m, _, hf, hr⟩ := path_fit t.prog s t ht ho 0 (prog_seg t) n i _ a hi hp (by omega)
      rw [Nat.zero_add] at hr
      cases hr with
      | nil => exact hf
      | cons m _ _ k1 a1 _ _ hs _ =>
        obtain ⟨y, hy, hc⟩ := hs
        rw [prog_done] at hy
        obtain rfl := Option.some.inj hy
        rcases hc with ⟨h, _⟩ | ⟨h, _⟩ | ⟨h, _⟩ | ⟨h, _⟩ <;> simp at h
  · intro hf
    have hj := (fit_le s t i j hf).2
    obtain ⟨m, hp⟩ := fit_path t.prog s t ht ho 0 i j (prog_seg t) hf
    rw [Nat.zero_add] at hp
    obtain ⟨_, hr⟩ := pth_rch (q0 := i) hp hi (by rw [Nat.zero_mul, Nat.zero_add]; exact .base)
    obtain ⟨h1, h2⟩ := spot_div (N := s.length + 1) (k := (t.cod 0).length) (a := j) (by omega)
    refine ⟨_, hr, ?_, h2⟩
    unfold dn
    rw [h1, prog_done]
    rfl
theorem run_ends (t : Rx) (ht : t.Ok) (ho : ∀ n ∈ t.flat, 1 ≤ n.op ∧ n.op ≤ 9) (s : List UInt8) (i : Nat) (hi : i ≤ s.length) (l : List Nat) : RunR t.prog s i l ↔ EndsR s t i l := by
  unfold RunR EndsR
  simp only [run_fit t ht ho s i _ hi]
end Go.Proofs.YtgnmlnfddcnkbaaDoor
namespace Go.Proofs.YtgnmlnfddcnkbaaDoor
set_option linter.unusedSimpArgs false
set_option linter.unusedVariables false
set_option maxRecDepth 100000
open Go.ChangeShapes Go.WideShapes Go.ChangeAt Go.RowKit Go.Deep Go.Joins

theorem cellsStep : Tryd.prog.cellsOf 52 = 7 := by kernel_rfl
def St.wf (n : St) : Prop := (Lit.int .i64 n.op).wf = true ∧ n.c.wf ∧ (Lit.int .i64 n.x).wf = true ∧ (Lit.int .i64 n.y).wf = true
instance : Inhabited St := ⟨⟨0, ⟨0, 0, 0, 0⟩, 0, 0⟩⟩
def St.cells (n : St) : List Value := [.int .i64 n.op, .int .u64 n.c.a, .int .u64 n.c.b, .int .u64 n.c.c, .int .u64 n.c.d, .int .i64 n.x, .int .i64 n.y]
theorem open_step {H : Type} {enc : TypeId × Value → H} {W : World} {base : Nat} {sp : Nat → Bool} {held : Bool} {fuel : Nat} {cs : List Value} {x : DataW H × List MemPlace}
    (h : DataW.trod enc Tryd.prog W base sp held fuel 52 cs = some x) : ∃ n : St, cs = n.cells ∧ n.wf := by
  obtain ⟨y0, y1, y2, y3, k, hxy, hl, u0, u1, u2, u3⟩ := trod_struct4 Tryd.underlying52 h
  rw [cellsStep] at hl
  match cs, hl with
  | [c0, c1, c2, c3, c4, c5, c6], _ =>
    simp only [cellsInt, cellsClass, List.drop, List.take] at u0 u1 u2 u3
    obtain ⟨q, e0, d0, w⟩ := DataW.trod_int Tryd.underlying3 u0
    obtain ⟨z0, z1, z2, z3, m, hx, hy0, hy1, hy2, hy3⟩ := trod_array4 Tryd.underlying30 cellsWord u1
    obtain ⟨x0, e1, _, w0⟩ := DataW.trod_int Tryd.underlying28 hy0
    obtain ⟨x1, e2, _, w1⟩ := DataW.trod_int Tryd.underlying28 hy1
    obtain ⟨x2, e3, _, w2⟩ := DataW.trod_int Tryd.underlying28 hy2
    obtain ⟨x3, e4, _, w3⟩ := DataW.trod_int Tryd.underlying28 hy3
    obtain ⟨px, e5, _, wx⟩ := DataW.trod_int Tryd.underlying3 u2
    obtain ⟨py, e6, _, wy⟩ := DataW.trod_int Tryd.underlying3 u3
    simp only [List.cons.injEq, and_true] at e0 e1 e2 e3 e4 e5 e6
    subst e0 e1 e2 e3 e4 e5 e6
    exact ⟨⟨q, ⟨x0, x1, x2, x3⟩, px, py⟩, rfl, w, ⟨w0, w1, w2, w3⟩, wx, wy⟩
theorem open_steps {H : Type} {enc : TypeId × Value → H} {W : World} {base : Nat} {sp : Nat → Bool} {held : Bool} {v : Value} {d : DataW H} {p : List MemPlace}
    (hval : Value.okWide Tryd.prog W .any base 23 v) (h : DataW.Trod enc Tryd.prog W 0 sp held 23 v d p) : ∃ ss : List St, SsIn W v ss ∧ ∀ n ∈ ss, n.wf := by
  obtain ⟨a0, len0, cap0, rfl⟩ := okWide_slice Tryd.underlying23 hval
  obtain ⟨fuel, hf⟩ := h
  rcases open_slice Tryd.underlying23 hf with ⟨hc, _⟩ | ⟨a, len, cap, m, n, D, Pl, hc, hb, hl, hm, hmm, _, hx⟩
  · simp [Value.cells] at hc
    obtain ⟨rfl, rfl, rfl⟩ := hc
    exact ⟨[], ⟨none, 0, rfl, by simp, Or.inl rfl⟩, by simp⟩
  · simp [Value.cells] at hc
    obtain ⟨rfl, rfl, rfl⟩ := hc
    have hlm : len0 ≤ m := by rw [hmm]; split <;> omega
    have each : ∀ i, i < len0 → ∃ n : St, W.cells? 0 (a.add (i * 7)) 7 = some n.cells ∧ n.wf := by
      intro i hi
      obtain ⟨cs', h1, h2⟩ := hx i (by omega)
      rw [cellsStep] at h1
      obtain ⟨n, rfl, hw⟩ := open_step h2
      exact ⟨n, h1, hw⟩
    obtain ⟨q, hq⟩ := choose_lt each
    refine ⟨(List.range len0).map q, ⟨some a, cap0, by simp, by simp; omega, ?_⟩, ?_⟩
    · rcases Nat.eq_zero_or_pos len0 with h0 | h0
      · subst h0; exact Or.inl rfl
      right
      obtain ⟨b, off, spot⟩ := a
      have cells : ∀ i, i < len0 → ∀ j, j < 7 → W.cell? ((⟨b, off, spot⟩ : Addr).add (i * 7 + j)) = (q i).cells[j]? := by
        intro i hi j hj
        obtain ⟨_, _, hcell⟩ := World.cells?_some (hq i hi).1
        have := hcell j hj
        rwa [add_add] at this
      have hspot : spot = none := by
        have := cells 0 h0 0 (by omega)
        simpa [Addr.add, St.cells] using World.cell?_spot this
      subst hspot
      have plain : ∀ k, (⟨b, off, none⟩ : Addr).add k = ⟨b, off + k, none⟩ := by
        intro k
        rcases k with _ | k <;> simp [Addr.add]
      refine ⟨b, off, rfl, ?_, ?_⟩
      · have := cells 0 h0 0 (by omega)
        rw [plain] at this
        rcases Nat.lt_or_ge b W.heap.size with h' | h'
        · exact h'
        · simp [World.cell?, Array.getElem?_eq_none h', St.cells] at this
      · intro i n hn
        have hi : i < len0 := by
          rcases Nat.lt_or_ge i len0 with h' | h'
          · exact h'
          · simp [h'] at hn
        have en : q i = n := by simpa [hi] using hn
        subst en
        have c := cells i hi
        refine ⟨?_, ?_, ?_, ?_, ?_, ?_, ?_⟩
        · have := c 0 (by omega); rw [plain] at this; simpa [Nat.add_assoc, St.cells] using this
        · have := c 1 (by omega); rw [plain] at this; simpa [Nat.add_assoc, St.cells] using this
        · have := c 2 (by omega); rw [plain] at this; simpa [Nat.add_assoc, St.cells] using this
        · have := c 3 (by omega); rw [plain] at this; simpa [Nat.add_assoc, St.cells] using this
        · have := c 4 (by omega); rw [plain] at this; simpa [Nat.add_assoc, St.cells] using this
        · have := c 5 (by omega); rw [plain] at this; simpa [Nat.add_assoc, St.cells] using this
        · have := c 6 (by omega); rw [plain] at this; simpa [Nat.add_assoc, St.cells] using this
    · intro n hn
      obtain ⟨i, hi, rfl⟩ := List.mem_map.1 hn
      exact (hq i (List.mem_range.1 hi)).2
end Go.Proofs.YtgnmlnfddcnkbaaDoor
namespace Go.Proofs.YtgnmlnfddcnkbaaDoor
set_option linter.unusedSimpArgs false
set_option linter.unusedVariables false
set_option maxRecDepth 100000
open Go.RowKit
theorem cod_cls : ∀ (t : Rx) (p : Nat), ∀ m ∈ t.cod p, m.c = z4 ∨ ∃ n ∈ t.flat, m.c = n.c
  | .leaf n, p => by
    intro m hm
    simp only [Rx.cod] at hm
    split at hm
    · simp at hm; subst hm; exact Or.inr ⟨n, by simp [Rx.flat], rfl⟩
    · split at hm
      · simp at hm; subst hm; exact Or.inl rfl
      · split at hm
        · simp at hm; subst hm; exact Or.inl rfl
        · cases hm
  | .one n a, p => by
    intro m hm
    have h : ∀ q, m ∈ a.cod q → m.c = z4 ∨ ∃ n' ∈ (Rx.one n a).flat, m.c = n'.c := fun q hq => by
      rcases cod_cls a q m hq with h | ⟨n', h1, h2⟩
      · exact Or.inl h
      · exact Or.inr ⟨n', by simp [Rx.flat, h1], h2⟩
    simp only [Rx.cod] at hm
    split at hm
    · simp only [List.mem_cons, List.mem_append, List.not_mem_nil, or_false] at hm
      rcases hm with rfl | hm | rfl
      · exact Or.inl rfl
      · exact h _ hm
      · exact Or.inl rfl
    · split at hm
      · simp only [List.mem_cons, List.mem_append, List.not_mem_nil, or_false] at hm
        rcases hm with hm | rfl
        · exact h _ hm
        · exact Or.inl rfl
      · simp only [List.mem_cons] at hm
        rcases hm with rfl | hm
        · exact Or.inl rfl
        · exact h _ hm
  | .two n a b, p => by
    intro m hm
    have ha : ∀ q, m ∈ a.cod q → m.c = z4 ∨ ∃ n' ∈ (Rx.two n a b).flat, m.c = n'.c := fun q hq => by
      rcases cod_cls a q m hq with h | ⟨n', h1, h2⟩
      · exact Or.inl h
      · exact Or.inr ⟨n', by simp [Rx.flat, h1], h2⟩
    have hb : ∀ q, m ∈ b.cod q → m.c = z4 ∨ ∃ n' ∈ (Rx.two n a b).flat, m.c = n'.c := fun q hq => by
      rcases cod_cls b q m hq with h | ⟨n', h1, h2⟩
      · exact Or.inl h
      · exact Or.inr ⟨n', by simp [Rx.flat, h1], h2⟩
    simp only [Rx.cod] at hm
    split at hm
    · rcases List.mem_append.1 hm with hm | hm
      · exact ha _ hm
      · exact hb _ hm
    · simp only [List.mem_cons, List.mem_append] at hm
      rcases hm with rfl | hm | rfl | hm
      · exact Or.inl rfl
      · exact ha _ hm
      · exact Or.inl rfl
      · exact hb _ hm
theorem z4_wf : z4.wf := ⟨by decide, by decide, by decide, by decide⟩
theorem int_wf {z : Int} (h0 : -9223372036854775808 ≤ z) (h1 : z ≤ 9223372036854775807) : (Lit.int .i64 z).wf = true := by
  have e1 : IntKind.i64.min = -9223372036854775808 := by decide
  have e2 : IntKind.i64.max = 9223372036854775807 := by decide
  simp only [Lit.wf, e1, e2, h0, h1, decide_true, Bool.and_self]
theorem prog_wf (t : Rx) (hl : t.flat.length ≤ 60) (hw : ∀ n ∈ t.flat, n.wf) : ∀ m ∈ t.prog, m.wf := by
  intro m hm
  have hc := t.cod_len 0
  unfold Rx.prog at hm
  rcases List.mem_append.1 hm with hm | hm
  · obtain ⟨h1, h2, h3, _, _⟩ := cod_ok t 0 m hm
    refine ⟨int_wf (by omega) (by omega), ?_, int_wf (by omega) (by omega), int_wf (by omega) (by omega)⟩
    rcases cod_cls t 0 m hm with h | ⟨n, hn, h⟩
    · rw [h]; exact z4_wf
    · rw [h]; exact (hw n hn).2
  · rw [List.mem_singleton] at hm
    subst hm
    exact ⟨by decide, z4_wf, by decide, by decide⟩
end Go.Proofs.YtgnmlnfddcnkbaaDoor
namespace Go.Proofs.YtgnmlnfddcnkbaaDoor
set_option linter.unusedSimpArgs false
set_option linter.unusedVariables false
set_option maxRecDepth 100000
open Go.RowKit
set_option maxHeartbeats 400000 in
theorem with_any (k : C4) (x : Int) (w : World) (h : 0 ≤ x) (h2 : x < 256) :
    Calls Tryd.prog 24 #[k.v, .int .u8 x] w fun e w' => e = .returned (k.add x).v ∧ Below w.heap.size w w' := by
  have hw := k.get (x/64).toNat (by omega)
  have hs := k.set (x/64).toNat (by omega)
  go_enter Tryd.func24, Tryd.ntmps24
  go_wp2
  refine bodyPost_ret (v := (k.add x).v) (by simp [results, Tryd.results24, go_sem]; exact ⟨rfl, rfl, rfl, rfl⟩) rfl ⟨rfl, ?_⟩
  exact ((Below.refl _ _).alloc (Nat.le_refl _) _).alloc (by simp) _
end Go.Proofs.YtgnmlnfddcnkbaaDoor
namespace Go.Proofs.YtgnmlnfddcnkbaaDoor
set_option linter.unusedSimpArgs false
set_option linter.unusedVariables false
set_option maxRecDepth 100000
open Go.RowKit
set_option maxHeartbeats 1000000 in
theorem of_any (s : ByteArray) (w : World) (hs : s.size ≤ maxLen) :
    Calls Tryd.prog 8 #[.string s] w fun e w' => e = .returned (C4.ofL s.data.toList).v ∧ Below w.heap.size w w' := by
  unfold maxLen at hs
  go_enter Tryd.func8, Tryd.ntmps8
  go_wp2
  go_loopw [7] (fun i wr => ∃ k : Nat, k ≤ s.size ∧ i = .int .i64 k ∧ Below w.heap.size w wr ∧ Hb wr w.heap.size z4 ∧ Hb wr (w.heap.size + 1) (C4.ofL (s.data.toList.take k))) (fun i _ => s.size - (intOf i).toNat)
  case atStart =>
    refine ⟨0, by omega, rfl, ?_, ?_, ?_⟩
    · exact ((Below.refl _ _).alloc (Nat.le_refl _) _).alloc (by simp) _
    · exact (Hb.new _ z4 _ rfl).alloc _
    · exact Hb.new _ z4 _ (by simp)
  case round =>
    obtain ⟨k, hk, rfl, hB, hZ, hC⟩ := hrel
    by_cases hlt : k < s.size
    · obtain ⟨c0, c1, c2, c3, e0, e1, e2, e3⟩ := hC.all
      have i0 : (0 : Int) ≤ (k : Int) := by omega
      have i1 : (k : Int) < (s.size : Int) := by omega
      have hg : s.data.toList[k]? = some s[k] := by
        rw [List.getElem?_eq_getElem (by simpa using hlt)]; rfl
      have hts : s.data.toList.take (k + 1) = s.data.toList.take k ++ [s[k]] := by
        rw [List.take_succ_eq_append_getElem (by simpa using hlt)]; rfl
      have HT : Hid (C4.ofL (s.data.toList.take (k + 1)) = (C4.ofL (s.data.toList.take k)).add (s[k].toNat : Int)) := by rw [hts, C4.ofL_snoc]; exact rfl
      clear hts hg
      have hlb : (s[k].toNat : Int) < 256 := by have := s[k].toNat_lt; omega
      have hl0 : (0 : Int) ≤ (s[k].toNat : Int) := by omega
      go_wp2_with fail
      go_region_with (first | (go_at_call 24; refine (with_any (C4.ofL (s.data.toList.take k)) _ _ hl0 hlb).mono ?_; rintro e w' ⟨rfl, hb⟩; have hC1 := Hb.below hC.drew hb hC.lt; obtain ⟨g0, g1, g2, g3, q0, q1, q2, q3⟩ := hC1.all))
      all_goals
        go_wp2
        refine ⟨⟨k + 1, by omega, by go_num, ?_, ?_, ?_⟩, by simp [intOf]; omega⟩
        · exact below_put4 (hB.drew.trans (hb.mono hB.size)) (by omega) _
        · exact Hb.other4 (Hb.below hZ.drew hb hZ.lt) _ (by omega)
        · rw [HT.out]; exact hC1.put4 _
    · have hk4 : k = s.size := by omega
      subst hk4
      have ht : s.data.toList.take s.size = s.data.toList := List.take_of_length_le (by simp)
      rw [ht] at hC
      clear ht
      obtain ⟨c0, c1, c2, c3, e0, e1, e2, e3⟩ := hC.all
      obtain ⟨d0, d1, d2, d3, f0, f1, f2, f3⟩ := hZ.all
      go_wp2
      have hq := hZ.put4 (C4.ofL s.data.toList)
      refine bodyPost_ret (v := (C4.ofL s.data.toList).v) (by simp [results, Tryd.results8, go_sem, hq.c0, hq.c1, hq.c2, hq.c3]) rfl ⟨rfl, ?_⟩
      exact below_put4 hB (by omega) _
end Go.Proofs.YtgnmlnfddcnkbaaDoor
namespace Go.Proofs.YtgnmlnfddcnkbaaDoor
set_option linter.unusedSimpArgs false
set_option linter.unusedVariables false
open Go.RowKit
def kA : C4 := C4.ofL [97]
def kB : C4 := C4.ofL [98]
theorem ofA : ∀ w, Calls Tryd.prog 8 #[.string ⟨#[97]⟩] w fun e w' => e = .returned kA.v ∧ Below w.heap.size w w' := fun w => of_any ⟨#[97]⟩ w (by decide)
theorem ofB : ∀ w, Calls Tryd.prog 8 #[.string ⟨#[98]⟩] w fun e w' => e = .returned kB.v ∧ Below w.heap.size w w' := fun w => of_any ⟨#[98]⟩ w (by decide)
theorem kA_ok : kA.ok ∧ kA.has 97 = true := ⟨ofL_ok _, by unfold kA; rw [ofL_has _ _ (by decide)]; decide⟩
theorem kB_ok : kB.ok ∧ kB.has 98 = true := ⟨ofL_ok _, by unfold kB; rw [ofL_has _ _ (by decide)]; decide⟩
theorem kA_not : kA.ok ∧ kA.has 97 = true ∧ kA.has 98 = false := ⟨ofL_ok _, kA_ok.2, by unfold kA; rw [ofL_has _ _ (by decide)]; decide⟩
end Go.Proofs.YtgnmlnfddcnkbaaDoor
