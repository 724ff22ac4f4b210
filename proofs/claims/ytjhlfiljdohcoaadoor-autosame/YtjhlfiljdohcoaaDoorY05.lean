/- What the document asks of package sim. What the document asks of package auto. The program of a tree, as the landed package prog lays it: plain mathematics. THOMPSON'S CONSTRUCTION: the program of a tree comes to its end just where the tree fits: plain mathematics. The program of a tree is one, and its ends are the tree's: plain mathematics. class.with. class.Of. class.Of at one letter. -/
import Derived.Test.YtjhlfiljdohcoaaDoorY03
import Derived.Test.YtjhlfiljdohcoaaDoorY04
import Derived.Test.YtjhlfiljdohcoaaDoorY02
import Derived.Test.YtjhlfiljdohcoaaDoorY01
namespace Go.Proofs.YtjhlfiljdohcoaaDoor
set_option linter.unusedSimpArgs false
set_option linter.unusedVariables false
set_option maxRecDepth 100000
open Go.RowKit
/-- What is wrong with a program, a text of n bytes, or a place. -/
def simE (ss : List St) (n : Nat) (i : Int) : Int := if stepsF ss = 0 then (if 400 < n then 3 else if 0 ≤ i ∧ i ≤ n then 0 else 1) else stepsF ss
theorem simE_zero (ss : List St) (n : Nat) (i : Int) : simE ss n i = 0 ↔ stepsF ss = 0 ∧ n ≤ 400 ∧ 0 ≤ i ∧ i ≤ n := by
  unfold simE
  by_cases h : stepsF ss = 0
  · rw [if_pos h]
    by_cases h4 : 400 < n
    · rw [if_pos h4]; simp; omega
    · rw [if_neg h4]
      by_cases h3 : 0 ≤ i ∧ i ≤ (n : Int)
      · rw [if_pos h3]; simp [h, h3]; omega
      · rw [if_neg h3]; simp [h]; omega
  · rw [if_neg h]; simp [h]
/-- The greatest end, or -1. -/
def lastI (l : List Nat) : Int := match l.getLast? with
  | none => -1
  | some x => (x : Int)
/-- Of each program all ends are a list. -/
theorem run_total (ss : List St) (s : List UInt8) (i : Nat) : ∃ l, RunR ss s i l := by
  have hm : ∀ j, (∃ q, Rch ss s i q ∧ dn ss s q = true ∧ q % (s.length + 1) = j) → j < s.length + 1 := by
    rintro j ⟨q, _, _, rfl⟩
    exact Nat.mod_lt _ (by omega)
  refine ⟨(List.range (s.length + 1)).filter (fun j => @decide (∃ q, Rch ss s i q ∧ dn ss s q = true ∧ q % (s.length + 1) = j) (Classical.propDecidable _)), ?_, ?_⟩
  · exact List.Pairwise.filter _ List.pairwise_lt_range
  · intro j
    rw [List.mem_filter, List.mem_range]
    constructor
    · rintro ⟨_, h⟩
      exact @of_decide_eq_true _ (Classical.propDecidable _) h
    · intro h
      exact ⟨hm j h, @decide_eq_true _ (Classical.propDecidable _) h⟩
/-- What the document asks of package sim (X: what the library's tables hold). -/
structure SimC (X : World → Prop) : Prop where
  bad : ∀ ss v (s : ByteArray) (i : Int) w, SsIn w v ss → (∀ n ∈ ss, n.wf) → s.size ≤ maxLen → ¬ simE ss s.size i = 0 → Calls Tryd.prog 9 #[v, .string s, .int .i64 i] w fun e w' => ∃ u, e = .returned (.tuple #[u, errV (simE ss s.size i)]) ∧ Below w.heap.size w w' ∧ IsIn w' u []
  ends : ∀ ss v (s : ByteArray) (i : Nat) l w, X w → SsIn w v ss → (∀ n ∈ ss, n.wf) → simE ss s.size i = 0 → RunR ss s.data.toList i l → Calls Tryd.prog 9 #[v, .string s, .int .i64 (i : Int)] w fun e w' => ∃ u, e = .returned (.tuple #[u, .nilIface]) ∧ Below w.heap.size w w' ∧ IsIn w' u l
/-- Of Longest. -/
structure SimL (X : World → Prop) : Prop where
  bad : ∀ ss v (s : ByteArray) (i : Int) w, SsIn w v ss → (∀ n ∈ ss, n.wf) → s.size ≤ maxLen → ¬ simE ss s.size i = 0 → Calls Tryd.prog 13 #[v, .string s, .int .i64 i] w fun e w' => e = .returned (.tuple #[.int .i64 0, errV (simE ss s.size i)]) ∧ Below w.heap.size w w'
  long : ∀ ss v (s : ByteArray) (i : Nat) l w, X w → SsIn w v ss → (∀ n ∈ ss, n.wf) → simE ss s.size i = 0 → RunR ss s.data.toList i l → Calls Tryd.prog 13 #[v, .string s, .int .i64 (i : Int)] w fun e w' => e = .returned (.tuple #[.int .i64 (lastI l), .nilIface]) ∧ Below w.heap.size w w'
/-- What the tables hold lasts. -/
def Lasts (X : World → Prop) : Prop := ∀ w w', X w → Below w.heap.size w w' → X w'
end Go.Proofs.YtjhlfiljdohcoaaDoor
namespace Go.Proofs.YtjhlfiljdohcoaaDoor
set_option linter.unusedSimpArgs false
set_option linter.unusedVariables false
set_option maxRecDepth 100000
open Go.RowKit
/-- What the document asks of package auto. X: what the library's tables hold. Au B w u ss: u is an Auto of the program ss, and all that it keeps lies from block B on. -/
structure AutoC (X : World → Prop) (Au : Nat → World → Value → List St → Prop) : Prop where
  newBad : ∀ ss v w, SsIn w v ss → (∀ n ∈ ss, n.wf) → ¬ stepsF ss = 0 → Calls Tryd.prog 18 #[v] w fun e w' => ∃ p, e = .returned (.tuple #[.pointer p, errV (stepsF ss)]) ∧ Below w.heap.size w w'
  new : ∀ ss v w, X w → SsIn w v ss → (∀ n ∈ ss, n.wf) → stepsF ss = 0 → Calls Tryd.prog 18 #[v] w fun e w' => ∃ p, e = .returned (.tuple #[.pointer p, .nilIface]) ∧ Au w.heap.size w' (.pointer p) ss ∧ Below w.heap.size w w' ∧ Calls Tryd.prog 19 #[.pointer p] w' fun e w'' => e = .returned (.int .i64 0) ∧ Below w'.heap.size w' w''
  keep : ∀ B w w' u ss, Au B w u ss → Below w.heap.size w w' → Au B w' u ss
  states : ∀ B w u ss, Au B w u ss → ∃ k : Nat, k ≤ 100 ∧ ∀ w', Below w.heap.size w w' → Calls Tryd.prog 19 #[u] w' fun e w'' => e = .returned (.int .i64 (k : Int)) ∧ Below w'.heap.size w' w''
  bad : ∀ B ss u (s : ByteArray) (i : Int) w, Au B w u ss → B ≤ w.heap.size → stepsF ss = 0 → s.size ≤ maxLen → ¬ simE ss s.size i = 0 → Calls Tryd.prog 20 #[u, .string s, .int .i64 i] w fun e w' => e = .returned (.tuple #[.int .i64 0, errV (simE ss s.size i)]) ∧ Au B w' u ss ∧ Below B w w'
  long : ∀ B ss u (s : ByteArray) (i : Nat) l w, X w → Au B w u ss → B ≤ w.heap.size → simE ss s.size i = 0 → RunR ss s.data.toList i l → Calls Tryd.prog 20 #[u, .string s, .int .i64 (i : Int)] w fun e w' => e = .returned (.tuple #[.int .i64 (lastI l), .nilIface]) ∧ Au B w' u ss ∧ Below B w w'
end Go.Proofs.YtjhlfiljdohcoaaDoor
namespace Go.Proofs.YtjhlfiljdohcoaaDoor
set_option linter.unusedSimpArgs false
set_option linter.unusedVariables false
set_option maxRecDepth 100000
open Go.RowKit
/-- A step that is not known yet. -/
abbrev stZ : St := ⟨0, z4, 0, 0⟩
/-- A fork. -/
abbrev stF (x y : Nat) : St := ⟨2, z4, x, y⟩
/-- The last step. -/
abbrev stD : St := ⟨5, z4, 0, 0⟩
/-- The steps of a tree, the first of them being step p. -/
def Rx.cod : Rx → Nat → List St
  | .leaf n, p => if n.op = 1 then [⟨1, n.c, ((p + 1 : Nat) : Int), 0⟩] else if n.op = 8 then [⟨3, z4, ((p + 1 : Nat) : Int), 0⟩] else if n.op = 9 then [⟨4, z4, ((p + 1 : Nat) : Int), 0⟩] else []
  | .one n a, p =>
    if n.op = 5 then stF (p + 1) (p + 1 + (a.cod (p + 1)).length + 1) :: (a.cod (p + 1) ++ [stF (p + 1) (p + 1 + (a.cod (p + 1)).length + 1)])
    else if n.op = 6 then a.cod p ++ [stF p (p + (a.cod p).length + 1)]
    else stF (p + 1) (p + 1 + (a.cod (p + 1)).length) :: a.cod (p + 1)
  | .two n a b, p =>
    if n.op = 3 then a.cod p ++ b.cod (p + (a.cod p).length)
    else stF (p + 1) (p + 1 + (a.cod (p + 1)).length + 1) :: (a.cod (p + 1) ++ (stF (p + 1 + (a.cod (p + 1)).length + 1 + (b.cod (p + 1 + (a.cod (p + 1)).length + 1)).length) (p + 1 + (a.cod (p + 1)).length + 1 + (b.cod (p + 1 + (a.cod (p + 1)).length + 1)).length) :: b.cod (p + 1 + (a.cod (p + 1)).length + 1)))
theorem Rx.cod_len : ∀ (t : Rx) (p : Nat), (t.cod p).length ≤ 2 * t.flat.length
  | .leaf n, p => by
    simp only [Rx.cod, Rx.flat]
    repeat' split
    all_goals simp
  | .one n a, p => by
    have h1 := a.cod_len p
    have h2 := a.cod_len (p + 1)
    simp only [Rx.cod, Rx.flat]
    repeat' split
    all_goals simp
    all_goals omega
  | .two n a b, p => by
    have h1 := a.cod_len p
    have h2 := a.cod_len (p + 1)
    have h3 := b.cod_len (p + (a.cod p).length)
    have h4 := b.cod_len (p + 1 + (a.cod (p + 1)).length + 1)
    simp only [Rx.cod, Rx.flat]
    repeat' split
    all_goals simp
    all_goals omega
/-- The program of a tree. -/
def Rx.prog (t : Rx) : List St := t.cod 0 ++ [stD]
end Go.Proofs.YtjhlfiljdohcoaaDoor
namespace Go.Proofs.YtjhlfiljdohcoaaDoor
set_option linter.unusedSimpArgs false
set_option linter.unusedVariables false
set_option maxRecDepth 100000
open Go.RowKit

/-- One step of a run, from step k at place a. -/
def Stp (P : List St) (s : List UInt8) (k a k' a' : Nat) : Prop := ∃ n, P[k]? = some n ∧
  ((n.op = 1 ∧ k' = n.x.toNat ∧ a' = a + 1 ∧ ∃ c, s[a]? = some c ∧ n.c.has c.toNat = true) ∨ (n.op = 2 ∧ (k' = n.x.toNat ∨ k' = n.y.toNat) ∧ a' = a) ∨ (n.op = 3 ∧ k' = n.x.toNat ∧ a' = a ∧ a = 0) ∨ (n.op = 4 ∧ k' = n.x.toNat ∧ a' = a ∧ a = s.length))
/-- So many steps of a run. -/
inductive Pth (P : List St) (s : List UInt8) : Nat → Nat → Nat → Nat → Nat → Prop
  | nil (k a : Nat) : Pth P s 0 k a k a
  | cons (m k a k1 a1 k' a' : Nat) : Stp P s k a k1 a1 → Pth P s m k1 a1 k' a' → Pth P s (m + 1) k a k' a'
theorem Pth.trans {P : List St} {s : List UInt8} {m n k a k1 a1 k2 a2 : Nat} (h1 : Pth P s m k a k1 a1) (h2 : Pth P s n k1 a1 k2 a2) : Pth P s (m + n) k a k2 a2 := by
  induction h1 with
  | nil k a => rw [Nat.zero_add]; exact h2
  | cons m k a k3 a3 k' a' h _ ih =>
    rw [show m + 1 + n = m + n + 1 from by omega]
    exact .cons _ _ _ _ _ _ _ h (ih h2)
theorem Pth.one {P : List St} {s : List UInt8} {k a k1 a1 : Nat} (h : Stp P s k a k1 a1) : Pth P s 1 k a k1 a1 := .cons _ _ _ _ _ _ _ h (.nil _ _)
/-- The steps L stand in P from p on. -/
def Seg (P : List St) (p : Nat) (L : List St) : Prop := ∀ i n, L[i]? = some n → P[p + i]? = some n
theorem Seg.left {P : List St} {p : Nat} {A B : List St} (h : Seg P p (A ++ B)) : Seg P p A := fun i n hi => by
  refine h i n ?_
  have : i < A.length := by
    rcases Nat.lt_or_ge i A.length with h' | h'
    · exact h'
    · rw [List.getElem?_eq_none h'] at hi; cases hi
  rw [List.getElem?_append_left this]
  exact hi
theorem Seg.right {P : List St} {p : Nat} {A B : List St} (h : Seg P p (A ++ B)) : Seg P (p + A.length) B := fun i n hi => by
  have := h (A.length + i) n (by rw [List.getElem?_append_right (by omega)]; simpa using hi)
  rw [← this]
  congr 1
  omega
theorem Seg.head {P : List St} {p : Nat} {n : St} {B : List St} (h : Seg P p (n :: B)) : P[p]? = some n := h 0 n rfl
theorem Seg.tail {P : List St} {p : Nat} {n : St} {B : List St} (h : Seg P p (n :: B)) : Seg P (p + 1) B := Seg.right (A := [n]) h
theorem stp_fork {P : List St} {s : List UInt8} {k x y a : Nat} (h : P[k]? = some (stF x y)) : Stp P s k a x a ∧ Stp P s k a y a :=
  ⟨⟨_, h, Or.inr (Or.inl ⟨rfl, Or.inl (by simp), rfl⟩)⟩, ⟨_, h, Or.inr (Or.inl ⟨rfl, Or.inr (by simp), rfl⟩)⟩⟩
theorem fork_stp {P : List St} {s : List UInt8} {k x y a k' a' : Nat} (h : P[k]? = some (stF x y)) (hs : Stp P s k a k' a') : (k' = x ∨ k' = y) ∧ a' = a := by
  obtain ⟨n, hn, hc⟩ := hs
  rw [h] at hn
  obtain rfl := Option.some.inj hn
  rcases hc with ⟨h1, _⟩ | ⟨_, h2, h3⟩ | ⟨h1, _⟩ | ⟨h1, _⟩
  · simp at h1
  · exact ⟨by simpa using h2, h3⟩
  · simp at h1
  · simp at h1
/-- What fits is come to. -/
theorem fit_path (P : List St) (s : List UInt8) : ∀ (t : Rx), t.Ok → (∀ n ∈ t.flat, 1 ≤ n.op ∧ n.op ≤ 9) → ∀ (p i j : Nat), Seg P p (t.cod p) → Fit s t i j → ∃ m, Pth P s m p i (p + (t.cod p).length) j
  | .leaf n, hk, ho, p, i, j, hS, hF => by
    have hop := ho n (by simp [Rx.flat])
    have h0 : prt n.op = 0 := hk
    have h2 : ¬ prt n.op = 2 := by omega
    have h3 : ¬ prt n.op = 1 := by omega
    rw [prt_two] at h2
    rw [prt_one] at h3
    simp only [Rx.cod] at hS ⊢
    simp only [Fit] at hF
    by_cases h1 : n.op = 1
    · rw [if_pos h1] at hF
      simp only [if_pos h1] at hS ⊢
      obtain ⟨c, hc, hh, rfl⟩ := hF
      exact ⟨1, .one ⟨_, hS.head, Or.inl ⟨rfl, by simp, rfl, c, hc, hh⟩⟩⟩
    · rw [if_neg h1] at hF
      simp only [if_neg h1] at hS ⊢
      by_cases h8 : n.op = 8
      · rw [if_pos h8] at hF
        simp only [if_pos h8] at hS ⊢
        obtain ⟨rfl, rfl⟩ := hF
        exact ⟨1, .one ⟨_, hS.head, Or.inr (Or.inr (Or.inl ⟨rfl, by simp, rfl, rfl⟩))⟩⟩
      · rw [if_neg h8] at hF
        simp only [if_neg h8] at hS ⊢
        by_cases h9 : n.op = 9
        · rw [if_pos h9] at hF
          simp only [if_pos h9] at hS ⊢
          obtain ⟨rfl, rfl⟩ := hF
          exact ⟨1, .one ⟨_, hS.head, Or.inr (Or.inr (Or.inr ⟨rfl, by simp, rfl, rfl⟩))⟩⟩
        · rw [if_neg h9] at hF
          simp only [if_neg h9] at hS ⊢
          obtain ⟨rfl, _⟩ := hF
          exact ⟨0, .nil _ _⟩
  | .one n a, hk, ho, p, i, j, hS, hF => by
    have ih := fit_path P s a hk.2 (fun m hm => ho m (by simp [Rx.flat, hm]))
    simp only [Rx.cod] at hS ⊢
    simp only [Fit] at hF
    by_cases h5 : n.op = 5
    · rw [if_pos h5] at hF
      simp only [if_pos h5] at hS ⊢
      have hA := hS.tail.left
      have hE := hS.tail.right.head
      have hf1 := hS.head
      have loop : ∀ {i j : Nat}, Str s.length (Fit s a) i j → ∃ m, Pth P s m (p + 1 + (a.cod (p + 1)).length) i (p + 1 + (a.cod (p + 1)).length + 1) j := by
        intro i j hs
        induction hs with
        | nil i _ => exact ⟨1, .one (stp_fork hE).2⟩
        | cons i k j h1 _ ih2 =>
          obtain ⟨m1, p1⟩ := ih (p + 1) i k hA h1
          obtain ⟨m2, p2⟩ := ih2
          exact ⟨1 + m1 + m2, ((Pth.one (stp_fork hE).1).trans p1).trans p2⟩
      have e : p + (stF (p + 1) (p + 1 + (a.cod (p + 1)).length + 1) :: (a.cod (p + 1) ++ [stF (p + 1) (p + 1 + (a.cod (p + 1)).length + 1)])).length = p + 1 + (a.cod (p + 1)).length + 1 := by simp; omega
      rw [e]
      cases hF with
      | nil _ _ => exact ⟨1, .one (stp_fork hf1).2⟩
      | cons _ k _ h1 h2 =>
        obtain ⟨m1, p1⟩ := ih (p + 1) i k hA h1
        obtain ⟨m2, p2⟩ := loop h2
        exact ⟨1 + m1 + m2, ((Pth.one (stp_fork hf1).1).trans p1).trans p2⟩
    · rw [if_neg h5] at hF
      simp only [if_neg h5] at hS ⊢
      by_cases h6 : n.op = 6
      · rw [if_pos h6] at hF
        simp only [if_pos h6] at hS ⊢
        have hA := hS.left
        have hE := hS.right.head
        have loop : ∀ {i j : Nat}, Str s.length (Fit s a) i j → ∃ m, Pth P s m (p + (a.cod p).length) i (p + (a.cod p).length + 1) j := by
          intro i j hs
          induction hs with
          | nil i _ => exact ⟨1, .one (stp_fork hE).2⟩
          | cons i k j h1 _ ih2 =>
            obtain ⟨m1, p1⟩ := ih p i k hA h1
            obtain ⟨m2, p2⟩ := ih2
            exact ⟨1 + m1 + m2, ((Pth.one (stp_fork hE).1).trans p1).trans p2⟩
        obtain ⟨k, h1, h2⟩ := hF
        obtain ⟨m1, p1⟩ := ih p i k hA h1
        obtain ⟨m2, p2⟩ := loop h2
        rw [show p + (a.cod p ++ [stF p (p + (a.cod p).length + 1)]).length = p + (a.cod p).length + 1 from by simp; omega]
        exact ⟨m1 + m2, p1.trans p2⟩
      · rw [if_neg h6] at hF
        simp only [if_neg h6] at hS ⊢
        have hA := hS.tail
        have hf1 := hS.head
        rw [show p + (stF (p + 1) (p + 1 + (a.cod (p + 1)).length) :: a.cod (p + 1)).length = p + 1 + (a.cod (p + 1)).length from by simp; omega]
        rcases hF with ⟨rfl, _⟩ | h1
        · exact ⟨1, .one (stp_fork hf1).2⟩
        · obtain ⟨m1, p1⟩ := ih (p + 1) i j hA h1
          exact ⟨1 + m1, (Pth.one (stp_fork hf1).1).trans p1⟩
  | .two n a b, hk, ho, p, i, j, hS, hF => by
    have iha := fit_path P s a hk.2.1 (fun m hm => ho m (by simp [Rx.flat, hm]))
    have ihb := fit_path P s b hk.2.2 (fun m hm => ho m (by simp [Rx.flat, hm]))
    simp only [Rx.cod] at hS ⊢
    simp only [Fit] at hF
    by_cases h3 : n.op = 3
    · rw [if_pos h3] at hF
      simp only [if_pos h3] at hS ⊢
      obtain ⟨k, h1, h2⟩ := hF
      obtain ⟨m1, p1⟩ := iha p i k hS.left h1
      obtain ⟨m2, p2⟩ := ihb _ k j hS.right h2
      rw [List.length_append, ← Nat.add_assoc]
      exact ⟨m1 + m2, p1.trans p2⟩
    · rw [if_neg h3] at hF
      simp only [if_neg h3] at hS ⊢
      have hf1 := hS.head
      have hA := hS.tail.left
      have hf2 := hS.tail.right.head
      have hB := hS.tail.right.tail
      generalize hq : p + 1 + (a.cod (p + 1)).length + 1 = q at *
      rw [show p + (stF (p + 1) q :: (a.cod (p + 1) ++ stF (q + (b.cod q).length) (q + (b.cod q).length) :: b.cod q)).length = q + (b.cod q).length from by simp; omega]
      rcases hF with h1 | h1
      · obtain ⟨m1, p1⟩ := iha (p + 1) i j hA h1
        exact ⟨1 + m1 + 1, ((Pth.one (stp_fork hf1).1).trans p1).trans (.one (stp_fork hf2).1)⟩
      · obtain ⟨m1, p1⟩ := ihb q i j hB h1
        exact ⟨1 + m1, (Pth.one (stp_fork hf1).2).trans p1⟩
/-- From the beginning of a part whoever comes out of it comes to the step behind it, and the part fits what was between. -/
def Out (P : List St) (s : List UInt8) (t : Rx) (p : Nat) : Prop := ∀ (n i k a : Nat), i ≤ s.length → Pth P s n p i k a → (k < p ∨ p + (t.cod p).length ≤ k) → ∃ j m, m ≤ n ∧ Fit s t i j ∧ Pth P s m (p + (t.cod p).length) j k a
theorem out_loop {P : List St} {s : List UInt8} {t : Rx} {p : Nat} (h : Out P s t p) (hF : P[p + (t.cod p).length]? = some (stF p (p + (t.cod p).length + 1))) : ∀ (N n i k a : Nat), n ≤ N → i ≤ s.length → Pth P s n p i k a → (k < p ∨ p + (t.cod p).length + 1 ≤ k) → ∃ j m, m ≤ n ∧ (∃ q, Fit s t i q ∧ Str s.length (Fit s t) q j) ∧ Pth P s m (p + (t.cod p).length + 1) j k a := by
  intro N
  induction N with
  | zero =>
    intro n i k a hn hi hp hout
    obtain ⟨j, m, hm, hf, hq⟩ := h n i k a hi hp (by omega)
    have : m = 0 := by omega
    subst this
    cases hq
    omega
  | succ N ih =>
    intro n i k a hn hi hp hout
    obtain ⟨j, m, hm, hf, hq⟩ := h n i k a hi hp (by omega)
    have hj := (fit_le s t i j hf).2
    cases hq with
    | nil => omega
    | cons m _ _ k1 a1 _ _ hs hr =>
      obtain ⟨hk, ha1⟩ := fork_stp hF hs
      rw [ha1] at hr
      rcases hk with rfl | rfl
      · obtain ⟨j2, m2, hm2, ⟨q, hq1, hq2⟩, hq3⟩ := ih m j k a (by omega) hj hr hout
        exact ⟨j2, m2, by omega, ⟨j, hf, .cons _ _ _ hq1 hq2⟩, hq3⟩
      · exact ⟨j, m, by omega, ⟨j, hf, .nil _ hj⟩, hr⟩
/-- Who comes out of a part has fitted it. -/
theorem path_fit (P : List St) (s : List UInt8) : ∀ (t : Rx), t.Ok → (∀ n ∈ t.flat, 1 ≤ n.op ∧ n.op ≤ 9) → ∀ (p : Nat), Seg P p (t.cod p) → Out P s t p
  | .leaf n, hk, ho, p, hS => by
    intro m i k a hi hp hout
    simp only [Rx.cod] at hS hout ⊢
    simp only [Fit]
    by_cases h1 : n.op = 1
    · simp only [if_pos h1] at hS hout ⊢
      cases hp with
      | nil => simp at hout; omega
      | cons m _ _ k1 a1 _ _ hs hr =>
        obtain ⟨x, hx, hc⟩ := hs
        rw [hS.head] at hx
        obtain rfl := Option.some.inj hx
        rcases hc with ⟨_, h2, h3, h4⟩ | ⟨h2, _⟩ | ⟨h2, _⟩ | ⟨h2, _⟩
        · subst h3
          obtain ⟨c, hc, hh⟩ := h4
          refine ⟨i + 1, m, by omega, ⟨c, hc, hh, rfl⟩, ?_⟩
          rw [show (k1 : Nat) = p + 1 from by simpa using h2] at hr
          simpa using hr
        · simp at h2
        · simp at h2
        · simp at h2
    · simp only [if_neg h1] at hS hout ⊢
      by_cases h8 : n.op = 8
      · simp only [if_pos h8] at hS hout ⊢
        cases hp with
        | nil => simp at hout; omega
        | cons m _ _ k1 a1 _ _ hs hr =>
          obtain ⟨x, hx, hc⟩ := hs
          rw [hS.head] at hx
          obtain rfl := Option.some.inj hx
          rcases hc with ⟨h2, _⟩ | ⟨h2, _⟩ | ⟨_, h2, h3, h4⟩ | ⟨h2, _⟩
          · simp at h2
          · simp at h2
          · subst h3
            refine ⟨a1, m, by omega, ⟨h4, h4⟩, ?_⟩
            rw [show (k1 : Nat) = p + 1 from by simpa using h2] at hr
            simpa using hr
          · simp at h2
      · simp only [if_neg h8] at hS hout ⊢
        by_cases h9 : n.op = 9
        · simp only [if_pos h9] at hS hout ⊢
          cases hp with
          | nil => simp at hout; omega
          | cons m _ _ k1 a1 _ _ hs hr =>
            obtain ⟨x, hx, hc⟩ := hs
            rw [hS.head] at hx
            obtain rfl := Option.some.inj hx
            rcases hc with ⟨h2, _⟩ | ⟨h2, _⟩ | ⟨h2, _⟩ | ⟨_, h2, h3, h4⟩
            · simp at h2
            · simp at h2
            · simp at h2
            · subst h3
              refine ⟨a1, m, by omega, ⟨h4, h4⟩, ?_⟩
              rw [show (k1 : Nat) = p + 1 from by simpa using h2] at hr
              simpa using hr
        · simp only [if_neg h9] at hS hout ⊢
          exact ⟨i, m, Nat.le_refl _, ⟨rfl, hi⟩, by simpa using hp⟩
  | .one n t, hk, ho, p, hS => by
    have ih := path_fit P s t hk.2 (fun m hm => ho m (by simp [Rx.flat, hm]))
    intro m i k a hi hp hout
    simp only [Rx.cod] at hS hout ⊢
    simp only [Fit]
    by_cases h5 : n.op = 5
    · simp only [if_pos h5] at hS hout ⊢
      have hA := hS.tail.left
      have hE := hS.tail.right.head
      have hf1 := hS.head
      have e : p + (stF (p + 1) (p + 1 + (t.cod (p + 1)).length + 1) :: (t.cod (p + 1) ++ [stF (p + 1) (p + 1 + (t.cod (p + 1)).length + 1)])).length = p + 1 + (t.cod (p + 1)).length + 1 := by simp; omega
      rw [e] at hout ⊢
      cases hp with
      | nil => omega
      | cons m _ _ k1 a1 _ _ hs hr =>
        obtain ⟨hk1, ha1⟩ := fork_stp hf1 hs
        rw [ha1] at hr
        rcases hk1 with rfl | rfl
        · obtain ⟨j, m2, hm2, ⟨q, h1, h2⟩, h3⟩ := out_loop (ih (p + 1) hA) hE m m i k a (Nat.le_refl _) hi hr (by omega)
          exact ⟨j, m2, by omega, .cons _ _ _ h1 h2, h3⟩
        · exact ⟨i, m, by omega, .nil _ hi, hr⟩
    · simp only [if_neg h5] at hS hout ⊢
      by_cases h6 : n.op = 6
      · simp only [if_pos h6] at hS hout ⊢
        have hA := hS.left
        have hE := hS.right.head
        have e : p + (t.cod p ++ [stF p (p + (t.cod p).length + 1)]).length = p + (t.cod p).length + 1 := by simp; omega
        rw [e] at hout ⊢
        obtain ⟨j, m2, hm2, h1, h3⟩ := out_loop (ih p hA) hE m m i k a (Nat.le_refl _) hi hp hout
        exact ⟨j, m2, hm2, h1, h3⟩
      · simp only [if_neg h6] at hS hout ⊢
        have hA := hS.tail
        have hf1 := hS.head
        have e : p + (stF (p + 1) (p + 1 + (t.cod (p + 1)).length) :: t.cod (p + 1)).length = p + 1 + (t.cod (p + 1)).length := by simp; omega
        rw [e] at hout ⊢
        cases hp with
        | nil => omega
        | cons m _ _ k1 a1 _ _ hs hr =>
          obtain ⟨hk1, ha1⟩ := fork_stp hf1 hs
          rw [ha1] at hr
          rcases hk1 with rfl | rfl
          · obtain ⟨j, m2, hm2, h1, h3⟩ := ih (p + 1) hA m i k a hi hr (by omega)
            exact ⟨j, m2, by omega, Or.inr h1, h3⟩
          · exact ⟨i, m, by omega, Or.inl ⟨rfl, hi⟩, hr⟩
  | .two n t u, hk, ho, p, hS => by
    have iha := path_fit P s t hk.2.1 (fun m hm => ho m (by simp [Rx.flat, hm]))
    have ihb := path_fit P s u hk.2.2 (fun m hm => ho m (by simp [Rx.flat, hm]))
    intro m i k a hi hp hout
    simp only [Rx.cod] at hS hout ⊢
    simp only [Fit]
    by_cases h3 : n.op = 3
    · simp only [if_pos h3] at hS hout ⊢
      rw [List.length_append, ← Nat.add_assoc] at hout ⊢
      obtain ⟨j1, m1, hm1, hf1, hp1⟩ := iha p hS.left m i k a hi hp (by omega)
      obtain ⟨j2, m2, hm2, hf2, hp2⟩ := ihb _ hS.right m1 j1 k a (fit_le s t i j1 hf1).2 hp1 (by omega)
      exact ⟨j2, m2, by omega, ⟨j1, hf1, hf2⟩, hp2⟩
    · simp only [if_neg h3] at hS hout ⊢
      have hf1 := hS.head
      have hA := hS.tail.left
      have hf2 := hS.tail.right.head
      have hB := hS.tail.right.tail
      generalize hq : p + 1 + (t.cod (p + 1)).length + 1 = q at *
      rw [show p + (stF (p + 1) q :: (t.cod (p + 1) ++ stF (q + (u.cod q).length) (q + (u.cod q).length) :: u.cod q)).length = q + (u.cod q).length from by simp; omega] at hout ⊢
      cases hp with
      | nil => omega
      | cons m _ _ k1 a1 _ _ hs hr =>
        obtain ⟨hk1, ha1⟩ := fork_stp hf1 hs
        rw [ha1] at hr
        rcases hk1 with rfl | rfl
        · obtain ⟨j1, m1, hm1, hfa, hp1⟩ := iha (p + 1) hA m i k a hi hr (by omega)
          cases hp1 with
          | nil => omega
          | cons m1 _ _ k2 a2 _ _ hs2 hr2 =>
            obtain ⟨hk2, ha1⟩ := fork_stp hf2 hs2
            rw [ha1] at hr2
            rcases hk2 with rfl | rfl <;> exact ⟨j1, m1, by omega, Or.inl hfa, hr2⟩
        · obtain ⟨j1, m1, hm1, hfb, hp1⟩ := ihb _ hB m i k a hi hr (by omega)
          exact ⟨j1, m1, by omega, Or.inr hfb, hp1⟩
end Go.Proofs.YtjhlfiljdohcoaaDoor
namespace Go.Proofs.YtjhlfiljdohcoaaDoor
set_option linter.unusedSimpArgs false
set_option linter.unusedVariables false
set_option maxRecDepth 100000
open Go.RowKit
/-- What may be of a step of a part that ends at step e. -/
def StOk (e : Nat) (n : St) : Prop := (1 ≤ n.op ∧ n.op ≤ 4) ∧ (0 ≤ n.x ∧ n.x ≤ (e : Int)) ∧ (0 ≤ n.y ∧ n.y ≤ (e : Int)) ∧ (n.op ≠ 2 → n.y = 0) ∧ (n.op ≠ 1 → n.c = z4)
theorem StOk.mono {e f : Nat} {n : St} (h : StOk e n) (hf : e ≤ f) : StOk f n := by
  obtain ⟨h1, h2, h3, h4, h5⟩ := h
  exact ⟨h1, ⟨h2.1, by omega⟩, ⟨h3.1, by omega⟩, h4, h5⟩
theorem stF_ok {e x y : Nat} (hx : x ≤ e) (hy : y ≤ e) : StOk e (stF x y) := ⟨by simp, by simp; omega, by simp; omega, by simp, by simp⟩
theorem cod_ok : ∀ (t : Rx) (p : Nat), ∀ n ∈ t.cod p, StOk (p + (t.cod p).length) n
  | .leaf m, p => by
    intro n hn
    simp only [Rx.cod] at hn ⊢
    split at hn
    · simp at hn; subst hn; rename_i h; simp [h]; exact ⟨by simp, by simp; omega, by simp; omega, by simp, by simp⟩
    · rename_i h1
      split at hn
      · simp at hn; subst hn; rename_i h; simp [h]; exact ⟨by simp, by simp; omega, by simp; omega, by simp, by simp⟩
      · rename_i h8
        split at hn
        · simp at hn; subst hn; rename_i h; simp [h]; exact ⟨by simp, by simp; omega, by simp; omega, by simp, by simp⟩
        · cases hn
  | .one m a, p => by
    intro n hn
    have h1 := cod_ok a p
    have h2 := cod_ok a (p + 1)
    simp only [Rx.cod] at hn ⊢
    split at hn
    · rename_i h
      rw [if_pos h]
      simp only [List.length_cons, List.length_append, List.length_nil]
      simp only [List.mem_cons, List.mem_append, List.not_mem_nil, or_false] at hn
      rcases hn with rfl | hn | rfl
      · exact stF_ok (by omega) (by omega)
      · exact (h2 n hn).mono (by omega)
      · exact stF_ok (by omega) (by omega)
    · rename_i h
      rw [if_neg h]
      split at hn
      · rename_i h6
        rw [if_pos h6]
        simp only [List.length_cons, List.length_append, List.length_nil]
        simp only [List.mem_cons, List.mem_append, List.not_mem_nil, or_false] at hn
        rcases hn with hn | rfl
        · exact (h1 n hn).mono (by omega)
        · exact stF_ok (by omega) (by omega)
      · rename_i h6
        rw [if_neg h6]
        simp only [List.length_cons]
        simp only [List.mem_cons] at hn
        rcases hn with rfl | hn
        · exact stF_ok (by omega) (by omega)
        · exact (h2 n hn).mono (by omega)
  | .two m a b, p => by
    intro n hn
    have h1 := cod_ok a p
    have h2 := cod_ok a (p + 1)
    have h3 := cod_ok b (p + (a.cod p).length)
    have h4 := cod_ok b (p + 1 + (a.cod (p + 1)).length + 1)
    simp only [Rx.cod] at hn ⊢
    split at hn
    · rename_i h
      rw [if_pos h, List.length_append]
      rcases List.mem_append.1 hn with hn | hn
      · exact (h1 n hn).mono (by omega)
      · exact (h3 n hn).mono (by omega)
    · rename_i h
      rw [if_neg h]
      simp only [List.length_cons, List.length_append]
      simp only [List.mem_cons, List.mem_append] at hn
      rcases hn with rfl | hn | rfl | hn
      · exact stF_ok (by omega) (by omega)
      · exact (h2 n hn).mono (by omega)
      · exact stF_ok (by omega) (by omega)
      · exact (h4 n hn).mono (by omega)
theorem prog_len (t : Rx) : t.prog.length = (t.cod 0).length + 1 := by simp [Rx.prog]
theorem stScan_of (N : Nat) : ∀ (l : List St), (∀ n ∈ l, stBad N n = 0) → stScan N l = 0
  | [], _ => rfl
  | a :: r, h => by rw [stScan, if_pos (h a (by simp))]; exact stScan_of N r (fun n hn => h n (by simp [hn]))
theorem z4_eqb : z4.eqb z4 = true := by decide
/-- The program of a valid pattern is one. -/
theorem prog_fault (t : Rx) (hl : t.flat.length ≤ 60) : stepsF t.prog = 0 := by
  have hc := t.cod_len 0
  have hp := prog_len t
  unfold stepsF
  rw [if_neg (by omega), if_neg (by omega)]
  refine stScan_of _ _ fun n hn => ?_
  unfold Rx.prog at hn
  rcases List.mem_append.1 hn with hn | hn
  · obtain ⟨h1, h2, h3, h4, h5⟩ := cod_ok t 0 n hn
    refine stBad_ok ?_ ?_
    · unfold stRange
      omega
    · rintro (⟨ha, hb⟩ | ⟨ha, hb⟩ | ⟨ha, hb⟩)
      · rw [h5 ha] at hb
        exact hb z4_eqb
      · exact hb (h4 ha)
      · omega
  · rw [List.mem_singleton] at hn
    subst hn
    refine stBad_ok ?_ ?_
    · unfold stRange
      simp
    · rintro (⟨ha, hb⟩ | ⟨ha, hb⟩ | ⟨ha, hb⟩)
      · exact hb z4_eqb
      · exact hb rfl
      · exact hb rfl
theorem prog_seg (t : Rx) : Seg t.prog 0 (t.cod 0) := by
  have : Seg t.prog 0 t.prog := fun i n hi => by rw [Nat.zero_add]; exact hi
  exact this.left
theorem prog_done (t : Rx) : t.prog[(t.cod 0).length]? = some stD := by simp [Rx.prog]
theorem prog_five (t : Rx) {k : Nat} {n : St} (h : t.prog[k]? = some n) (h5 : n.op = 5) : k = (t.cod 0).length := by
  rcases Nat.lt_trichotomy k (t.cod 0).length with hk | hk | hk
  · unfold Rx.prog at h
    rw [List.getElem?_append_left hk] at h
    have := (cod_ok t 0 n (List.mem_of_getElem? h)).1
    omega
  · exact hk
  · rw [List.getElem?_eq_none (by rw [prog_len]; omega)] at h
    cases h
/-- Spots and steps. -/
theorem spot_div {N k a : Nat} (ha : a < N) : (k * N + a) / N = k ∧ (k * N + a) % N = a := by
  have hN : 0 < N := by omega
  refine ⟨?_, ?_⟩
  · rw [Nat.mul_comm, Nat.mul_add_div hN, Nat.div_eq_of_lt ha, Nat.add_zero]
  · rw [Nat.mul_comm, Nat.mul_add_mod, Nat.mod_eq_of_lt ha]
theorem nx_stp (ss : List St) (s : List UInt8) {k a q' : Nat} (ha : a ≤ s.length) : q' ∈ nx ss s (k * (s.length + 1) + a) ↔ ∃ k' a', Stp ss s k a k' a' ∧ a' ≤ s.length ∧ q' = k' * (s.length + 1) + a' := by
  obtain ⟨hd, hm⟩ := spot_div (N := s.length + 1) (k := k) (a := a) (by omega)
  unfold nx Stp
  rw [hd, hm]
  cases hn : ss[k]? with
  | none => simp
  | some n =>
    simp only [Option.some.injEq, exists_eq_left']
    by_cases h1 : n.op = 1
    · rw [if_pos h1]
      have e : ∀ k' a', ((n.op = 1 ∧ k' = n.x.toNat ∧ a' = a + 1 ∧ ∃ c, s[a]? = some c ∧ n.c.has c.toNat = true) ∨ (n.op = 2 ∧ (k' = n.x.toNat ∨ k' = n.y.toNat) ∧ a' = a) ∨ (n.op = 3 ∧ k' = n.x.toNat ∧ a' = a ∧ a = 0) ∨ (n.op = 4 ∧ k' = n.x.toNat ∧ a' = a ∧ a = s.length)) ↔ (k' = n.x.toNat ∧ a' = a + 1 ∧ ∃ c, s[a]? = some c ∧ n.c.has c.toNat = true) := by
        intro k' a'
        constructor
        · rintro (⟨_, h⟩ | ⟨h, _⟩ | ⟨h, _⟩ | ⟨h, _⟩)
          · exact h
          · omega
          · omega
          · omega
        · intro h
          exact Or.inl ⟨h1, h⟩
      simp only [e]
      cases hc : s[a]? with
      | none => simp
      | some c =>
        have hlt : a < s.length := by
          rcases Nat.lt_or_ge a s.length with h' | h'
          · exact h'
          · rw [List.getElem?_eq_none h'] at hc; cases hc
        simp only [Option.some.injEq, exists_eq_left']
        by_cases hh : n.c.has c.toNat = true
        · rw [if_pos hh, List.mem_singleton]
          constructor
          · rintro rfl
            exact ⟨_, _, ⟨rfl, rfl, hh⟩, by omega, by omega⟩
          · rintro ⟨k', a', ⟨rfl, rfl, _⟩, _, rfl⟩
            omega
        · rw [if_neg hh]
          constructor
          · intro h; cases h
          · rintro ⟨k', a', ⟨_, _, h⟩, _⟩
            exact absurd h hh
    · rw [if_neg h1]
      by_cases h2 : n.op = 2
      · rw [if_pos h2, List.mem_cons, List.mem_singleton]
        constructor
        · rintro (rfl | rfl)
          · exact ⟨_, _, Or.inr (Or.inl ⟨h2, Or.inl rfl, rfl⟩), ha, rfl⟩
          · exact ⟨_, _, Or.inr (Or.inl ⟨h2, Or.inr rfl, rfl⟩), ha, rfl⟩
        · rintro ⟨k', a', h | ⟨_, h, rfl⟩ | h | h, _, rfl⟩
          · exact absurd h.1 h1
          · rcases h with rfl | rfl
            · exact Or.inl rfl
            · exact Or.inr rfl
          · have := h.1; omega
          · have := h.1; omega
      · rw [if_neg h2]
        by_cases h3 : n.op = 3
        · rw [if_pos h3]
          by_cases h0 : a = 0
          · rw [if_pos h0, List.mem_singleton]
            constructor
            · rintro rfl
              exact ⟨_, _, Or.inr (Or.inr (Or.inl ⟨h3, rfl, rfl, h0⟩)), ha, rfl⟩
            · rintro ⟨k', a', h | h | ⟨_, rfl, rfl, _⟩ | h, _, rfl⟩
              · exact absurd h.1 h1
              · exact absurd h.1 h2
              · rfl
              · have := h.1; omega
          · rw [if_neg h0]
            constructor
            · intro h; cases h
            · rintro ⟨k', a', h | h | ⟨_, _, _, h⟩ | h, _⟩
              · exact absurd h.1 h1
              · exact absurd h.1 h2
              · exact absurd h h0
              · have := h.1; omega
        · rw [if_neg h3]
          by_cases h4 : n.op = 4
          · rw [if_pos h4]
            by_cases h0 : a = s.length
            · rw [if_pos h0, List.mem_singleton]
              constructor
              · rintro rfl
                exact ⟨_, _, Or.inr (Or.inr (Or.inr ⟨h4, rfl, rfl, h0⟩)), ha, rfl⟩
              · rintro ⟨k', a', h | h | h | ⟨_, rfl, rfl, _⟩, _, rfl⟩
                · exact absurd h.1 h1
                · exact absurd h.1 h2
                · exact absurd h.1 h3
                · rfl
            · rw [if_neg h0]
              constructor
              · intro h; cases h
              · rintro ⟨k', a', h | h | h | ⟨_, _, _, h⟩, _⟩
                · exact absurd h.1 h1
                · exact absurd h.1 h2
                · exact absurd h.1 h3
                · exact absurd h h0
          · rw [if_neg h4]
            constructor
            · intro h; cases h
            · rintro ⟨k', a', h | h | h | h, _⟩
              · exact absurd h.1 h1
              · exact absurd h.1 h2
              · exact absurd h.1 h3
              · exact absurd h.1 h4
theorem rch_pth (ss : List St) (s : List UInt8) {i q : Nat} (hi : i ≤ s.length) (h : Rch ss s i q) : ∃ n k a, a ≤ s.length ∧ q = k * (s.length + 1) + a ∧ Pth ss s n 0 i k a := by
  induction h with
  | base => exact ⟨0, 0, i, hi, by simp, .nil _ _⟩
  | step q q' _ hn ih =>
    obtain ⟨n, k, a, ha, rfl, hp⟩ := ih
    obtain ⟨k', a', hs, ha', rfl⟩ := (nx_stp ss s ha).1 hn
    exact ⟨n + 1, k', a', ha', rfl, hp.trans (.one hs)⟩
theorem stp_le {ss : List St} {s : List UInt8} {k a k' a' : Nat} (ha : a ≤ s.length) (h : Stp ss s k a k' a') : a' ≤ s.length := by
  obtain ⟨n, _, ⟨_, _, h2, c, hc, _⟩ | ⟨_, _, h2⟩ | ⟨_, _, h2, _⟩ | ⟨_, _, h2, _⟩⟩ := h
  · have hlt : a < s.length := by
      rcases Nat.lt_or_ge a s.length with h' | h'
      · exact h'
      · rw [List.getElem?_eq_none h'] at hc; cases hc
    omega
  · omega
  · omega
  · omega
theorem pth_rch {ss : List St} {s : List UInt8} {q0 n k a k' a' : Nat} (h : Pth ss s n k a k' a') : a ≤ s.length → Rch ss s q0 (k * (s.length + 1) + a) → a' ≤ s.length ∧ Rch ss s q0 (k' * (s.length + 1) + a') := by
  induction h with
  | nil k a => exact fun h1 h2 => ⟨h1, h2⟩
  | cons m k a k1 a1 k' a' hs _ ih =>
    intro h1 h2
    have h3 := stp_le h1 hs
    exact ih h3 (.step _ _ h2 ((nx_stp ss s h1).2 ⟨k1, a1, hs, h3, rfl⟩))
/-- THE PROGRAM FITS WHAT THE PATTERN FITS. -/
theorem run_fit (t : Rx) (ht : t.Ok) (ho : ∀ n ∈ t.flat, 1 ≤ n.op ∧ n.op ≤ 9) (s : List UInt8) (i j : Nat) (hi : i ≤ s.length) : (∃ q, Rch t.prog s i q ∧ dn t.prog s q = true ∧ q % (s.length + 1) = j) ↔ Fit s t i j := by
  constructor
  · rintro ⟨q, hq, hd, rfl⟩
    obtain ⟨n, k, a, ha, rfl, hp⟩ := rch_pth t.prog s hi hq
    obtain ⟨h1, h2⟩ := spot_div (N := s.length + 1) (k := k) (a := a) (by omega)
    unfold dn at hd
    rw [h1] at hd
    rw [h2]
    cases hn : t.prog[k]? with
    | none => rw [hn] at hd; cases hd
    | some x =>
      rw [hn] at hd
      have hk := prog_five t hn (by simpa using hd)
      subst hk
      obtain ⟨j, m, _, hf, hr⟩ := path_fit t.prog s t ht ho 0 (prog_seg t) n i _ a hi hp (by omega)
      rw [Nat.zero_add] at hr
      cases hr with
      | nil => exact hf
      | cons m _ _ k1 a1 _ _ hs _ =>
        obtain ⟨y, hy, hc⟩ := hs
        rw [prog_done] at hy
        obtain rfl := Option.some.inj hy
        rcases hc with ⟨h, _⟩ | ⟨h, _⟩ | ⟨h, _⟩ | ⟨h, _⟩ <;> simp at h
  · intro hf
    have hj := (fit_le s t i j hf).2
    obtain ⟨m, hp⟩ := fit_path t.prog s t ht ho 0 i j (prog_seg t) hf
    rw [Nat.zero_add] at hp
    obtain ⟨_, hr⟩ := pth_rch (q0 := i) hp hi (by rw [Nat.zero_mul, Nat.zero_add]; exact .base)
    obtain ⟨h1, h2⟩ := spot_div (N := s.length + 1) (k := (t.cod 0).length) (a := j) (by omega)
    refine ⟨_, hr, ?_, h2⟩
    unfold dn
    rw [h1, prog_done]
    rfl
theorem run_ends (t : Rx) (ht : t.Ok) (ho : ∀ n ∈ t.flat, 1 ≤ n.op ∧ n.op ≤ 9) (s : List UInt8) (i : Nat) (hi : i ≤ s.length) (l : List Nat) : RunR t.prog s i l ↔ EndsR s t i l := by
  unfold RunR EndsR
  simp only [run_fit t ht ho s i _ hi]
end Go.Proofs.YtjhlfiljdohcoaaDoor
namespace Go.Proofs.YtjhlfiljdohcoaaDoor
set_option linter.unusedSimpArgs false
set_option linter.unusedVariables false
set_option maxRecDepth 100000
open Go.RowKit
set_option maxHeartbeats 400000 in
theorem with_any (k : C4) (x : Int) (w : World) (h : 0 ≤ x) (h2 : x < 256) :
    Calls Tryd.prog 24 #[k.v, .int .u8 x] w fun e w' => e = .returned (k.add x).v ∧ Below w.heap.size w w' := by
  have hw := k.get (x/64).toNat (by omega)
  have hs := k.set (x/64).toNat (by omega)
  go_enter Tryd.func24, Tryd.ntmps24
  go_wp2
  refine bodyPost_ret (v := (k.add x).v) (by simp [results, Tryd.results24, go_sem]; exact ⟨rfl, rfl, rfl, rfl⟩) rfl ⟨rfl, ?_⟩
  exact ((Below.refl _ _).alloc (Nat.le_refl _) _).alloc (by simp) _
end Go.Proofs.YtjhlfiljdohcoaaDoor
namespace Go.Proofs.YtjhlfiljdohcoaaDoor
set_option linter.unusedSimpArgs false
set_option linter.unusedVariables false
set_option maxRecDepth 100000
open Go.RowKit
set_option maxHeartbeats 1000000 in
theorem of_any (s : ByteArray) (w : World) (hs : s.size ≤ maxLen) :
    Calls Tryd.prog 8 #[.string s] w fun e w' => e = .returned (C4.ofL s.data.toList).v ∧ Below w.heap.size w w' := by
  unfold maxLen at hs
  go_enter Tryd.func8, Tryd.ntmps8
  go_wp2
  go_loopw [7] (fun i wr => ∃ k : Nat, k ≤ s.size ∧ i = .int .i64 k ∧ Below w.heap.size w wr ∧ Hb wr w.heap.size z4 ∧ Hb wr (w.heap.size + 1) (C4.ofL (s.data.toList.take k))) (fun i _ => s.size - (intOf i).toNat)
  case atStart =>
    refine ⟨0, by omega, rfl, ?_, ?_, ?_⟩
    · exact ((Below.refl _ _).alloc (Nat.le_refl _) _).alloc (by simp) _
    · exact (Hb.new _ z4 _ rfl).alloc _
    · exact Hb.new _ z4 _ (by simp)
  case round =>
    obtain ⟨k, hk, rfl, hB, hZ, hC⟩ := hrel
    by_cases hlt : k < s.size
    · obtain ⟨c0, c1, c2, c3, e0, e1, e2, e3⟩ := hC.all
      have i0 : (0 : Int) ≤ (k : Int) := by omega
      have i1 : (k : Int) < (s.size : Int) := by omega
      have hg : s.data.toList[k]? = some s[k] := by
        rw [List.getElem?_eq_getElem (by simpa using hlt)]; rfl
      have hts : s.data.toList.take (k + 1) = s.data.toList.take k ++ [s[k]] := by
        rw [List.take_succ_eq_append_getElem (by simpa using hlt)]; rfl
      have HT : Hid (C4.ofL (s.data.toList.take (k + 1)) = (C4.ofL (s.data.toList.take k)).add (s[k].toNat : Int)) := by rw [hts, C4.ofL_snoc]; exact rfl
      clear hts hg
      have hlb : (s[k].toNat : Int) < 256 := by have := s[k].toNat_lt; omega
      have hl0 : (0 : Int) ≤ (s[k].toNat : Int) := by omega
      go_wp2_with fail
      go_region_with (first | (go_at_call 24; refine (with_any (C4.ofL (s.data.toList.take k)) _ _ hl0 hlb).mono ?_; rintro e w' ⟨rfl, hb⟩; have hC1 := Hb.below hC.drew hb hC.lt; obtain ⟨g0, g1, g2, g3, q0, q1, q2, q3⟩ := hC1.all))
      all_goals
        go_wp2
        refine ⟨⟨k + 1, by omega, by go_num, ?_, ?_, ?_⟩, by simp [intOf]; omega⟩
        · exact below_put4 (hB.drew.trans (hb.mono hB.size)) (by omega) _
        · exact Hb.other4 (Hb.below hZ.drew hb hZ.lt) _ (by omega)
        · rw [HT.out]; exact hC1.put4 _
    · have hk4 : k = s.size := by omega
      subst hk4
      have ht : s.data.toList.take s.size = s.data.toList := List.take_of_length_le (by simp)
      rw [ht] at hC
      clear ht
      obtain ⟨c0, c1, c2, c3, e0, e1, e2, e3⟩ := hC.all
      obtain ⟨d0, d1, d2, d3, f0, f1, f2, f3⟩ := hZ.all
      go_wp2
      have hq := hZ.put4 (C4.ofL s.data.toList)
      refine bodyPost_ret (v := (C4.ofL s.data.toList).v) (by simp [results, Tryd.results8, go_sem, hq.c0, hq.c1, hq.c2, hq.c3]) rfl ⟨rfl, ?_⟩
      exact below_put4 hB (by omega) _
end Go.Proofs.YtjhlfiljdohcoaaDoor
namespace Go.Proofs.YtjhlfiljdohcoaaDoor
set_option linter.unusedSimpArgs false
set_option linter.unusedVariables false
open Go.RowKit
def kA : C4 := C4.ofL [97]
def kB : C4 := C4.ofL [98]
theorem ofA : ∀ w, Calls Tryd.prog 8 #[.string ⟨#[97]⟩] w fun e w' => e = .returned kA.v ∧ Below w.heap.size w w' := fun w => of_any ⟨#[97]⟩ w (by decide)
theorem ofB : ∀ w, Calls Tryd.prog 8 #[.string ⟨#[98]⟩] w fun e w' => e = .returned kB.v ∧ Below w.heap.size w w' := fun w => of_any ⟨#[98]⟩ w (by decide)
theorem kA_ok : kA.ok ∧ kA.has 97 = true := ⟨ofL_ok _, by unfold kA; rw [ofL_has _ _ (by decide)]; decide⟩
theorem kB_ok : kB.ok ∧ kB.has 98 = true := ⟨ofL_ok _, by unfold kB; rw [ofL_has _ _ (by decide)]; decide⟩
theorem kA_not : kA.ok ∧ kA.has 97 = true ∧ kA.has 98 = false := ⟨ofL_ok _, kA_ok.2, by unfold kA; rw [ofL_has _ _ (by decide)]; decide⟩
end Go.Proofs.YtjhlfiljdohcoaaDoor
