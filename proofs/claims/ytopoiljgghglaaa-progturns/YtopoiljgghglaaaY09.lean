/- A program, all ways at once: what is come to at one place, and the next one: plain mathematics. append, of a number. The landed sim: check, isDone. class.Has. The landed sim: taken. -/
import Derived.Test.YtopoiljgghglaaaY04
import Derived.Test.YtopoiljgghglaaaY05
import Derived.OwnWalk
import Derived.KernelRfl
import Derived.Test.YtopoiljgghglaaaY08
import Derived.Test.YtopoiljgghglaaaY01
namespace Go.Proofs.Ytopoiljgghglaaa
set_option linter.unusedSimpArgs false
set_option linter.unusedVariables false
set_option maxRecDepth 100000
open Go.RowKit

/-- As many steps as one likes at one place. -/
inductive Sta (ss : List St) (s : List UInt8) (a : Nat) : Nat → Nat → Prop
  | nil (k : Nat) : Sta ss s a k k
  | cons (k k1 k2 : Nat) : Stp ss s k a k1 a → Sta ss s a k1 k2 → Sta ss s a k k2
theorem Sta.snoc {ss : List St} {s : List UInt8} {a k k1 k2 : Nat} (h : Sta ss s a k k1) (h2 : Stp ss s k1 a k2 a) : Sta ss s a k k2 := by
  induction h with
  | nil k => exact .cons _ _ _ h2 (.nil _)
  | cons k k1 k2 h _ ih => exact .cons _ _ _ h (ih h2)
theorem Sta.trans {ss : List St} {s : List UInt8} {a k k1 k2 : Nat} (h : Sta ss s a k k1) (h2 : Sta ss s a k1 k2) : Sta ss s a k k2 := by
  induction h with
  | nil k => exact h2
  | cons k k1 k2 h _ ih => exact .cons _ _ _ h (ih h2)
/-- What is seen, S, has become S' by going on from the steps K. -/
structure Vst (ss : List St) (s : List UInt8) (a : Nat) (S S' K : List Nat) : Prop where
  pre : ∃ m, S' = S ++ m
  has : ∀ k ∈ K, k ∈ S'
  sound : ∀ x ∈ S', x ∈ S ∨ ∃ k ∈ K, Sta ss s a k x
  shut : ∀ x ∈ S', x ∈ S ∨ ∀ y, Stp ss s x a y a → y ∈ S'
theorem Vst.sub {ss : List St} {s : List UInt8} {a : Nat} {S S' K : List Nat} (h : Vst ss s a S S' K) : ∀ x ∈ S, x ∈ S' := fun x hx => by
  obtain ⟨m, rfl⟩ := h.pre
  simp [hx]
theorem Vst.refl (ss : List St) (s : List UInt8) (a : Nat) (S K : List Nat) (h : ∀ k ∈ K, k ∈ S) : Vst ss s a S S K := ⟨⟨[], by simp⟩, h, fun x hx => Or.inl hx, fun x hx => Or.inl hx⟩
theorem Vst.comp {ss : List St} {s : List UInt8} {a : Nat} {S S1 S2 K L : List Nat} (h : Vst ss s a S S1 K) (g : Vst ss s a S1 S2 L) : Vst ss s a S S2 (K ++ L) where
  pre := by
    obtain ⟨m, rfl⟩ := h.pre
    obtain ⟨m', rfl⟩ := g.pre
    exact ⟨m ++ m', by simp⟩
  has := fun k hk => by
    rcases List.mem_append.1 hk with hk | hk
    · exact g.sub k (h.has k hk)
    · exact g.has k hk
  sound := fun x hx => by
    rcases g.sound x hx with h1 | ⟨k, hk, h1⟩
    · rcases h.sound x h1 with h2 | ⟨k, hk, h2⟩
      · exact Or.inl h2
      · exact Or.inr ⟨k, by simp [hk], h2⟩
    · exact Or.inr ⟨k, by simp [hk], h1⟩
  shut := fun x hx => by
    rcases g.shut x hx with h1 | h1
    · rcases h.shut x h1 with h2 | h2
      · exact Or.inl h2
      · exact Or.inr fun y hy => g.sub y (h2 y hy)
    · exact Or.inr h1
/-- One that was not seen is entered; behind it are K. -/
theorem Vst.enter {ss : List St} {s : List UInt8} {a k : Nat} {S S' K : List Nat} (h : Vst ss s a (S ++ [k]) S' K) (hK : ∀ y, Stp ss s k a y a ↔ y ∈ K) : Vst ss s a S S' [k] where
  pre := by
    obtain ⟨m, rfl⟩ := h.pre
    exact ⟨k :: m, by simp⟩
  has := fun x hx => by
    rw [List.mem_singleton.1 hx]
    exact h.sub k (by simp)
  sound := fun x hx => by
    rcases h.sound x hx with h1 | ⟨y, hy, h1⟩
    · rcases List.mem_append.1 h1 with h2 | h2
      · exact Or.inl h2
      · rw [List.mem_singleton.1 h2]
        exact Or.inr ⟨k, by simp, .nil _⟩
    · exact Or.inr ⟨k, by simp, .cons _ _ _ ((hK y).2 hy) h1⟩
  shut := fun x hx => by
    rcases h.shut x hx with h1 | h1
    · rcases List.mem_append.1 h1 with h2 | h2
      · exact Or.inl h2
      · rw [List.mem_singleton.1 h2]
        exact Or.inr fun y hy => h.has y ((hK y).1 hy)
    · exact Or.inr h1
/-- F is what is come to from b, at a place. -/
def Clo (ss : List St) (s : List UInt8) (a : Nat) (b F : List Nat) : Prop := ∀ k, k ∈ F ↔ ∃ k0 ∈ b, Sta ss s a k0 k
theorem Vst.clo {ss : List St} {s : List UInt8} {a : Nat} {b F : List Nat} (h : Vst ss s a [] F b) : Clo ss s a b F := by
  intro k
  constructor
  · intro hk
    rcases h.sound k hk with h1 | h1
    · cases h1
    · exact h1
  · rintro ⟨k0, hk0, h1⟩
    have h2 := h.has k0 hk0
    clear hk0
    induction h1 with
    | nil k => exact h2
    | cons k k1 k2 hs _ ih =>
      refine ih ?_
      rcases h.shut k h2 with h3 | h3
      · cases h3
      · exact h3 k1 hs
/-- What is come to from step 0 at place i. -/
inductive Rc (ss : List St) (s : List UInt8) (i : Nat) : Nat → Nat → Prop
  | base : Rc ss s i 0 i
  | step (k a k' a' : Nat) : Rc ss s i k a → Stp ss s k a k' a' → Rc ss s i k' a'
theorem Rc.sta {ss : List St} {s : List UInt8} {i k a k' : Nat} (h : Rc ss s i k a) (h2 : Sta ss s a k k') : Rc ss s i k' a := by
  induction h2 with
  | nil k => exact h
  | cons k k1 k2 hs _ ih => exact ih (.step _ _ _ _ h hs)
theorem Rc.le {ss : List St} {s : List UInt8} {i k a : Nat} (hi : i ≤ s.length) (h : Rc ss s i k a) : i ≤ a ∧ a ≤ s.length := by
  induction h with
  | base => exact ⟨Nat.le_refl _, hi⟩
  | step k a k' a' _ hs ih =>
    refine ⟨?_, stp_le ih.2 hs⟩
    obtain ⟨n, _, ⟨_, _, h, _⟩ | ⟨_, _, h⟩ | ⟨_, _, h, _⟩ | ⟨_, _, h, _⟩⟩ := hs <;> omega
theorem stp_place {ss : List St} {s : List UInt8} {k a k' a' : Nat} (hs : Stp ss s k a k' a') : a' = a ∨ a' = a + 1 := by
  obtain ⟨n, _, ⟨_, _, h, _⟩ | ⟨_, _, h⟩ | ⟨_, _, h, _⟩ | ⟨_, _, h, _⟩⟩ := hs <;> omega
/-- The last byte that was taken. -/
theorem Rc.last {ss : List St} {s : List UInt8} {i k a : Nat} (h : Rc ss s i k a) : (a = i ∧ Sta ss s a 0 k) ∨ ∃ a0 k0 k1, a = a0 + 1 ∧ Rc ss s i k0 a0 ∧ Stp ss s k0 a0 k1 (a0 + 1) ∧ Sta ss s a k1 k := by
  induction h with
  | base => exact Or.inl ⟨rfl, .nil _⟩
  | step k a k' a' hr hs ih =>
    rcases stp_place hs with rfl | rfl
    · rcases ih with ⟨h1, h2⟩ | ⟨a0, k0, k1, h1, h2, h3, h4⟩
      · exact Or.inl ⟨h1, h2.snoc hs⟩
      · exact Or.inr ⟨a0, k0, k1, h1, h2, h3, h4.snoc hs⟩
    · exact Or.inr ⟨a, k, k', rfl, hr, hs, .nil _⟩
/-- b is where the program begins at place a. -/
def Bgn (ss : List St) (s : List UInt8) (i a : Nat) (b : List Nat) : Prop := ∀ k, Rc ss s i k a ↔ ∃ k0 ∈ b, Sta ss s a k0 k
/-- b' is where it goes on behind the byte at a place. -/
def Tkn (ss : List St) (s : List UInt8) (a : Nat) (F b' : List Nat) : Prop := ∀ k', k' ∈ b' ↔ ∃ k ∈ F, Stp ss s k a k' (a + 1)
theorem bgn_init (ss : List St) (s : List UInt8) (i : Nat) (hi : i ≤ s.length) : Bgn ss s i i [0] := by
  intro k
  constructor
  · intro h
    rcases h.last with ⟨_, h1⟩ | ⟨a0, k0, k1, h1, h2, _, _⟩
    · exact ⟨0, by simp, h1⟩
    · have := (h2.le hi).1
      omega
  · rintro ⟨k0, hk, h⟩
    rw [List.mem_singleton.1 hk] at h
    exact Rc.base.sta h
theorem Bgn.clo {ss : List St} {s : List UInt8} {i a : Nat} {b F : List Nat} (h : Bgn ss s i a b) (hF : Clo ss s a b F) (k : Nat) : k ∈ F ↔ Rc ss s i k a := (hF k).trans (h k).symm
theorem Bgn.next {ss : List St} {s : List UInt8} {i a : Nat} {b F b' : List Nat} (hia : i ≤ a) (h : Bgn ss s i a b) (hF : Clo ss s a b F) (hT : Tkn ss s a F b') : Bgn ss s i (a + 1) b' := by
  intro k
  constructor
  · intro hr
    rcases hr.last with ⟨h1, _⟩ | ⟨a0, k0, k1, h1, h2, h3, h4⟩
    · omega
    · obtain rfl : a0 = a := by omega
      exact ⟨k1, (hT k1).2 ⟨k0, (h.clo hF k0).2 h2, h3⟩, h4⟩
  · rintro ⟨k1, hk1, h4⟩
    obtain ⟨k0, hk0, h3⟩ := (hT k1).1 hk1
    exact (Rc.step _ _ _ _ ((h.clo hF k0).1 hk0) h3).sta h4
/-- A place at which it is done. -/
def Dne (ss : List St) (k : Nat) : Prop := ∃ n, ss[k]? = some n ∧ n.op = 5
theorem rc_rch {ss : List St} {s : List UInt8} {i k a : Nat} (hi : i ≤ s.length) (h : Rc ss s i k a) : Rch ss s i (k * (s.length + 1) + a) := by
  induction h with
  | base => simpa using Rch.base
  | step k a k' a' hr hs ih =>
    have ha := (hr.le hi).2
    exact .step _ _ ih ((nx_stp ss s ha).2 ⟨k', a', hs, stp_le ha hs, rfl⟩)
theorem pth_rc {ss : List St} {s : List UInt8} {i m k a k' a' : Nat} (h : Pth ss s m k a k' a') : Rc ss s i k a → Rc ss s i k' a' := by
  induction h with
  | nil k a => exact id
  | cons m k a k1 a1 k' a' hs _ ih => exact fun hr => ih (.step _ _ _ _ hr hs)
theorem run_mem {ss : List St} {s : List UInt8} {i : Nat} (hi : i ≤ s.length) {l : List Nat} (hl : RunR ss s i l) (j : Nat) : j ∈ l ↔ ∃ k, Rc ss s i k j ∧ Dne ss k := by
  rw [hl.2 j]
  constructor
  · rintro ⟨q, hq, hd, rfl⟩
    obtain ⟨n, k, a, ha, rfl, hp⟩ := rch_pth ss s hi hq
    have hsd := spot_div (N := s.length + 1) (k := k) (a := a) (by omega)
    rw [hsd.2]
    refine ⟨k, pth_rc hp .base, ?_⟩
    unfold dn at hd
    rw [hsd.1] at hd
    cases hn : ss[k]? with
    | none => rw [hn] at hd; cases hd
    | some n => rw [hn] at hd; exact ⟨n, hn, of_decide_eq_true hd⟩
  · rintro ⟨k, hr, n, hn, h5⟩
    have ha := (hr.le hi).2
    have hsd := spot_div (N := s.length + 1) (k := k) (a := j) (by omega)
    refine ⟨_, rc_rch hi hr, ?_, hsd.2⟩
    unfold dn
    rw [hsd.1, hn]
    exact decide_eq_true h5
/-- The ends ahead of a place. -/
def ahead (l : List Nat) (a : Nat) : List Nat := l.filter fun j => decide (j < a)
theorem ahead_yes {l : List Nat} (hl : l.Pairwise (· < ·)) (a : Nat) (ha : a ∈ l) : ahead l (a + 1) = ahead l a ++ [a] := by
  induction l with
  | nil => cases ha
  | cons x r ih =>
    rw [List.pairwise_cons] at hl
    rcases List.mem_cons.1 ha with rfl | ha
    · have h1 : ahead r (a + 1) = [] := List.filter_eq_nil_iff.2 fun j hj => by
        have := hl.1 j hj
        simp
        omega
      have h2 : ahead r a = [] := List.filter_eq_nil_iff.2 fun j hj => by
        have := hl.1 j hj
        simp
        omega
      unfold ahead at h1 h2 ⊢
      simp [h1, h2]
    · have hx := hl.1 a ha
      have := ih hl.2 ha
      unfold ahead at this ⊢
      simp [this, show x < a + 1 by omega, hx]
theorem ahead_no {l : List Nat} (a : Nat) (ha : ¬ a ∈ l) : ahead l (a + 1) = ahead l a := by
  unfold ahead
  refine List.filter_congr fun j hj => ?_
  have : j ≠ a := fun e => ha (e ▸ hj)
  rw [decide_eq_decide]
  omega
theorem ahead_all {l : List Nat} (a : Nat) (h : ∀ j ∈ l, j < a) : ahead l a = l := List.filter_eq_self.2 fun j hj => decide_eq_true (h j hj)
theorem ahead_none {l : List Nat} (a : Nat) (h : ∀ j ∈ l, a ≤ j) : ahead l a = [] := List.filter_eq_nil_iff.2 fun j hj => by
  have := h j hj
  simp
  omega
/-- Where nothing is begun nothing is come to, there and behind. -/
theorem Bgn.none {ss : List St} {s : List UInt8} {i a : Nat} (h : Bgn ss s i a []) (hia : i ≤ a) : ∀ k a', Rc ss s i k a' → a' < a := by
  have key : ∀ d k, ¬ Rc ss s i k (a + d) := by
    intro d
    induction d with
    | zero =>
      intro k hr
      obtain ⟨k0, hk0, _⟩ := (h k).1 hr
      cases hk0
    | succ d ih =>
      intro k hr
      rcases hr.last with ⟨h1, _⟩ | ⟨a0, k0, k1, h1, h2, _, _⟩
      · omega
      · obtain rfl : a0 = a + d := by omega
        exact ih k0 h2
  intro k a' hr
  rcases Nat.lt_or_ge a' a with h1 | h1
  · exact h1
  · obtain ⟨d, rfl⟩ : ∃ d, a' = a + d := ⟨a' - a, by omega⟩
    exact absurd hr (key d k)
/-- Numbers below N, each once, are N at most. -/
theorem nodup_le (N : Nat) : ∀ (l : List Nat), l.Nodup → (∀ x ∈ l, x < N) → l.length ≤ N := by
  induction N with
  | zero =>
    intro l _ h
    cases l with
    | nil => simp
    | cons x r => exact absurd (h x (by simp)) (by omega)
  | succ N ih =>
    intro l hn h
    have h1 := ih (l.erase N) (hn.erase N) fun x hx => by
      have h2 := h x (List.mem_of_mem_erase hx)
      have h3 : x ≠ N := fun e => by
        subst e
        exact hn.not_mem_erase hx
      omega
    by_cases hN : N ∈ l
    · rw [List.length_erase_of_mem hN] at h1
      omega
    · rw [List.erase_of_not_mem hN] at h1
      omega
end Go.Proofs.Ytopoiljgghglaaa
namespace Go.Proofs.Ytopoiljgghglaaa
set_option linter.unusedSimpArgs false
set_option linter.unusedVariables false
set_option maxRecDepth 100000
open Go.RowKit
def isCells (l : List Nat) : List Value := l.map fun x : Nat => Value.int .i64 (x : Int)
/-- A slice of the call's own that reads as the numbers l. -/
def IsOwn (w : World) (B : Nat) (v : Value) (l : List Nat) : Prop := w.ownsRow B 3 1 v l.length (isCells l)
theorem IsOwn.nil (w : World) (B : Nat) : IsOwn w B (.slice none 0 0) [] := ⟨rfl, Or.inl ⟨rfl, rfl⟩⟩
theorem IsOwn.isIn {w : World} {B : Nat} {v : Value} {l : List Nat} (h : IsOwn w B v l) (hm : l.length ≤ maxLen) : IsIn w v l := by
  rcases h.2 with ⟨hv, h0⟩ | ⟨g, cap, cur, hv, hb, hg, hc, _⟩
  · have e : l = [] := List.eq_nil_of_length_eq_zero h0
    subst e
    rw [hv]
    exact isIn_nil w
  · refine ⟨_, _, hv, hm, Or.inr ⟨g, 0, rfl, ?_, ?_⟩⟩
    · rcases Nat.lt_or_ge g w.heap.size with h' | h'
      · exact h'
      · rw [Array.getElem?_eq_none h'] at hg; cases hg
    · intro i x hx
      have := h.cells (g := g) (by rw [hv]; rfl) i (.int .i64 (x : Int)) (by simp [isCells, hx])
      rw [Addr.add_lit] at this
      exact this
theorem IsOwn.kept {w w' : World} {B : Nat} {v : Value} {l : List Nat} (h : IsOwn w B v l) (hb : Below w.heap.size w w') : IsOwn w' B v l := by
  refine World.ownsRow.kept (row := none) h ⟨hb.os, hb.tape, hb.output, hb.size, fun k hk _ => hb.block k hk⟩ ?_
  cases hv : v.ownBlock with
  | none => exact Or.inl rfl
  | some x => exact Or.inr (by simp)
theorem IsOwn.form {w : World} {B : Nat} {v : Value} {l : List Nat} (h : IsOwn w B v l) : ∃ a cap, v = .slice a l.length cap := by
  rcases h.2 with ⟨hv, h0⟩ | ⟨g, cap, cur, hv, _⟩
  · exact ⟨none, 0, by rw [hv, h0]⟩
  · exact ⟨_, _, hv⟩
theorem IsOwn.grown {w w' : World} {B : Nat} {v : Value} {l : List Nat} (h : IsOwn w B v l) (hB : B ≤ w.heap.size) (hg : w.grownBy w' v.ownBlock) : Below B w w' := by
  refine ⟨hg.os, hg.tape, hg.output, hg.size, fun k hk => hg.block k (by omega) ?_⟩
  intro e
  rcases h.2 with ⟨hv, _⟩ | ⟨b, cap, cur, hv, hb, _⟩
  · rw [hv] at e; cases e
  · rw [hv] at e
    injection e with e
    simp only at e
    omega
/-- append of one number, which lies in a new row. -/
theorem wpList_append_is {ops : Array Oper} {rest : List Oper} {o : Oper} {a : Act} {Q : Exit → Act → World → Prop} {w : World} (hgd : o.guard = none) (s x : Operand)
    (ho : o.op = .call { callee := .builtin .append, args := #[s, x], argTypes := #[38, 38] })
    (B : Nat) (v : Value) (hs : a.eval s = v) (l : List Nat) (hown : IsOwn w B v l) (g2 c2 n : Nat) (hx : a.eval x = .slice (some ⟨g2, 0, none⟩) 1 c2)
    (hnew : w.cell? ⟨g2, 0, none⟩ = some (.int .i64 (n : Int))) (hlen : l.length ≤ 1000000000) (hbase : B ≤ w.heap.size)
    (h : ∀ g cap w', IsOwn w' B (.slice (some ⟨g, 0, none⟩) (l.length + 1) cap) (l ++ [n]) → w.grownBy w' v.ownBlock → B ≤ g → g < w'.heap.size → wpList Try.prog ops Q rest (a.put o.dst (.slice (some ⟨g, 0, none⟩) (l.length + 1) cap)) w') : wpList Try.prog ops Q (o :: rest) a w := by
  have hinfo : (Try.prog.info? 3).map (fun i => (i.zero, i.size, i.bytes)) = some (some (.int .i64 0), 1, 8) := by kernel_rfl
  obtain ⟨i0, hi, hz0, hz1, hz2⟩ := info_parts hinfo
  refine wpList_append_lies w hgd s x 38 ho B 3 i0 _ 1 8 Try.underlying38 hi hz0 hz1 hz2 rfl (by decide) v l.length (isCells l) hs hown ⟨g2, 0, none⟩ 1 c2 (isCells [n]) hx rfl ?_ (by simp [isCells, Value.oneCell']) (by omega) (by unfold maxLen; omega) (by omega) hbase _ rfl ?_
  · intro j u hj
    cases j with
    | zero =>
      simp [isCells] at hj
      subst hj
      rw [Addr.add_lit]
      exact hnew
    | succ j => simp [isCells] at hj
  · intro g cap w' h1 h2 h3 h4
    have e : IsOwn w' B (.slice (some ⟨g, 0, none⟩) (l.length + 1) cap) (l ++ [n]) := by
      unfold IsOwn
      simpa [isCells] using h1
    have hg : B ≤ g := by
      rcases h3 with h3 | h3
      · rcases hown.2 with ⟨hv, _⟩ | ⟨g', cap', cur, hv, hb, _⟩
        · rw [hv] at h3; cases h3
        · rw [hv] at h3
          injection h3 with h3
          simp at h3
          omega
      · omega
    exact h g cap w' e h2 hg h4
end Go.Proofs.Ytopoiljgghglaaa
namespace Go.Proofs.Ytopoiljgghglaaa
set_option linter.unusedSimpArgs false
set_option linter.unusedVariables false
set_option maxRecDepth 100000
open Go.RowKit
/-- A runner. -/
abbrev rnV (v : Value) (s : ByteArray) : Value := .agg #[v, .string s]
set_option maxHeartbeats 1000000 in
theorem scheck_any (ss : List St) (v : Value) (s : ByteArray) (i : Int) (w : World) (hS : SsIn w v ss) (hs : s.size ≤ maxLen) :
    Calls Try.prog 14 #[v, .string s, .int .i64 i] w fun e w' => e = .returned (errV (simE ss s.size i)) ∧ Below w.heap.size w w' := by
  have HC := hid (pcheck_any ss v w hS)
  obtain ⟨a, cap, rfl, hm⟩ := ssIn_form hS
  unfold maxLen at hs
  clear hS
  by_cases hf : stepsF ss = 0
  · rw [show errV (stepsF ss) = .nilIface by rw [hf]; rfl] at HC
    by_cases h4 : 400 < s.size
    · have HF : Hid (simE ss s.size i = 3) := by show _ = _; unfold simE; rw [if_pos hf, if_pos h4]
      have g4 : (400 : Int) < (s.size : Int) := by omega
      clear hf h4
      go_enter Try.func14, Try.ntmps14
      go_wp2_with fail
      refine Calls.mono HC.out ?_
      rintro e w1 ⟨rfl, hb⟩
      go_wp2
      go_ret
      exact ⟨by rw [HF.out]; rfl, hb⟩
    · have g4 : (s.size : Int) ≤ 400 := by omega
      by_cases h0 : 0 ≤ i
      · by_cases h1 : i ≤ (s.size : Int)
        · have HF : Hid (simE ss s.size i = 0) := by show _ = _; unfold simE; rw [if_pos hf, if_neg h4, if_pos ⟨h0, h1⟩]
          clear hf h4
          go_enter Try.func14, Try.ntmps14
          go_wp2_with fail
          refine Calls.mono HC.out ?_
          rintro e w1 ⟨rfl, hb⟩
          go_wp2
          go_ret
          exact ⟨by rw [HF.out]; rfl, hb⟩
        · have HF : Hid (simE ss s.size i = 1) := by show _ = _; unfold simE; rw [if_pos hf, if_neg h4, if_neg (by omega)]
          clear hf h4
          go_enter Try.func14, Try.ntmps14
          go_wp2_with fail
          refine Calls.mono HC.out ?_
          rintro e w1 ⟨rfl, hb⟩
          go_wp2
          go_ret
          exact ⟨by rw [HF.out]; rfl, hb⟩
      · have HF : Hid (simE ss s.size i = 1) := by show _ = _; unfold simE; rw [if_pos hf, if_neg h4, if_neg (by omega)]
        clear hf h4
        go_enter Try.func14, Try.ntmps14
        go_wp2_with fail
        refine Calls.mono HC.out ?_
        rintro e w1 ⟨rfl, hb⟩
        go_wp2
        go_ret
        exact ⟨by rw [HF.out]; rfl, hb⟩
  · have HF : Hid (simE ss s.size i = stepsF ss) := by show _ = _; unfold simE; rw [if_neg hf]
    rw [show errV (stepsF ss) = .iface 58 (.int .i64 (stepsF ss)) by unfold errV; rw [if_neg hf]] at HC
    go_enter Try.func14, Try.ntmps14
    go_wp2_with fail
    refine Calls.mono HC.out ?_
    rintro e w1 ⟨rfl, hb⟩
    go_wp2
    go_ret
    exact ⟨by rw [HF.out]; unfold errV; rw [if_neg hf]; rfl, hb⟩
/-- What isDone answers. -/
def DnP (ss : List St) (F : List Nat) (w : World) (e : Ending) (w' : World) : Prop := ∃ y, e = .returned (.bool y) ∧ (y = true ↔ ∃ k ∈ F, Dne ss k) ∧ Below w.heap.size w w'
set_option maxHeartbeats 2000000 in
theorem isDone_any (ss : List St) (b off cap : Nat) (h200 : ss.length ≤ 200) (s : ByteArray) (F : List Nat) (hF : ∀ x ∈ F, x < ss.length) (g o c : Nat) (hlen : F.length ≤ 200) (w : World) (hlt : b < w.heap.size) (hN : SsAt w b off ss) (hg : g < w.heap.size) (hI : IsAt w g o F) :
    Calls Try.prog 26 #[rnV (.slice (some ⟨b, off, none⟩) ss.length cap) s, .slice (some ⟨g, o, none⟩) F.length c] w (DnP ss F w) := by
  obtain ⟨ob, hob⟩ : ∃ ob : Obj, ob = .cells #[.slice (some ⟨b, off, none⟩) ss.length cap, .string s] 55 := ⟨_, rfl⟩
  have hB0 : Below w.heap.size w (w.alloc ob) := (Below.refl _ _).alloc (Nat.le_refl _) _
  have cr : (w.alloc ob).cell? ⟨w.heap.size, 0, none⟩ = some (.slice (some ⟨b, off, none⟩) ss.length cap) := by rw [hob]; simp
  have HN := hid (hN.below hB0 hlt)
  have HI := hid (hI.below hB0 hg)
  have HF := hid hF
  clear hN hI hF
  go_enter Try.func26, Try.ntmps26
  go_wp2_with fail
  rw [← hob]
  clear hob
  go_loopw [9] (fun v wr => ∃ i : Nat, i ≤ F.length ∧ v = .int .i64 i ∧ wr = w.alloc ob ∧ Hid (∀ k ∈ F.take i, ¬ Dne ss k)) (fun v _ => F.length - (intOf v).toNat)
  case atStart => exact ⟨0, by omega, rfl, rfl, fun k hk => by simp at hk⟩
  case round =>
    obtain ⟨i, hi, rfl, rfl, HS⟩ := hrel
    by_cases hil : i < F.length
    · obtain ⟨x, hx⟩ : ∃ x, F[i]? = some x := ⟨F[i], List.getElem?_eq_getElem hil⟩
      have hxF : x ∈ F := List.mem_of_getElem? hx
      have hxl := HF.out x hxF
      obtain ⟨n, hn⟩ : ∃ n, ss[x]? = some n := ⟨ss[x], List.getElem?_eq_getElem hxl⟩
      have ci := HI.out i x hx
      obtain ⟨c0, -⟩ := HN.out x n hn
      have g1 : (i : Int) < (F.length : Int) := by omega
      have g2 : (x : Int) < (ss.length : Int) := by omega
      by_cases h5 : n.op = 5
      · rw [h5] at c0
        have HY : Hid (∃ k ∈ F, Dne ss k) := ⟨x, hxF, n, hn, h5⟩
        clear hx hxF hn h5
        go_wp2
        go_ret
        exact ⟨true, rfl, by simp [HY.out], hB0⟩
      · have e5 : (n.op == 5) = false := by rw [beq_eq_false_iff_ne]; exact h5
        have HS2 : Hid (∀ k ∈ F.take (i + 1), ¬ Dne ss k) := by
          intro k hk
          rw [List.take_add_one, hx] at hk
          rcases List.mem_append.1 hk with hk | hk
          · exact HS.out k hk
          · simp at hk
            subst hk
            rintro ⟨n', hn', h5'⟩
            rw [hn] at hn'
            injection hn' with hn'
            exact h5 (hn' ▸ h5')
        clear hx hxF hn h5
        go_wp2
        exact ⟨⟨i + 1, by omega, by go_num, by first | rfl | trivial, HS2⟩, by simp [intOf]; omega⟩
    · have he : i = F.length := by omega
      have g1 : ¬ (i : Int) < (F.length : Int) := by omega
      have HY : Hid (∀ k ∈ F, ¬ Dne ss k) := fun k hk => HS.out k (by rw [he, List.take_length]; exact hk)
      clear HS he
      go_wp2
      go_ret
      refine ⟨false, rfl, ⟨fun h => (by cases h), fun ⟨k, hk, hd⟩ => absurd hd (HY.out k hk)⟩, hB0⟩
end Go.Proofs.Ytopoiljgghglaaa
namespace Go.Proofs.Ytopoiljgghglaaa
set_option linter.unusedSimpArgs false
set_option linter.unusedVariables false
set_option maxRecDepth 100000
open Go.RowKit
set_option maxHeartbeats 400000 in
theorem has_any (k : C4) (x : Int) (w : World) (h : 0 ≤ x) (h2 : x < 256) :
    Calls Try.prog 35 #[k.v, .int .u8 x] w fun e w' => e = .returned (.bool (k.hasI x)) ∧ Below w.heap.size w w' := by
  have hw := k.get (x/64).toNat (by omega)
  go_enter Try.func35, Try.ntmps35
  go_wp2
  go_ret
  exact ⟨rfl, (Below.refl _ _).alloc (Nat.le_refl _) _⟩
end Go.Proofs.Ytopoiljgghglaaa
namespace Go.Proofs.Ytopoiljgghglaaa
set_option linter.unusedSimpArgs false
set_option linter.unusedVariables false
set_option maxRecDepth 100000
open Go.RowKit
/-- b' is where the first i of F go on. -/
def TkI (ss : List St) (s : List UInt8) (a : Nat) (F : List Nat) (i : Nat) (b' : List Nat) : Prop := b'.length ≤ i ∧ (∀ x ∈ b', x < ss.length) ∧ ∀ k', k' ∈ b' ↔ ∃ k ∈ F.take i, Stp ss s k a k' (a + 1)
theorem stp_take {ss : List St} {s : List UInt8} {a x k' : Nat} {n : St} (hn : ss[x]? = some n) : Stp ss s x a k' (a + 1) ↔ n.op = 1 ∧ k' = n.x.toNat ∧ ∃ c, s[a]? = some c ∧ n.c.has c.toNat = true := by
  constructor
  · rintro ⟨n', hn', h⟩
    rw [hn] at hn'
    obtain rfl := Option.some.inj hn'
    rcases h with ⟨h1, h2, _, h3⟩ | ⟨_, _, h⟩ | ⟨_, _, h, _⟩ | ⟨_, _, h, _⟩
    · exact ⟨h1, h2, h3⟩
    · omega
    · omega
    · omega
  · rintro ⟨h1, h2, h3⟩
    exact ⟨n, hn, Or.inl ⟨h1, h2, rfl, h3⟩⟩
theorem TkI.no {ss : List St} {s : List UInt8} {a i x : Nat} {F b' : List Nat} {n : St} (h : TkI ss s a F i b') (hx : F[i]? = some x) (hn : ss[x]? = some n) (hno : ¬ (n.op = 1 ∧ ∃ c, s[a]? = some c ∧ n.c.has c.toNat = true)) : TkI ss s a F (i + 1) b' := by
  refine ⟨by have := h.1; omega, h.2.1, fun k' => (h.2.2 k').trans ?_⟩
  rw [List.take_add_one, hx]
  constructor
  · rintro ⟨k, hk, h1⟩
    exact ⟨k, by simp [hk], h1⟩
  · rintro ⟨k, hk, h1⟩
    rcases List.mem_append.1 hk with hk | hk
    · exact ⟨k, hk, h1⟩
    · simp at hk
      subst hk
      obtain ⟨h2, _, h3⟩ := (stp_take hn).1 h1
      exact absurd ⟨h2, h3⟩ hno
theorem TkI.yes {ss : List St} {s : List UInt8} {a i x y : Nat} {F b' : List Nat} {n : St} (h : TkI ss s a F i b') (hx : F[i]? = some x) (hn : ss[x]? = some n) (hop : n.op = 1) (hc : ∃ c, s[a]? = some c ∧ n.c.has c.toNat = true) (hy : n.x = (y : Int)) (hyl : y < ss.length) : TkI ss s a F (i + 1) (b' ++ [y]) := by
  refine ⟨by have := h.1; simp; omega, ?_, fun k' => ?_⟩
  · intro z hz
    rcases List.mem_append.1 hz with hz | hz
    · exact h.2.1 z hz
    · rw [List.mem_singleton.1 hz]; exact hyl
  · have ey : n.x.toNat = y := by omega
    rw [List.mem_append, h.2.2 k', List.take_add_one, hx, List.mem_singleton]
    constructor
    · rintro (⟨k, hk, h1⟩ | rfl)
      · exact ⟨k, by simp [hk], h1⟩
      · exact ⟨x, by simp, (stp_take hn).2 ⟨hop, ey.symm, hc⟩⟩
    · rintro ⟨k, hk, h1⟩
      rcases List.mem_append.1 hk with hk | hk
      · exact Or.inl ⟨k, hk, h1⟩
      · simp at hk
        subst hk
        exact Or.inr (((stp_take hn).1 h1).2.1.trans ey)
/-- What taken answers. -/
def TkP (ss : List St) (s : List UInt8) (a : Nat) (F : List Nat) (w : World) (e : Ending) (w' : World) : Prop := ∃ u b', e = .returned u ∧ IsIn w' u b' ∧ Tkn ss s a F b' ∧ b'.length ≤ F.length ∧ (∀ x ∈ b', x < ss.length) ∧ Below w.heap.size w w'
/-- Between two rounds. -/
def TkR (ss : List St) (s : List UInt8) (a : Nat) (F : List Nat) (w1 : World) (i : Nat) (u : Value) (wr : World) : Prop := ∃ b', IsOwn wr w1.heap.size u b' ∧ TkI ss s a F i b' ∧ Below w1.heap.size w1 wr
theorem TkR.form {ss : List St} {s : List UInt8} {a : Nat} {F : List Nat} {w1 : World} {i : Nat} {u : Value} {wr : World} (h : TkR ss s a F w1 i u wr) : ∃ x l c, u = .slice x l c := by
  obtain ⟨b', h1, _⟩ := h
  obtain ⟨x, c, e⟩ := h1.form
  exact ⟨x, _, c, e⟩
theorem TkR.no {ss : List St} {s : List UInt8} {a : Nat} {F : List Nat} {w1 : World} {i x : Nat} {u : Value} {wr w' : World} {n : St} (h : TkR ss s a F w1 i u wr) (hb : Below wr.heap.size wr w') (hx : F[i]? = some x) (hn : ss[x]? = some n) (hno : ¬ (n.op = 1 ∧ ∃ c, s[a]? = some c ∧ n.c.has c.toNat = true)) : TkR ss s a F w1 (i + 1) u w' := by
  obtain ⟨b', h1, h2, h3⟩ := h
  exact ⟨b', h1.kept hb, h2.no hx hn hno, h3.trans (hb.mono h3.size)⟩
set_option maxHeartbeats 8000000 in
theorem taken_any (ss : List St) (b off cap : Nat) (hf : stepsF ss = 0) (hok : SsOk ss) (s : ByteArray) (hs : s.size ≤ 400) (F : List Nat) (hF : ∀ x ∈ F, x < ss.length) (g o c a : Nat) (ha : a ≤ 401) (hlen : F.length ≤ 200) (w : World) (hlt : b < w.heap.size) (hN : SsAt w b off ss) (hg : g < w.heap.size) (hI : IsAt w g o F) :
    Calls Try.prog 27 #[rnV (.slice (some ⟨b, off, none⟩) ss.length cap) s, .slice (some ⟨g, o, none⟩) F.length c, .int .i64 (a : Int)] w (TkP ss s.data.toList a F w) := by
  obtain ⟨h200, hpos, hst⟩ := stepsF_zero hf
  obtain ⟨ob, hob⟩ : ∃ ob : Obj, ob = .cells #[.slice (some ⟨b, off, none⟩) ss.length cap, .string s] 55 := ⟨_, rfl⟩
  have hB0 : Below w.heap.size w (w.alloc ob) := (Below.refl _ _).alloc (Nat.le_refl _) _
  have HR : Hid (∀ w', Below (w.alloc ob).heap.size (w.alloc ob) w' → w'.cell? ⟨w.heap.size, 0, none⟩ = some (.slice (some ⟨b, off, none⟩) ss.length cap) ∧ w'.cell? ⟨w.heap.size, 1, none⟩ = some (.string s)) := by
    intro w' hb
    exact ⟨(hb.cell (p := ⟨w.heap.size, 0, none⟩) (by simp)).trans (by rw [hob]; simp), (hb.cell (p := ⟨w.heap.size, 1, none⟩) (by simp)).trans (by rw [hob]; simp)⟩
  have HN := hid (hN.below hB0 hlt)
  have HI := hid (hI.below hB0 hg)
  have HF := hid hF
  have HST := hid hst
  have HOK := hid hok
  clear hN hI hF hst hok hf
  go_enter Try.func27, Try.ntmps27
  go_wp2_with fail
  rw [← hob]
  clear hob
  go_loopw [13, 7] (fun v u wr => ∃ i : Nat, i ≤ F.length ∧ v = .int .i64 i ∧ Hid (TkR ss s.data.toList a F (w.alloc ob) i u wr)) (fun v _ _ => F.length - (intOf v).toNat)
  case atStart => exact ⟨0, by omega, rfl, ⟨[], IsOwn.nil _ _, ⟨by simp, by simp, by simp⟩, Below.refl _ _⟩⟩
  case round =>
    obtain ⟨i, hi, rfl, HT⟩ := hrel
    obtain ⟨ua, ul, uc, rfl⟩ := HT.out.form
    have HBr : Hid (Below (w.alloc ob).heap.size (w.alloc ob) wr) := by obtain ⟨_, _, _, h⟩ := HT.out; exact h
    by_cases hil : i < F.length
    · obtain ⟨x, hx⟩ : ∃ x, F[i]? = some x := ⟨F[i], List.getElem?_eq_getElem hil⟩
      have hxF : x ∈ F := List.mem_of_getElem? hx
      have hxl := HF.out x hxF
      obtain ⟨n, hn⟩ : ∃ n, ss[x]? = some n := ⟨ss[x], List.getElem?_eq_getElem hxl⟩
      have hnS : n ∈ ss := List.mem_of_getElem? hn
      have ci := (HBr.out.cell (p := ⟨g, _, none⟩) (by simp; omega)).trans (HI.out i x hx)
      obtain ⟨c0, c1, c2, c3, c4, c5, c6⟩ := HN.out.below HBr.out (by simp; omega) x n hn
      obtain ⟨r0, r1⟩ := HR.out wr HBr.out
      have g1 : (i : Int) < (F.length : Int) := by omega
      have g2 : (x : Int) < (ss.length : Int) := by omega
      have HXN : Hid (F[i]? = some x ∧ ss[x]? = some n) := ⟨hx, hn⟩
      have HRG := hid (HST.out n hnS).1
      have HKO := hid (HOK.out n hnS)
      obtain ⟨od, hod⟩ : ∃ od : Obj, od = .cells #[.int .i64 n.op, .int .u64 n.c.a, .int .u64 n.c.b, .int .u64 n.c.c, .int .u64 n.c.d, .int .i64 n.x, .int .i64 n.y] 49 := ⟨_, rfl⟩
      have HB2 : Hid (Below wr.heap.size wr (wr.alloc od)) := (Below.refl _ _).alloc (Nat.le_refl _) _
      have RC : Hid ((∀ d os, (Go.Sort.grow (redrawn (wr.alloc od) d) os).cell? ⟨wr.heap.size, 0, none⟩ = some (.int .i64 n.op)) ∧ (∀ d os, (Go.Sort.grow (redrawn (wr.alloc od) d) os).cell? ⟨wr.heap.size, 1, none⟩ = some (.int .u64 n.c.a)) ∧ (∀ d os, (Go.Sort.grow (redrawn (wr.alloc od) d) os).cell? ⟨wr.heap.size, 2, none⟩ = some (.int .u64 n.c.b)) ∧ (∀ d os, (Go.Sort.grow (redrawn (wr.alloc od) d) os).cell? ⟨wr.heap.size, 3, none⟩ = some (.int .u64 n.c.c)) ∧ (∀ d os, (Go.Sort.grow (redrawn (wr.alloc od) d) os).cell? ⟨wr.heap.size, 4, none⟩ = some (.int .u64 n.c.d)) ∧ (∀ d os, (Go.Sort.grow (redrawn (wr.alloc od) d) os).cell? ⟨wr.heap.size, 5, none⟩ = some (.int .i64 n.x)) ∧ (∀ d os, (Go.Sort.grow (redrawn (wr.alloc od) d) os).cell? ⟨w.heap.size, 0, none⟩ = some (.slice (some ⟨b, off, none⟩) ss.length cap)) ∧ (∀ d os, (Go.Sort.grow (redrawn (wr.alloc od) d) os).cell? ⟨w.heap.size, 1, none⟩ = some (.string s))) := by
        have h2 := HR.out (wr.alloc od) (HBr.out.trans (HB2.out.mono HBr.out.size))
        refine ⟨?_, ?_, ?_, ?_, ?_, ?_, cell_regrown h2.1, cell_regrown h2.2⟩ <;> exact cell_regrown (by rw [hod]; simp)
      clear hx hn hnS hxF
      go_wp2_with fail
      rw [← hod]
      clear hod c0 c1 c2 c3 c4 c5 c6 r0 r1 ci
      obtain ⟨r0, r1, r2, r3, r4, r5, r6, r7⟩ := RC.out
      by_cases h1 : n.op = 1
      · rw [h1] at r0
        by_cases hal : a < s.size
        · have a0 : (0 : Int) ≤ (a : Int) := by omega
          have a1 : (a : Int) < (s.size : Int) := by omega
          have g3 : decide ((a : Int) < (s.size : Int)) = true := by simp; omega
          have g4 : decide (a < s.size) = true := by simp; omega
          have hsa : s.data.toList[a]? = some s[a] := by
            rw [List.getElem?_eq_getElem (by simpa using hal)]; rfl
          have hlb : (s[a].toNat : Int) < 256 := by have := s[a].toNat_lt; omega
          have CH := hid (fun W => has_any n.c (s[a].toNat : Int) W (by omega) hlb)
          rw [C4.hasI_eq n.c HKO.out] at CH
          cases hy : n.c.has s[a].toNat with
          | false =>
            rw [hy] at CH
            have HNO : Hid (∀ w', Below wr.heap.size wr w' → TkR ss s.data.toList a F (w.alloc ob) (i + 1) (.slice ua ul uc) w') := fun w' hb => HT.out.no hb HXN.out.1 HXN.out.2 (by
              rintro ⟨_, cc, hc, h2⟩
              rw [hsa] at hc
              obtain rfl := Option.some.inj hc
              rw [hy] at h2
              cases h2)
            clear hy hsa
            refine wp_region_quiet_below (by kernel_rfl) (by kernel_rfl) ?_
            repeat (go_big_quiet_step (first
              | (go_at_call 35; exact Calls.regrown_of (CH.out _))))
            refine wpQuiet_nil ?_
            intro _ hw'
            obtain ⟨⟨dq, osq⟩, hw''⟩ := hw'
            have B2 : Hid (Below wr.heap.size wr (Go.Sort.grow (redrawn (wr.alloc od) dq) osq)) := HB2.out.trans ((below_regrown (wr.alloc od) dq osq).mono (by simp))
            subst hw''
            generalize Go.Sort.grow (redrawn (wr.alloc od) dq) osq = W at *
            clear RC r0 r1 r2 r3 r4 r5 r6 r7 CH
            go_wp2
            exact ⟨⟨i + 1, by omega, by go_num, HNO.out _ B2.out⟩, by simp [intOf]; omega⟩
          | true =>
            rw [hy] at CH
            have hxr : ¬ (n.x < 0 ∨ (ss.length : Int) ≤ n.x) := fun h => HRG.out (Or.inr (Or.inr (Or.inl ⟨by omega, h⟩)))
            obtain ⟨y, hyx⟩ : ∃ y : Nat, n.x = (y : Int) := ⟨n.x.toNat, by omega⟩
            have HYX : Hid (n.x = (y : Int) ∧ y < ss.length) := ⟨hyx, by omega⟩
            rw [hyx] at r5
            have HYE : Hid (n.op = 1 ∧ ∃ c, s.data.toList[a]? = some c ∧ n.c.has c.toNat = true) := ⟨h1, _, hsa, hy⟩
            clear hy hsa hxr hyx h1
            refine wp_region_quiet_below (by kernel_rfl) (by kernel_rfl) ?_
            repeat (go_big_quiet_step (first
              | (go_at_call 35; exact Calls.regrown_of (CH.out _))))
            refine wpQuiet_nil ?_
            intro _ hw'
            obtain ⟨⟨dq, osq⟩, hw''⟩ := hw'
            have B2 : Hid (Below wr.heap.size wr (Go.Sort.grow (redrawn (wr.alloc od) dq) osq)) := HB2.out.trans ((below_regrown (wr.alloc od) dq osq).mono (by simp))
            subst hw''
            have q5 := r5 dq osq
            generalize Go.Sort.grow (redrawn (wr.alloc od) dq) osq = W at *
            clear RC r0 r1 r2 r3 r4 r5 r6 r7 CH
            obtain ⟨b', hO, hTI, hBB⟩ := HT.out
            obtain ⟨_, _, hfm⟩ := hO.form
            injection hfm with _ hul _
            subst hul
            have hbl : b'.length ≤ 200 := by have := hTI.1; omega
            have HO2 := hid (hO.kept B2.out)
            have HTI := hid (hTI.yes HXN.out.1 HXN.out.2 HYE.out.1 HYE.out.2 HYX.out.1 HYX.out.2)
            have HBB := hid (hBB.trans (B2.out.mono hBB.size))
            clear hO hTI hBB
            have HOA := hid (HO2.out.kept ((Below.refl _ _).alloc (Nat.le_refl _) (.cells #[.int .i64 (y : Int)] 3)))
            have HBA := hid (HBB.out.trans (((Below.refl _ _).alloc (Nat.le_refl _) (.cells #[.int .i64 (y : Int)] 3)).mono HBB.out.size))
            go_wp2_with (at_builtin; refine wpList_append_is rfl _ _ rfl (w.alloc ob).heap.size _ rfl b' HOA.out W.heap.size 1 y rfl (by rw [World.cell?_alloc_at (w := W) _ _ W.heap.size 0 rfl]; rfl) (by omega) HBA.out.size ?_; intro gg cc W2 hown hgr _ _)
            have HTR : Hid (TkR ss s.data.toList a F (w.alloc ob) (i + 1) (.slice (some ⟨gg, 0, none⟩) (b'.length + 1) cc) W2) := ⟨b' ++ [y], hown, HTI.out, HBA.out.trans (HOA.out.grown HBA.out.size hgr)⟩
            clear hown hgr HOA HO2 HT
            exact ⟨⟨i + 1, by omega, by go_num, HTR⟩, by simp [intOf]; omega⟩
        · have g3 : decide ((a : Int) < (s.size : Int)) = false := by simp; omega
          have g4 : decide (a < s.size) = false := by simp; omega
          have g5 : ¬ (a : Int) < (s.size : Int) := by omega
          have HNO : Hid (∀ w', Below wr.heap.size wr w' → TkR ss s.data.toList a F (w.alloc ob) (i + 1) (.slice ua ul uc) w') := fun w' hb => HT.out.no hb HXN.out.1 HXN.out.2 (by
            rintro ⟨_, cc, hc, _⟩
            rw [List.getElem?_eq_none (by simp; omega)] at hc
            cases hc)
          refine wp_region_quiet_below (by kernel_rfl) (by kernel_rfl) ?_
          repeat (go_big_quiet_step (fail))
          refine wpQuiet_nil ?_
          intro _ hw'
          obtain ⟨⟨dq, osq⟩, hw''⟩ := hw'
          have B2 : Hid (Below wr.heap.size wr (Go.Sort.grow (redrawn (wr.alloc od) dq) osq)) := HB2.out.trans ((below_regrown (wr.alloc od) dq osq).mono (by simp))
          subst hw''
          generalize Go.Sort.grow (redrawn (wr.alloc od) dq) osq = W at *
          clear RC r0 r1 r2 r3 r4 r5 r6 r7
          go_wp2
          exact ⟨⟨i + 1, by omega, by go_num, HNO.out _ B2.out⟩, by simp [intOf]; omega⟩
      · have e1 : (n.op == 1) = false := by rw [beq_eq_false_iff_ne]; exact h1
        have HNO : Hid (∀ w', Below wr.heap.size wr w' → TkR ss s.data.toList a F (w.alloc ob) (i + 1) (.slice ua ul uc) w') := fun w' hb => HT.out.no hb HXN.out.1 HXN.out.2 (fun h => h1 h.1)
        refine wp_region_quiet_below (by kernel_rfl) (by kernel_rfl) ?_
        repeat (go_big_quiet_step (fail))
        refine wpQuiet_nil ?_
        intro _ hw'
        obtain ⟨⟨dq, osq⟩, hw''⟩ := hw'
        have B2 : Hid (Below wr.heap.size wr (Go.Sort.grow (redrawn (wr.alloc od) dq) osq)) := HB2.out.trans ((below_regrown (wr.alloc od) dq osq).mono (by simp))
        subst hw''
        generalize Go.Sort.grow (redrawn (wr.alloc od) dq) osq = W at *
        clear RC r0 r1 r2 r3 r4 r5 r6 r7
        go_wp2
        exact ⟨⟨i + 1, by omega, by go_num, HNO.out _ B2.out⟩, by simp [intOf]; omega⟩
    · have he : i = F.length := by omega
      have g1 : ¬ (i : Int) < (F.length : Int) := by omega
      have HY : Hid (TkP ss s.data.toList a F w (.returned (.slice ua ul uc)) wr) := by
        obtain ⟨b', h1, h2, h3⟩ := HT.out
        rw [he] at h2
        refine ⟨_, b', rfl, h1.isIn (by have := h2.1; unfold maxLen; omega), fun k' => (h2.2.2 k').trans (by rw [List.take_length]), h2.1, h2.2.1, hB0.trans (h3.mono (by simp))⟩
      clear HT HBr he
      go_wp2
      go_ret
      exact HY.out
end Go.Proofs.Ytopoiljgghglaaa
