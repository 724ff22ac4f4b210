/- What a loop's body, or a closure, leaves as it lay: all but one box, the row that the box names, and some blocks. Sets of places in memory: rows of bools. The landed sim: what the closure that goes all ways at a place has in memory. -/
import Derived.Test.YtopoiljgghglaaaY09
import Derived.RangeFuncBox
import Derived.RangeFuncWrites
import Derived.RangeFuncFrom
import Derived.Test.YtopoiljgghglaaaY02
import Derived.Laws.EntriesVeiled
namespace Go.Proofs.Ytopoiljgghglaaa
set_option linter.unusedSimpArgs false
set_option linter.unusedVariables false
set_option maxRecDepth 100000
open Go.RowKit

/-- Block k is turned: the box bf, the row that it names, or one of X. -/
def Frm (bf : Nat) (X : Nat → Prop) (W : World) (k : Nat) : Prop := k < W.heap.size ∧ (X k ∨ k = bf ∨ ∃ u, W.cell? ⟨bf, 0, none⟩ = some u ∧ u.ownBlock = some k)
/-- All other cells lie as they lay. -/
structure KpF (bf : Nat) (X : Nat → Prop) (W W' : World) : Prop where
  size : W.heap.size ≤ W'.heap.size
  same : ∀ k o, W.heap[k]? = some o → o.isCells = true → ¬ Frm bf X W k → W'.heap[k]? = some o
  row : ∀ k, Frm bf X W' k → Frm bf X W k ∨ W.heap.size ≤ k
theorem KpF.refl (bf : Nat) (X : Nat → Prop) (W : World) : KpF bf X W W := ⟨Nat.le_refl _, fun _ _ h _ _ => h, fun _ h => Or.inl h⟩
theorem heap_lt {W : World} {k : Nat} {o : Obj} (h : W.heap[k]? = some o) : k < W.heap.size := (Array.getElem?_eq_some_iff.1 h).1
theorem KpF.free {bf : Nat} {X : Nat → Prop} {W W' : World} (h : KpF bf X W W') {k : Nat} (hk : k < W.heap.size) (hn : ¬ Frm bf X W k) : ¬ Frm bf X W' k := fun hf => by
  rcases h.row k hf with h1 | h1
  · exact hn h1
  · omega
theorem KpF.trans {bf : Nat} {X : Nat → Prop} {A B C : World} (h : KpF bf X A B) (g : KpF bf X B C) : KpF bf X A C where
  size := Nat.le_trans h.size g.size
  same := fun k o hk ho hn => g.same k o (h.same k o hk ho hn) ho (h.free (heap_lt hk) hn)
  row := fun k hf => by
    rcases g.row k hf with h1 | h1
    · exact h.row k h1
    · exact Or.inr (Nat.le_trans h.size h1)
theorem cell_block {W : World} {k o : Nat} {c : Value} (h : W.cell? ⟨k, o, none⟩ = some c) : ∃ ob, W.heap[k]? = some ob ∧ ob.isCells = true := by
  unfold World.cell? at h
  split at h
  · rename_i cs t z hh
    exact ⟨_, hh, rfl⟩
  · cases h
theorem cell_of_block {W W' : World} {k : Nat} {ob : Obj} (h : W.heap[k]? = some ob) (h' : W'.heap[k]? = some ob) (o : Nat) : W'.cell? ⟨k, o, none⟩ = W.cell? ⟨k, o, none⟩ := by
  unfold World.cell?
  simp only [h, h']
theorem frozen_of_block {W W' : World} {k : Nat} {ob : Obj} (h : W.heap[k]? = some ob) (h' : W'.heap[k]? = some ob) (o : Nat) : W'.frozen? ⟨k, o, none⟩ = W.frozen? ⟨k, o, none⟩ := by
  unfold World.frozen?
  simp only [h, h']
theorem KpF.cell {bf : Nat} {X : Nat → Prop} {W W' : World} (h : KpF bf X W W') {k o : Nat} {c : Value} (hc : W.cell? ⟨k, o, none⟩ = some c) (hn : ¬ Frm bf X W k) : W'.cell? ⟨k, o, none⟩ = some c := by
  obtain ⟨ob, h1, h2⟩ := cell_block hc
  rw [cell_of_block h1 (h.same k ob h1 h2 hn), hc]
theorem cell_lt {W : World} {k o : Nat} {c : Value} (h : W.cell? ⟨k, o, none⟩ = some c) : k < W.heap.size := by
  obtain ⟨ob, h1, _⟩ := cell_block h
  exact heap_lt h1
/-- What only makes memory. -/
theorem KpF.below {bf : Nat} (X : Nat → Prop) {W W' : World} (h : Below W.heap.size W W') (hb : bf < W.heap.size) : KpF bf X W W' where
  size := h.size
  same := fun k o hk _ _ => (h.block k (heap_lt hk)).trans hk
  row := fun k hf => by
    rcases Nat.lt_or_ge k W.heap.size with hk | hk
    · refine Or.inl ⟨hk, ?_⟩
      rcases hf.2 with h1 | h1 | ⟨u, h1, h2⟩
      · exact Or.inl h1
      · exact Or.inr (Or.inl h1)
      · exact Or.inr (Or.inr ⟨u, (h.cell (p := ⟨bf, 0, none⟩) hb).symm.trans h1, h2⟩)
    · exact Or.inr hk
/-- A store into one of X. -/
theorem KpF.put {bf : Nat} {X : Nat → Prop} (W : World) (b o : Nat) (c : Value) (hX : X b) (hne : bf ≠ b) : KpF bf X W (W.setCell ⟨b, o, none⟩ c) where
  size := by simp
  same := fun k ob hk _ hn => by
    have hkb : k ≠ b := fun e => hn ⟨heap_lt hk, Or.inl (e ▸ hX)⟩
    simp [World.setCell, Array.getElem?_modify, hk, Ne.symm hkb]
  row := fun k hf => by
    refine Or.inl ⟨by simpa using hf.1, ?_⟩
    rcases hf.2 with h1 | h1 | ⟨u, h1, h2⟩
    · exact Or.inl h1
    · exact Or.inr (Or.inl h1)
    · refine Or.inr (Or.inr ⟨u, ?_, h2⟩)
      have hh : (W.setCell ⟨b, o, none⟩ c).heap[bf]? = W.heap[bf]? := by simp [World.setCell, Array.getElem?_modify, Ne.symm hne]
      unfold World.cell? at h1 ⊢
      simp only [hh] at h1
      exact h1
/-- A plain value is stored into the box. -/
theorem KpF.box {bf : Nat} {X : Nat → Prop} (W : World) (t : TypeId) (v c : Value) (hB : Boxed W bf t v) (hc : c.ownBlock = none) : KpF bf X W (W.setCell ⟨bf, 0, none⟩ c) where
  size := by simp
  same := fun k ob hk _ hn => by
    have hkb : k ≠ bf := fun e => hn ⟨heap_lt hk, Or.inr (Or.inl e)⟩
    simp [World.setCell, Array.getElem?_modify, hk, Ne.symm hkb]
  row := fun k hf => by
    refine Or.inl ⟨by simpa using hf.1, ?_⟩
    rcases hf.2 with h1 | h1 | ⟨u, h1, h2⟩
    · exact Or.inl h1
    · exact Or.inr (Or.inl h1)
    · have : (W.setCell ⟨bf, 0, none⟩ c).cell? ⟨bf, 0, none⟩ = some c := by
        simp [World.cell?, World.setCell, Array.getElem?_modify, show W.heap[bf]? = _ from hB]
      rw [this] at h1
      injection h1 with h1
      rw [← h1, hc] at h2
      cases h2
/-- append, and the box names what it made. -/
theorem KpF.grow {bf : Nat} {X : Nat → Prop} {W W1 : World} {t : TypeId} {u c : Value} (hB : Boxed W bf t u) (hg : W.grownBy W1 u.ownBlock) (hub : ∀ k, u.ownBlock = some k → k ≠ bf) (hc : ∀ k, c.ownBlock = some k → u.ownBlock = some k ∨ W.heap.size ≤ k) : KpF bf X W (W1.setCell ⟨bf, 0, none⟩ c) where
  size := by have := hg.size; simpa using this
  same := fun k ob hk _ hn => by
    have hkb : k ≠ bf := fun e => hn ⟨heap_lt hk, Or.inr (Or.inl e)⟩
    have hku : u.ownBlock ≠ some k := fun e => hn ⟨heap_lt hk, Or.inr (Or.inr ⟨u, hB.cell, e⟩)⟩
    have h1 := (hg.block k (heap_lt hk) (Ne.symm hku)).trans hk
    simp [World.setCell, Array.getElem?_modify, h1, Ne.symm hkb]
  row := fun k hf => by
    have hb1 : Boxed W1 bf t u := hB.kept hg (fun e => hub bf e.symm rfl)
    rcases Nat.lt_or_ge k W.heap.size with hk | hk
    · refine Or.inl ⟨hk, ?_⟩
      rcases hf.2 with h1 | h1 | ⟨u', h1, h2⟩
      · exact Or.inl h1
      · exact Or.inr (Or.inl h1)
      · have : (W1.setCell ⟨bf, 0, none⟩ c).cell? ⟨bf, 0, none⟩ = some c := by
          simp [World.cell?, World.setCell, Array.getElem?_modify, show W1.heap[bf]? = _ from hb1]
        rw [this] at h1
        injection h1 with h1
        rw [← h1] at h2
        rcases hc k h2 with h3 | h3
        · exact Or.inr (Or.inr ⟨u, hB.cell, h3⟩)
        · omega
    · exact Or.inr hk
/-- What the loop itself keeps. -/
theorem KpF.obj {bf : Nat} (X : Nat → Prop) (W : World) (l : Nat) (o o' : Obj) (hb : bf ≠ l) (hl : W.heap[l]? = some o) (ho : o.isCells = false) : KpF bf X W (W.putObj l o') where
  size := by simp
  same := fun k ob hk hc _ => by
    have hkl : k ≠ l := fun e => by
      rw [e, hl] at hk
      injection hk with hk
      rw [← hk, ho] at hc
      cases hc
    exact (World.putObj_heap_other hkl).trans hk
  row := fun k hf => by
    refine Or.inl ⟨by simpa using hf.1, ?_⟩
    rcases hf.2 with h1 | h1 | ⟨u, h1, h2⟩
    · exact Or.inl h1
    · exact Or.inr (Or.inl h1)
    · refine Or.inr (Or.inr ⟨u, ?_, h2⟩)
      have : (W.putObj l o').heap[bf]? = W.heap[bf]? := World.putObj_heap_other hb
      unfold World.cell? at h1 ⊢
      simp only [this] at h1
      exact h1
/-- The same, and the row is the old one or new. -/
theorem wpList_append_isr {ops : Array Oper} {rest : List Oper} {o : Oper} {a : Act} {Q : Exit → Act → World → Prop} {w : World} (hgd : o.guard = none) (s x : Operand)
    (ho : o.op = .call { callee := .builtin .append, args := #[s, x], argTypes := #[38, 38] })
    (B : Nat) (v : Value) (hs : a.eval s = v) (l : List Nat) (hown : IsOwn w B v l) (g2 c2 n : Nat) (hx : a.eval x = .slice (some ⟨g2, 0, none⟩) 1 c2)
    (hnew : w.cell? ⟨g2, 0, none⟩ = some (.int .i64 (n : Int))) (hlen : l.length ≤ 1000000000) (hbase : B ≤ w.heap.size)
    (h : ∀ g cap w', IsOwn w' B (.slice (some ⟨g, 0, none⟩) (l.length + 1) cap) (l ++ [n]) → w.grownBy w' v.ownBlock → B ≤ g → (v.ownBlock = some g ∨ w.heap.size ≤ g) → wpList Try.prog ops Q rest (a.put o.dst (.slice (some ⟨g, 0, none⟩) (l.length + 1) cap)) w') : wpList Try.prog ops Q (o :: rest) a w := by
  have hinfo : (Try.prog.info? 3).map (fun i => (i.zero, i.size, i.bytes)) = some (some (.int .i64 0), 1, 8) := by kernel_rfl
  obtain ⟨i0, hi, hz0, hz1, hz2⟩ := info_parts hinfo
  refine wpList_append_lies w hgd s x 38 ho B 3 i0 _ 1 8 Try.underlying38 hi hz0 hz1 hz2 rfl (by decide) v l.length (isCells l) hs hown ⟨g2, 0, none⟩ 1 c2 (isCells [n]) hx rfl ?_ (by simp [isCells, Value.oneCell']) (by omega) (by unfold maxLen; omega) (by omega) hbase _ rfl ?_
  · intro j u hj
    cases j with
    | zero =>
      simp [isCells] at hj
      subst hj
      rw [Addr.add_lit]
      exact hnew
    | succ j => simp [isCells] at hj
  · intro g cap w' h1 h2 h3 h4
    have e : IsOwn w' B (.slice (some ⟨g, 0, none⟩) (l.length + 1) cap) (l ++ [n]) := by
      unfold IsOwn
      simpa [isCells] using h1
    have hg : B ≤ g := by
      rcases h3 with h3 | h3
      · rcases hown.2 with ⟨hv, _⟩ | ⟨g', cap', cur, hv, hb, _⟩
        · rw [hv] at h3; cases h3
        · rw [hv] at h3
          injection h3 with h3
          simp at h3
          omega
      · omega
    exact h g cap w' e h2 hg (h3.imp id (fun e => by omega))
end Go.Proofs.Ytopoiljgghglaaa
namespace Go.Proofs.Ytopoiljgghglaaa
set_option linter.unusedSimpArgs false
set_option linter.unusedVariables false
set_option maxRecDepth 100000
open Go.RowKit
/-- The places 0 to N of A lie in block b from off on. -/
def BsAt (w : World) (b off N : Nat) (A : Nat → Bool) : Prop := ∀ i, i ≤ N → w.cell? ⟨b, off + i, none⟩ = some (.bool (A i))
/-- A slice that reads as the places of A. -/
def BsIn (w : World) (v : Value) (N : Nat) (A : Nat → Bool) : Prop := ∃ b off cap, v = .slice (some ⟨b, off, none⟩) (N + 1) cap ∧ b < w.heap.size ∧ BsAt w b off N A
theorem BsAt.below {w w' : World} {B b off N : Nat} {A : Nat → Bool} (h : BsAt w b off N A) (hb : Below B w w') (hlt : b < B) : BsAt w' b off N A :=
  fun i hi => (hb.cell (p := ⟨b, _, none⟩) hlt).trans (h i hi)
theorem BsIn.below {w w' : World} {v : Value} {N : Nat} {A : Nat → Bool} (h : BsIn w v N A) (hb : Below w.heap.size w w') : BsIn w' v N A := by
  obtain ⟨b, off, cap, rfl, hlt, h⟩ := h
  exact ⟨b, off, cap, rfl, Nat.lt_of_lt_of_le hlt hb.size, h.below hb hlt⟩
def rowB (N : Nat) (A : Nat → Bool) : Array Value := ((List.range (N + 1)).map fun i => Value.bool (A i)).toArray
def upd (A : Nat → Bool) (i : Nat) (x : Bool) : Nat → Bool := fun j => if j = i then x else A j
/-- Block b is a row of the places of A. -/
def BsRow (w : World) (b N : Nat) (A : Nat → Bool) : Prop := w.heap[b]? = some (.cells (rowB N A) 4 (0, 0))
theorem BsRow.lt {w : World} {b N : Nat} {A : Nat → Bool} (h : BsRow w b N A) : b < w.heap.size := by
  rcases Nat.lt_or_ge b w.heap.size with h' | h'
  · exact h'
  · simp [BsRow, Array.getElem?_eq_none h'] at h
theorem rowB_at (N : Nat) (A : Nat → Bool) (i : Nat) (h : i ≤ N) : (rowB N A)[i]? = some (.bool (A i)) := by
  simp [rowB, List.getElem?_range (show i < N + 1 by omega)]
theorem BsRow.at {w : World} {b N : Nat} {A : Nat → Bool} (h : BsRow w b N A) : BsAt w b 0 N A := by
  intro i hi
  rw [Lib.cell_of_heap h, Nat.zero_add, rowB_at N A i hi]
theorem BsRow.isIn {w : World} {b N : Nat} {A : Nat → Bool} (h : BsRow w b N A) (cap : Nat) : BsIn w (.slice (some ⟨b, 0, none⟩) (N + 1) cap) N A := ⟨b, 0, cap, rfl, h.lt, h.at⟩
theorem BsRow.free {w : World} {b N : Nat} {A : Nat → Bool} (h : BsRow w b N A) (i : Nat) : w.frozen? ⟨b, i, none⟩ = false := Lib.frozen_of_heap h i
theorem rowB_set (N : Nat) (A : Nat → Bool) (i : Nat) (x : Bool) : (rowB N A).setIfInBounds i (.bool x) = rowB N (upd A i x) := by
  apply Array.ext_getElem?
  intro j
  rw [Array.getElem?_setIfInBounds]
  by_cases hj : j ≤ N
  · rw [rowB_at N _ j hj, rowB_at N _ j hj]
    by_cases e : i = j
    · subst e
      simp [rowB, upd, hj]
      omega
    · rw [if_neg e]
      simp [upd, Ne.symm e]
  · have h1 : (rowB N A)[j]? = none := Array.getElem?_eq_none (by simp [rowB]; omega)
    have h2 : (rowB N (upd A i x))[j]? = none := Array.getElem?_eq_none (by simp [rowB]; omega)
    rw [h1, h2]
    split
    · rename_i e
      subst e
      rw [if_neg (by simp [rowB]; omega)]
    · rfl
theorem BsRow.set {w : World} {b N : Nat} {A : Nat → Bool} (h : BsRow w b N A) (i : Nat) (x : Bool) : BsRow (w.setCell ⟨b, i, none⟩ (.bool x)) b N (upd A i x) := by
  simp only [BsRow] at h ⊢
  simp [World.setCell, Array.getElem?_modify, h, rowB_set]
theorem BsRow.below {w w' : World} {b N : Nat} {A : Nat → Bool} (h : BsRow w b N A) (hb : Below w.heap.size w w') : BsRow w' b N A := (hb.block b h.lt).trans h
theorem rowB_new (N : Nat) : Array.replicate (N + 1) (Value.bool false) = rowB N fun _ => false := by
  apply Array.ext_getElem?
  intro j
  by_cases hj : j ≤ N
  · rw [rowB_at N _ j hj]
    simp [show j < N + 1 by omega]
  · rw [Array.getElem?_eq_none (by simp; omega), Array.getElem?_eq_none (by simp [rowB]; omega)]
theorem BsRow.new (w : World) (N : Nat) (o : Obj) (ho : o = .cells (Array.replicate (N + 1) (Value.bool false)) 4 (0, 0)) : BsRow (w.alloc o) w.heap.size N fun _ => false := by
  rw [ho, rowB_new]
  show (w.heap.push _)[w.heap.size]? = _
  simp
theorem BsRow.congr {w : World} {b N : Nat} {A B : Nat → Bool} (h : BsRow w b N A) (he : ∀ i, i ≤ N → A i = B i) : BsRow w b N B := by
  have : rowB N A = rowB N B := by
    unfold rowB
    congr 1
    apply List.map_congr_left
    intro i hi
    rw [he i (by have := List.mem_range.1 hi; omega)]
  simp only [BsRow] at h ⊢
  rw [h, this]
theorem BsIn.form {w : World} {v : Value} {N : Nat} {A : Nat → Bool} (h : BsIn w v N A) : ∃ b off cap, v = .slice (some ⟨b, off, none⟩) (N + 1) cap := by
  obtain ⟨b, off, cap, h, _⟩ := h
  exact ⟨b, off, cap, h⟩
end Go.Proofs.Ytopoiljgghglaaa
namespace Go.Proofs.Ytopoiljgghglaaa
set_option linter.unusedSimpArgs false
set_option linter.unusedVariables false
set_option maxRecDepth 100000
open Go.RowKit
theorem zero_seen (w : World) : (zeroValue 71).run Try.prog w = .ok (.agg (rowB 199 fun _ => false)) w := by
  have h : (zeroValue 71).run Try.prog w = .ok (.agg (Array.replicate 200 (.bool false))) w := by kernel_rfl
  rw [h, rowB_new 199]
/-- A program, a text and a place, and where the closure's variables lie. -/
structure Vc where
  ss : List St
  b : Nat
  off : Nat
  cap : Nat
  s : ByteArray
  a : Nat
  B : Nat
  br : Nat
  ba : Nat
  bf : Nat
  bs : Nat
  bv : Nat
  R : Nat
/-- What they are like. -/
structure Vc.Good (c : Vc) : Prop where
  fault : stepsF c.ss = 0
  blt : c.b < c.B
  Br : c.B ≤ c.br
  Ba : c.B ≤ c.ba
  Bf : c.B ≤ c.bf
  Bs : c.B ≤ c.bs
  Bv : c.B ≤ c.bv
  Rr : c.br < c.R
  Ra : c.ba < c.R
  Rf : c.bf < c.R
  Rs : c.bs < c.R
  Rv : c.bv < c.R
  fs : c.bf ≠ c.bs
  rf : c.br ≠ c.bf
  rs : c.br ≠ c.bs
  af : c.ba ≠ c.bf
  sa : c.ba ≠ c.bs
  vf : c.bv ≠ c.bf
  vs : c.bv ≠ c.bs
  size : c.s.size ≤ 400
  place : c.a ≤ 400
/-- The closure's value. -/
abbrev Vc.v (c : Vc) : Value := .func (.func 34) #[] #[.pointer (some ⟨c.bs, 0, none⟩), .pointer (some ⟨c.bf, 0, none⟩), .pointer (some ⟨c.br, 0, none⟩), .pointer (some ⟨c.bv, 0, none⟩), .pointer (some ⟨c.ba, 0, none⟩)]
/-- In w the steps S have been come to. -/
structure Vc.At (c : Vc) (w : World) (S : List Nat) : Prop where
  steps : SsAt w c.b c.off c.ss
  r0 : w.cell? ⟨c.br, 0, none⟩ = some (.slice (some ⟨c.b, c.off, none⟩) c.ss.length c.cap)
  r1 : w.cell? ⟨c.br, 1, none⟩ = some (.string c.s)
  a0 : w.cell? ⟨c.ba, 0, none⟩ = some (.int .i64 (c.a : Int))
  v0 : w.cell? ⟨c.bv, 0, none⟩ = some c.v
  box : ∃ u, Boxed w c.bf 38 u ∧ IsOwn w c.R u S
  seen : w.heap[c.bs]? = some (.cells (rowB 199 fun j => decide (j ∈ S)) 71 (0, 0))
  sz : c.R ≤ w.heap.size
  nod : S.Nodup
  lt : ∀ x ∈ S, x < c.ss.length
theorem Vc.At.len {c : Vc} {w : World} {S : List Nat} (h : c.At w S) : S.length ≤ c.ss.length := nodup_le _ _ h.nod h.lt
/-- The frame. -/
abbrev Vc.Kp (c : Vc) (w w' : World) : Prop := KpF c.bf (fun k => k = c.bs) w w'
theorem own_base {w : World} {B : Nat} {v : Value} {l : List Nat} (h : IsOwn w B v l) (g : Nat) (e : v.ownBlock = some g) : B ≤ g ∧ g < w.heap.size := by
  rcases h.2 with ⟨hv, _⟩ | ⟨b, cap, cur, hv, hb, hh, _⟩
  · rw [hv] at e; cases e
  · rw [hv] at e
    injection e with e
    simp only at e
    subst e
    exact ⟨hb, (Array.getElem?_eq_some_iff.1 hh).1⟩
/-- What is turned. -/
theorem Vc.At.frm {c : Vc} (hc : c.Good) {w : World} {S : List Nat} (h : c.At w S) {k : Nat} (hk : Frm c.bf (fun k => k = c.bs) w k) : k = c.bs ∨ k = c.bf ∨ (c.R ≤ k ∧ k < w.heap.size) := by
  obtain ⟨h1, h2 | h2 | ⟨u, h2, h3⟩⟩ := hk
  · exact Or.inl h2
  · exact Or.inr (Or.inl h2)
  · obtain ⟨u', hb, ho⟩ := h.box
    rw [hb.cell] at h2
    obtain rfl := Option.some.inj h2
    exact Or.inr (Or.inr (own_base ho k h3))
theorem SsAt.lt {w : World} {b off : Nat} {ss : List St} (h : SsAt w b off ss) (h0 : 0 < ss.length) : b < w.heap.size := by
  obtain ⟨h1, _⟩ := h 0 ss[0] (List.getElem?_eq_getElem h0)
  exact cell_lt h1
theorem Vc.At.below {c : Vc} (hc : c.Good) {w w' : World} {S : List Nat} (h : c.At w S) (hb : Below w.heap.size w w') : c.At w' S where
  steps := h.steps.below hb (by have := h.sz; have := hc.Rr; have := hc.Br; have := hc.blt; omega)
  r0 := (hb.cell (p := ⟨c.br, 0, none⟩) (cell_lt h.r0)).trans h.r0
  r1 := (hb.cell (p := ⟨c.br, 1, none⟩) (cell_lt h.r0)).trans h.r1
  a0 := (hb.cell (p := ⟨c.ba, 0, none⟩) (cell_lt h.a0)).trans h.a0
  v0 := (hb.cell (p := ⟨c.bv, 0, none⟩) (cell_lt h.v0)).trans h.v0
  box := by
    obtain ⟨u, h1, h2⟩ := h.box
    exact ⟨u, (hb.block _ h1.lt).trans h1, h2.kept hb⟩
  seen := (hb.block _ (heap_lt h.seen)).trans h.seen
  sz := Nat.le_trans h.sz hb.size
  nod := h.nod
  lt := h.lt
/-- A block of one's own that the closure does not turn. -/
theorem Vc.At.mine {c : Vc} (hc : c.Good) {w w' : World} {S : List Nat} (h : c.At w S) (o : Obj) (hk : c.Kp (w.alloc o) w') (i : Nat) : w'.cell? ⟨w.heap.size, i, none⟩ = (w.alloc o).cell? ⟨w.heap.size, i, none⟩ ∨ o.isCells = false := by
  cases ho : o.isCells with
  | false => exact Or.inr rfl
  | true =>
    left
    have hn : ¬ Frm c.bf (fun k => k = c.bs) (w.alloc o) w.heap.size := by
      rintro ⟨h1, h2 | h2 | ⟨u, h2, h3⟩⟩
      · have := heap_lt h.seen
        omega
      · obtain ⟨u, hb, _⟩ := h.box
        have := hb.lt
        omega
      · obtain ⟨u', hb, hw⟩ := h.box
        rw [World.cell?_of_block (a := ⟨c.bf, 0, none⟩) (Below.heap_alloc w o c.bf hb.lt), hb.cell] at h2
        obtain rfl := Option.some.inj h2
        have := (own_base hw _ h3).2
        omega
    have h1 : (w.alloc o).heap[w.heap.size]? = some o := World.alloc_heap_new w o
    exact cell_of_block h1 (hk.same _ _ h1 ho hn) i
theorem rowB_snoc (S : List Nat) (k : Nat) : upd (fun j => decide (j ∈ S)) k true = fun j => decide (j ∈ S ++ [k]) := by
  funext j
  unfold upd
  by_cases h : j = k
  · subst h; simp
  · simp [h]
/-- k is entered. -/
theorem Vc.At.enter {c : Vc} (hc : c.Good) {w W3 : World} {S : List Nat} {k : Nat} {u : Value} {gg cc : Nat} (h : c.At w S) (hk : ¬ k ∈ S) (hkl : k < c.ss.length) (hu : Boxed w c.bf 38 u) (ho : IsOwn w c.R u S) (o : Obj)
    (hgr : ((w.setCell ⟨c.bs, k, none⟩ (.bool true)).alloc o).grownBy W3 u.ownBlock) (hown : IsOwn W3 c.R (.slice (some ⟨gg, 0, none⟩) (S.length + 1) cc) (S ++ [k])) (hrow : u.ownBlock = some gg ∨ w.heap.size + 1 ≤ gg) :
    c.At (W3.setCell ⟨c.bf, 0, none⟩ (.slice (some ⟨gg, 0, none⟩) (S.length + 1) cc)) (S ++ [k]) ∧ c.Kp w (W3.setCell ⟨c.bf, 0, none⟩ (.slice (some ⟨gg, 0, none⟩) (S.length + 1) cc)) ∧ Below c.B w (W3.setCell ⟨c.bf, 0, none⟩ (.slice (some ⟨gg, 0, none⟩) (S.length + 1) cc)) := by
  obtain ⟨h200, hpos, _⟩ := stepsF_zero hc.fault
  have hur : ∀ g, u.ownBlock = some g → c.R ≤ g ∧ g < w.heap.size := fun g e => own_base ho g e
  have hsz := h.sz
  have g1 : w.grownBy (w.setCell ⟨c.bs, k, none⟩ (.bool true)) (some c.bs) := ⟨rfl, rfl, rfl, by simp, fun j hj hn => by
    have : c.bs ≠ j := fun e => hn (by rw [e])
    simp [World.setCell, Array.getElem?_modify, this]⟩
  have hgg : c.R ≤ gg := (own_base hown gg rfl).1
  have s1 : W3.heap.size = W3.heap.size := rfl
  have hsW : w.heap.size ≤ W3.heap.size := by
    have := hgr.size
    simp at this
    omega
  -- a block below R that is neither
  have keep : ∀ j, j < c.R → j ≠ c.bs → j ≠ c.bf → (W3.setCell ⟨c.bf, 0, none⟩ (.slice (some ⟨gg, 0, none⟩) (S.length + 1) cc)).heap[j]? = w.heap[j]? := fun j hj h1 h2 => by
    have e1 : (w.setCell ⟨c.bs, k, none⟩ (.bool true)).heap[j]? = w.heap[j]? := g1.block j (by omega) (by intro e; injection e with e; exact h1 e)
    have e2 : ((w.setCell ⟨c.bs, k, none⟩ (.bool true)).alloc o).heap[j]? = (w.setCell ⟨c.bs, k, none⟩ (.bool true)).heap[j]? := Below.heap_alloc _ _ _ (by simp; omega)
    have e3 := hgr.block j (by simp; omega) (fun e => by have := (hur j e.symm).1; omega)
    have e4 : (W3.setCell ⟨c.bf, 0, none⟩ (.slice (some ⟨gg, 0, none⟩) (S.length + 1) cc)).heap[j]? = W3.heap[j]? := by simp [World.setCell, Array.getElem?_modify, Ne.symm h2]
    rw [e4, e3, e2, e1]
  have kcell : ∀ j i, j < c.R → j ≠ c.bs → j ≠ c.bf → (W3.setCell ⟨c.bf, 0, none⟩ (.slice (some ⟨gg, 0, none⟩) (S.length + 1) cc)).cell? ⟨j, i, none⟩ = w.cell? ⟨j, i, none⟩ := fun j i hj h1 h2 => by
    unfold World.cell?
    simp only [keep j hj h1 h2]
  have hrow2 : (w.setCell ⟨c.bs, k, none⟩ (.bool true)).heap[c.bs]? = some (.cells (rowB 199 fun j => decide (j ∈ S ++ [k])) 71 (0, 0)) := by
    have := h.seen
    simp [World.setCell, Array.getElem?_modify, this, rowB_set, rowB_snoc]
  have hbW : Boxed W3 c.bf 38 u := by
    have e1 : (w.setCell ⟨c.bs, k, none⟩ (.bool true)).heap[c.bf]? = w.heap[c.bf]? := g1.block _ hu.lt (by intro e; injection e with e; exact hc.fs e)
    have e2 : ((w.setCell ⟨c.bs, k, none⟩ (.bool true)).alloc o).heap[c.bf]? = (w.setCell ⟨c.bs, k, none⟩ (.bool true)).heap[c.bf]? := Below.heap_alloc _ _ _ (by simp; exact hu.lt)
    have e3 := hgr.block c.bf (by simp; have := hu.lt; omega) (fun e => by have := (hur _ e.symm).1; have := hc.Rf; omega)
    exact (e3.trans (e2.trans e1)).trans hu
  have hB : Below c.B w (W3.setCell ⟨c.bf, 0, none⟩ (.slice (some ⟨gg, 0, none⟩) (S.length + 1) cc)) := by
    refine ⟨?_, ?_, ?_, by simpa using hsW, fun j hj => keep j (by have := hc.Br; have := hc.Rr; omega) (by have := hc.Bs; omega) (by have := hc.Bf; omega)⟩
    · exact hgr.os
    · exact hgr.tape
    · exact hgr.output
  refine ⟨⟨?_, ?_, ?_, ?_, ?_, ?_, ?_, ?_, ?_, ?_⟩, ?_, hB⟩
  · exact h.steps.below hB hc.blt
  · rw [kcell _ _ hc.Rr hc.rs hc.rf]; exact h.r0
  · rw [kcell _ _ hc.Rr hc.rs hc.rf]; exact h.r1
  · rw [kcell _ _ hc.Ra hc.sa hc.af]; exact h.a0
  · rw [kcell _ _ hc.Rv hc.vs hc.vf]; exact h.v0
  · refine ⟨.slice (some ⟨gg, 0, none⟩) (S.length + 1) cc, ?_, ?_⟩
    · simp [Boxed, World.setCell, Array.getElem?_modify, show W3.heap[c.bf]? = _ from hbW]
    · refine World.ownsRow.kept (row := some c.bf) hown (grownBy_setCell' W3 c.bf _) (Or.inr ?_)
      intro e
      injection e with e
      simp only at e
      have := hc.Rf
      omega
  · have e2 : ((w.setCell ⟨c.bs, k, none⟩ (.bool true)).alloc o).heap[c.bs]? = (w.setCell ⟨c.bs, k, none⟩ (.bool true)).heap[c.bs]? := Below.heap_alloc _ _ _ (by simp; exact heap_lt h.seen)
    have e3 := hgr.block c.bs (by simp; have := heap_lt h.seen; omega) (fun e => by have := (hur _ e.symm).1; have := hc.Rs; omega)
    have e4 : (W3.setCell ⟨c.bf, 0, none⟩ (.slice (some ⟨gg, 0, none⟩) (S.length + 1) cc)).heap[c.bs]? = W3.heap[c.bs]? := by simp [World.setCell, Array.getElem?_modify, hc.fs]
    rw [e4, e3, e2, hrow2]
  · simp; omega
  · rw [List.nodup_append]
    refine ⟨h.nod, by simp, fun x hx y hy => ?_⟩
    rw [List.mem_singleton.1 hy]
    intro e
    exact hk (e ▸ hx)
  · intro x hx
    rcases List.mem_append.1 hx with hx | hx
    · exact h.lt x hx
    · rw [List.mem_singleton.1 hx]; exact hkl
  · have k1 : c.Kp w (w.setCell ⟨c.bs, k, none⟩ (.bool true)) := KpF.put w c.bs k _ rfl hc.fs
    have hu1 : Boxed (w.setCell ⟨c.bs, k, none⟩ (.bool true)) c.bf 38 u := hu.kept g1 (by intro e; injection e with e; exact hc.fs e)
    have k2 : c.Kp (w.setCell ⟨c.bs, k, none⟩ (.bool true)) ((w.setCell ⟨c.bs, k, none⟩ (.bool true)).alloc o) := KpF.below _ ((Below.refl _ _).alloc (Nat.le_refl _) _) hu1.lt
    have hu2 : Boxed ((w.setCell ⟨c.bs, k, none⟩ (.bool true)).alloc o) c.bf 38 u := (Below.heap_alloc _ _ _ hu1.lt).trans hu1
    refine k1.trans (k2.trans (KpF.grow hu2 hgr (fun j e hj => ?_) (fun j e => ?_)))
    · have := (hur j e).1
      have := hc.Rf
      omega
    · injection e with e
      simp only at e
      subst e
      rcases hrow with h1 | h1
      · exact Or.inl h1
      · right
        simp
        omega
end Go.Proofs.Ytopoiljgghglaaa
