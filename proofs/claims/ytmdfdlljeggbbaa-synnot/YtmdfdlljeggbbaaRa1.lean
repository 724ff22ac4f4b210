/- The landed reader of package syn: in memory; more, sees, skip, misfitAt, take. -/
import Derived.Test.YtmdfdlljeggbbaaPrs
import Derived.Test.YtmdfdlljeggbbaaNdA
import Derived.Lib.BufferOwn
set_option linter.unusedSimpArgs false
set_option linter.unusedVariables false
set_option maxRecDepth 100000
namespace Go.Proofs.Ytmdfdlljeggbbaa
open Go.RowKit

theorem hid {p : Prop} (h : p) : Hid p := h
/-- Block g holds a reader. -/
def Rdr (w : World) (g : Nat) (s : ByteArray) (a : Int) (v : Value) (st : Bool) : Prop := w.heap[g]? = some (.cells #[.string s, .int .i64 a, v, .bool st] 71 (0, 0))
theorem Rdr.all {w : World} {g : Nat} {s : ByteArray} {a : Int} {v : Value} {st : Bool} (h : Rdr w g s a v st) : w.cell? ⟨g, 0, none⟩ = some (.string s) ∧ w.cell? ⟨g, 1, none⟩ = some (.int .i64 a) ∧ w.cell? ⟨g, 2, none⟩ = some v ∧ w.cell? ⟨g, 3, none⟩ = some (.bool st) ∧ w.frozen? ⟨g, 1, none⟩ = false ∧ w.frozen? ⟨g, 2, none⟩ = false ∧ w.frozen? ⟨g, 3, none⟩ = false := by
  refine ⟨?_, ?_, ?_, ?_, Lib.frozen_of_heap h 1, Lib.frozen_of_heap h 2, Lib.frozen_of_heap h 3⟩ <;> (rw [Lib.cell_of_heap h]; rfl)
theorem Rdr.lt {w : World} {g : Nat} {s : ByteArray} {a : Int} {v : Value} {st : Bool} (h : Rdr w g s a v st) : g < w.heap.size := by
  rcases Nat.lt_or_ge g w.heap.size with h' | h'
  · exact h'
  · simp [Rdr, Array.getElem?_eq_none h'] at h
theorem Rdr.setPlace {w : World} {g : Nat} {s : ByteArray} {a : Int} {v : Value} {st : Bool} (h : Rdr w g s a v st) (z : Int) : Rdr (w.setCell ⟨g, 1, none⟩ (.int .i64 z)) g s z v st := by
  simp only [Rdr] at h ⊢
  simp [World.setCell, Array.getElem?_modify, h]
theorem Rdr.setNodes {w : World} {g : Nat} {s : ByteArray} {a : Int} {v : Value} {st : Bool} (h : Rdr w g s a v st) (u : Value) : Rdr (w.setCell ⟨g, 2, none⟩ u) g s a u st := by
  simp only [Rdr] at h ⊢
  simp [World.setCell, Array.getElem?_modify, h]
theorem Rdr.setStuck {w : World} {g : Nat} {s : ByteArray} {a : Int} {v : Value} {st : Bool} (h : Rdr w g s a v st) (z : Bool) : Rdr (w.setCell ⟨g, 3, none⟩ (.bool z)) g s a v z := by
  simp only [Rdr] at h ⊢
  simp [World.setCell, Array.getElem?_modify, h]
theorem Rdr.below {w w' : World} {g : Nat} {s : ByteArray} {a : Int} {v : Value} {st : Bool} (h : Rdr w g s a v st) (hb : Below w.heap.size w w') : Rdr w' g s a v st := (hb.block g h.lt).trans h
theorem Rdr.alloc {w : World} {g : Nat} {s : ByteArray} {a : Int} {v : Value} {st : Bool} (h : Rdr w g s a v st) (o : Obj) : Rdr (w.alloc o) g s a v st := (Below.heap_alloc w o g h.lt).trans h
theorem Rdr.ca {w : World} {g : Nat} {s : ByteArray} {a : Int} {v : Value} {st : Bool} (h : Rdr w g s a v st) : (∀ o, (w.alloc o).cell? ⟨g, 0, none⟩ = some (.string s)) ∧ (∀ o, (w.alloc o).cell? ⟨g, 1, none⟩ = some (.int .i64 a)) ∧ (∀ o, (w.alloc o).cell? ⟨g, 2, none⟩ = some v) ∧ (∀ o, (w.alloc o).cell? ⟨g, 3, none⟩ = some (.bool st)) ∧ (∀ o, (w.alloc o).frozen? ⟨g, 1, none⟩ = false) ∧ (∀ o, (w.alloc o).frozen? ⟨g, 2, none⟩ = false) ∧ (∀ o, (w.alloc o).frozen? ⟨g, 3, none⟩ = false) :=
  ⟨fun o => (h.alloc o).all.1, fun o => (h.alloc o).all.2.1, fun o => (h.alloc o).all.2.2.1, fun o => (h.alloc o).all.2.2.2.1, fun o => (h.alloc o).all.2.2.2.2.1, fun o => (h.alloc o).all.2.2.2.2.2.1, fun o => (h.alloc o).all.2.2.2.2.2.2⟩
theorem grown_cell (w : World) (g : Nat) (i : Nat) (v : Value) : w.grownBy (w.setCell ⟨g, i, none⟩ v) (some g) := Lib.grownBy_setB (World.grownBy.refl w _) i v
theorem grown_of_below {w w' : World} (hb : Below w.heap.size w w') (row : Option Nat) : w.grownBy w' row := ⟨hb.os, hb.tape, hb.output, hb.size, fun k hk _ => hb.block k hk⟩
theorem grown_trans {w w1 w2 : World} {row : Option Nat} (h1 : w.grownBy w1 row) (h2 : w1.grownBy w2 row) : w.grownBy w2 row :=
  ⟨h2.os.trans h1.os, h2.tape.trans h1.tape, h2.output.trans h1.output, Nat.le_trans h1.size h2.size, fun k hk hn => (h2.block k (Nat.lt_of_lt_of_le hk h1.size) hn).trans (h1.block k hk hn)⟩
theorem below_of_grown {w w' : World} {g B : Nat} (h : w.grownBy w' (some g)) (hB : B ≤ g) (hg : g ≤ w.heap.size) : Below B w w' :=
  ⟨h.os, h.tape, h.output, h.size, fun k hk => h.block k (by omega) (by intro e; injection e with e; omega)⟩
theorem str_len (s : ByteArray) : s.data.toList.length = s.size := Array.length_toList
theorem str_idx (s : ByteArray) (a : Nat) (c : UInt8) (h : s.data.toList[a]? = some c) (w : World) : (Instr.index 9 (.string s) (.int .i64 (a : Int))).run Try.prog w = .ok (.int .u8 (c.toNat : Int)) w := by
  have hl : a < s.data.toList.length := by
    rcases Nat.lt_or_ge a s.data.toList.length with h' | h'
    · exact h'
    · rw [List.getElem?_eq_none h'] at h; cases h
  have hs : a < s.size := by rw [← str_len]; exact hl
  rw [run_index_string w 9 s .i64 (a : Int) Try.underlying9, dif_pos ⟨by omega, by omega⟩]
  rw [List.getElem?_eq_getElem hl] at h
  have e : s[(a : Int).toNat]'(by simpa using hs) = c := by
    exact Option.some.inj h
  rw [e]
theorem dropc (L : List UInt8) (a : Nat) (c : UInt8) (r : List UInt8) (h : L.drop a = c :: r) : L[a]? = some c ∧ L.drop (a + 1) = r ∧ a < L.length := by
  have hl : a < L.length := by
    rcases Nat.lt_or_ge a L.length with h' | h'
    · exact h'
    · rw [List.drop_eq_nil_of_le h'] at h; cases h
  rw [List.drop_eq_getElem_cons hl] at h
  injection h with h1 h2
  exact ⟨by rw [List.getElem?_eq_getElem hl, h1], h2, hl⟩
theorem dropn (L : List UInt8) (a : Nat) (h : L.drop a = []) : L.length ≤ a := by
  rcases Nat.lt_or_ge a L.length with h' | h'
  · rw [List.drop_eq_getElem_cons h'] at h; cases h
  · exact h'
/-- The reader at g stands ahead of l in the text s, at the place a, with the nodes v. -/
structure PA (w : World) (g : Nat) (s : ByteArray) (a : Nat) (v : Value) (l : List UInt8) : Prop where
  rd : Rdr w g s a v false
  at' : s.data.toList.drop a = l
  le : a + l.length = s.size
  small : s.size ≤ 200
theorem PA.below {w w' : World} {g : Nat} {s : ByteArray} {a : Nat} {v : Value} {l : List UInt8} (h : PA w g s a v l) (hb : Below w.heap.size w w') : PA w' g s a v l := ⟨h.rd.below hb, h.at', h.le, h.small⟩
theorem PA.lt {w : World} {g : Nat} {s : ByteArray} {a : Nat} {v : Value} {l : List UInt8} (h : PA w g s a v l) : g < w.heap.size := h.rd.lt
theorem PA.next {w : World} {g : Nat} {s : ByteArray} {a : Nat} {v : Value} {c : UInt8} {r : List UInt8} (h : PA w g s a v (c :: r)) (z : Int) (hz : z = ((a + 1 : Nat) : Int)) : PA (w.setCell ⟨g, 1, none⟩ (.int .i64 z)) g s (a + 1) v r := by
  subst hz
  have := h.le
  exact ⟨h.rd.setPlace _, (dropc _ _ _ _ h.at').2.1, by simp at this; omega, h.small⟩
/-- A misfit is on its way up. -/
def Stk (w : World) (g : Nat) : Prop := ∃ s a v, Rdr w g s a v true
theorem Stk.below {w w' : World} {g : Nat} (h : Stk w g) (hb : Below w.heap.size w w') : Stk w' g := by
  obtain ⟨s, a, v, h⟩ := h
  exact ⟨s, a, v, h.below hb⟩
/-- What is panicked with. -/
def mis (z : Int) : List PanicEntry := [{ v := .iface 68 (.agg #[.int .i64 z]), recovered := false }]
end Go.Proofs.Ytmdfdlljeggbbaa
