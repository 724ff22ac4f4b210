/- Classes in memory, and small facts on worlds and endings: of no Go function. -/
import Derived.Test.YtmdfdlljeggbbaaProg
import Derived.WalkKit
import Derived.WalkSpells
import Derived.WalkLawsBesides
import Derived.Deep.QuietTactic
import Derived.BigQuiet
import Derived.Deep.RegionHeld3
import Derived.Lib.QuietBelow
import Derived.Test.YtmdfdlljeggbbaaCls
set_option linter.unusedSimpArgs false
set_option linter.unusedVariables false
namespace Go.Proofs.Ytmdfdlljeggbbaa
open Go.RowKit

/-- Block b holds class k. -/
def Hb (w : World) (b : Nat) (k : C4) : Prop := w.heap[b]? = some (.cells k.cells 24 (0, 0))
theorem Hb.cell {w : World} {b : Nat} {k : C4} (h : Hb w b k) (i : Nat) (hi : i < 4) : w.cell? ⟨b, i, none⟩ = some (.int .u64 (k.w i)) := by
  rw [Lib.cell_of_heap h]
  have := k.get i hi
  simpa using this
theorem Hb.c0 {w : World} {b : Nat} {k : C4} (h : Hb w b k) : w.cell? ⟨b, 0, none⟩ = some (.int .u64 k.a) := h.cell 0 (by decide)
theorem Hb.c1 {w : World} {b : Nat} {k : C4} (h : Hb w b k) : w.cell? ⟨b, 1, none⟩ = some (.int .u64 k.b) := h.cell 1 (by decide)
theorem Hb.c2 {w : World} {b : Nat} {k : C4} (h : Hb w b k) : w.cell? ⟨b, 2, none⟩ = some (.int .u64 k.c) := h.cell 2 (by decide)
theorem Hb.c3 {w : World} {b : Nat} {k : C4} (h : Hb w b k) : w.cell? ⟨b, 3, none⟩ = some (.int .u64 k.d) := h.cell 3 (by decide)
theorem Hb.frozen {w : World} {b : Nat} {k : C4} (h : Hb w b k) (i : Nat) : w.frozen? ⟨b, i, none⟩ = false := Lib.frozen_of_heap h i
theorem Hb.all {w : World} {b : Nat} {k : C4} (h : Hb w b k) : w.cell? ⟨b, 0, none⟩ = some (.int .u64 k.a) ∧ w.cell? ⟨b, 1, none⟩ = some (.int .u64 k.b) ∧ w.cell? ⟨b, 2, none⟩ = some (.int .u64 k.c) ∧ w.cell? ⟨b, 3, none⟩ = some (.int .u64 k.d) ∧ w.frozen? ⟨b, 0, none⟩ = false ∧ w.frozen? ⟨b, 1, none⟩ = false ∧ w.frozen? ⟨b, 2, none⟩ = false ∧ w.frozen? ⟨b, 3, none⟩ = false :=
  ⟨h.c0, h.c1, h.c2, h.c3, h.frozen 0, h.frozen 1, h.frozen 2, h.frozen 3⟩
theorem Hb.lt {w : World} {b : Nat} {k : C4} (h : Hb w b k) : b < w.heap.size := by
  rcases Nat.lt_or_ge b w.heap.size with h' | h'
  · exact h'
  · simp [Hb, Array.getElem?_eq_none h'] at h
theorem Hb.drew {w : World} {b : Nat} {k : C4} (h : Hb w b k) : Hb w.drew b k := h
theorem Hb.below {w w' : World} {B b : Nat} {k : C4} (h : Hb w b k) (hb : Below B w w') (hlt : b < B) : Hb w' b k := (hb.block b hlt).trans h
theorem Hb.alloc {w : World} {b : Nat} {k : C4} (h : Hb w b k) (o : Obj) : Hb (w.alloc o) b k := (Below.heap_alloc w o b h.lt).trans h
theorem Hb.new (w : World) (k : C4) (b : Nat) (hb : b = w.heap.size) : Hb (w.alloc (.cells k.cells 24)) b k := by subst hb; exact heap_alloc_new w _
theorem Hb.ca {w : World} {b : Nat} {k : C4} (h : Hb w b k) : (∀ o, (w.alloc o).cell? ⟨b, 0, none⟩ = some (.int .u64 k.a)) ∧ (∀ o, (w.alloc o).cell? ⟨b, 1, none⟩ = some (.int .u64 k.b)) ∧ (∀ o, (w.alloc o).cell? ⟨b, 2, none⟩ = some (.int .u64 k.c)) ∧ (∀ o, (w.alloc o).cell? ⟨b, 3, none⟩ = some (.int .u64 k.d)) :=
  ⟨fun o => (h.alloc o).c0, fun o => (h.alloc o).c1, fun o => (h.alloc o).c2, fun o => (h.alloc o).c3⟩
theorem Hb.cr {w : World} {b : Nat} {k : C4} (h : Hb w b k) : (∀ d os, (Go.Sort.grow (redrawn w d) os).cell? ⟨b, 0, none⟩ = some (.int .u64 k.a)) ∧ (∀ d os, (Go.Sort.grow (redrawn w d) os).cell? ⟨b, 1, none⟩ = some (.int .u64 k.b)) ∧ (∀ d os, (Go.Sort.grow (redrawn w d) os).cell? ⟨b, 2, none⟩ = some (.int .u64 k.c)) ∧ (∀ d os, (Go.Sort.grow (redrawn w d) os).cell? ⟨b, 3, none⟩ = some (.int .u64 k.d)) :=
  ⟨cell_regrown h.c0, cell_regrown h.c1, cell_regrown h.c2, cell_regrown h.c3⟩
theorem Hb.other {w : World} {b : Nat} {k : C4} (h : Hb w b k) (p : Addr) (v : Value) (hp : b ≠ p.block) : Hb (w.setCell p v) b k := (Below.heap_setCell w p v b hp).trans h
theorem Hb.store {w : World} {b : Nat} {k : C4} (h : Hb w b k) (i : Nat) (hi : i < 4) (z : Int) : Hb (w.setCell ⟨b, i, none⟩ (.int .u64 z)) b (k.put i z) := by
  have hs := k.set i hi z
  simp only [Hb] at h ⊢
  simp [World.setCell, Array.getElem?_modify, h, hs]
abbrev put4 (w : World) (b : Nat) (u : C4) : World := (((w.setCell ⟨b, 0, none⟩ (.int .u64 u.a)).setCell ⟨b, 1, none⟩ (.int .u64 u.b)).setCell ⟨b, 2, none⟩ (.int .u64 u.c)).setCell ⟨b, 3, none⟩ (.int .u64 u.d)
theorem Hb.put4 {w : World} {b : Nat} {k : C4} (h : Hb w b k) (u : C4) : Hb (put4 w b u) b u :=
  ((((h.store 0 (by decide) u.a).store 1 (by decide) u.b).store 2 (by decide) u.c).store 3 (by decide) u.d)
theorem Hb.other4 {w : World} {b c : Nat} {k : C4} (h : Hb w b k) (u : C4) (hc : b ≠ c) : Hb (Go.Proofs.Ytmdfdlljeggbbaa.put4 w c u) b k :=
  (((h.other _ _ hc).other _ _ hc).other _ _ hc).other _ _ hc
theorem below_put4 {w0 w : World} {B b : Nat} (h : Below B w0 w) (hb : B ≤ b) (u : C4) : Below B w0 (put4 w b u) :=
  (((h.setCell hb _).setCell hb _).setCell hb _).setCell hb _
theorem put4_size (w : World) (b : Nat) (u : C4) : (put4 w b u).heap.size = w.heap.size := by simp [World.setCell]

set_option maxRecDepth 100000 in
theorem eq4d (d : Nat) (x y : C4) (w : World) : (Op.equalIn (d + 1 + 1) 24 x.v y.v).run Try.prog w = .ok (x.eqb y) w := by
  have hi : ∀ (a b : Int) (w : World), (Op.equalIn (d + 1) 22 (.int .u64 a) (.int .u64 b)).run Try.prog w = .ok (a == b) w := fun a b w => run_equalIn_int w d 22 .u64 .u64 a b Try.underlying22
  have p0 : ∀ (z : C4) (w : World), (part 22 z.cells 0).run Try.prog w = .ok (.int .u64 z.a) w := fun _ _ => by kernel_rfl
  have p1 : ∀ (z : C4) (w : World), (part 22 z.cells 1).run Try.prog w = .ok (.int .u64 z.b) w := fun _ _ => by kernel_rfl
  have p2 : ∀ (z : C4) (w : World), (part 22 z.cells 2).run Try.prog w = .ok (.int .u64 z.c) w := fun _ _ => by kernel_rfl
  have p3 : ∀ (z : C4) (w : World), (part 22 z.cells 3).run Try.prog w = .ok (.int .u64 z.d) w := fun _ _ => by kernel_rfl
  rw [Op.equalIn]
  simp only [Sem.run_bind, run_underlying Try.underlying24, Result.andThen_ok, Try.sizeOf22]
  rw [Std.Legacy.Range.forIn_eq_forIn_range']
  rw [show List.range' _ _ _ = [0, 1, 2, 3] from rfl]
  simp only [List.forIn_cons, List.forIn_nil, Sem.run_bind, Nat.mul_one, p0, Result.andThen_ok, hi, Sem.run_ite]
  simp only [C4.eqb]
  cases h1 : x.a == y.a <;> cases h2 : x.b == y.b <;> cases h3 : x.c == y.c <;> cases h4 : x.d == y.d <;> simp [p1, p2, p3, hi, h2, h3, h4]
theorem eq4 (x y : C4) (w : World) : (Op.equalIn 10000 24 x.v y.v).run Try.prog w = .ok (x.eqb y) w := eq4d 9998 x y w

theorem ret_str {a b : ByteArray} (h : a = b) : Ending.returned (.string a) = .returned (.string b) := by rw [h]
theorem below_drewN' (w : World) (n : Nat) : Below w.heap.size w (w.drewN n) := ⟨rfl, rfl, rfl, Nat.le_refl _, fun _ _ => rfl⟩

theorem cat_str (a b : List UInt8) : (⟨a.toArray⟩ : ByteArray) ++ ⟨b.toArray⟩ = ⟨(a ++ b).toArray⟩ := by
  apply ByteArray.ext
  simp [ByteArray.data_append]
theorem size_str (a : List UInt8) : (⟨a.toArray⟩ : ByteArray).size = a.length := by simp [ByteArray.size]

theorem ret_int {k : IntKind} {a b : Int} (h : a = b) : Ending.returned (.int k a) = .returned (.int k b) := by rw [h]
end Go.Proofs.Ytmdfdlljeggbbaa
