/- What each call of package class does, function by function, over the loaded program: first part: bits, join, Both, Either, Not, Has, with, Of, Many. -/
import Derived.Test.YthahnpaigmbiaaaDoorRows
import Derived.WalkKit
import Derived.WalkSpells
import Derived.WalkLawsBesides
import Derived.Deep.QuietTactic
import Derived.BigQuiet
import Derived.Deep.RegionHeld3
import Derived.Lib.QuietBelow
import Derived.Test.YthahnpaigmbiaaaDoorCls
set_option linter.unusedSimpArgs false
set_option linter.unusedVariables false
namespace Go.Proofs.YthahnpaigmbiaaaDoor
open Go.RowKit

/-- Block b holds class k. -/
def Hb (w : World) (b : Nat) (k : C4) : Prop := w.heap[b]? = some (.cells k.cells 24 (0, 0))
theorem Hb.cell {w : World} {b : Nat} {k : C4} (h : Hb w b k) (i : Nat) (hi : i < 4) : w.cell? ⟨b, i, none⟩ = some (.int .u64 (k.w i)) := by
  rw [Lib.cell_of_heap h]
  have := k.get i hi
  simpa using this
theorem Hb.c0 {w : World} {b : Nat} {k : C4} (h : Hb w b k) : w.cell? ⟨b, 0, none⟩ = some (.int .u64 k.a) := h.cell 0 (by decide)
theorem Hb.c1 {w : World} {b : Nat} {k : C4} (h : Hb w b k) : w.cell? ⟨b, 1, none⟩ = some (.int .u64 k.b) := h.cell 1 (by decide)
theorem Hb.c2 {w : World} {b : Nat} {k : C4} (h : Hb w b k) : w.cell? ⟨b, 2, none⟩ = some (.int .u64 k.c) := h.cell 2 (by decide)
theorem Hb.c3 {w : World} {b : Nat} {k : C4} (h : Hb w b k) : w.cell? ⟨b, 3, none⟩ = some (.int .u64 k.d) := h.cell 3 (by decide)
theorem Hb.frozen {w : World} {b : Nat} {k : C4} (h : Hb w b k) (i : Nat) : w.frozen? ⟨b, i, none⟩ = false := Lib.frozen_of_heap h i
theorem Hb.all {w : World} {b : Nat} {k : C4} (h : Hb w b k) : w.cell? ⟨b, 0, none⟩ = some (.int .u64 k.a) ∧ w.cell? ⟨b, 1, none⟩ = some (.int .u64 k.b) ∧ w.cell? ⟨b, 2, none⟩ = some (.int .u64 k.c) ∧ w.cell? ⟨b, 3, none⟩ = some (.int .u64 k.d) ∧ w.frozen? ⟨b, 0, none⟩ = false ∧ w.frozen? ⟨b, 1, none⟩ = false ∧ w.frozen? ⟨b, 2, none⟩ = false ∧ w.frozen? ⟨b, 3, none⟩ = false :=
  ⟨h.c0, h.c1, h.c2, h.c3, h.frozen 0, h.frozen 1, h.frozen 2, h.frozen 3⟩
theorem Hb.lt {w : World} {b : Nat} {k : C4} (h : Hb w b k) : b < w.heap.size := by
  rcases Nat.lt_or_ge b w.heap.size with h' | h'
  · exact h'
  · simp [Hb, Array.getElem?_eq_none h'] at h
theorem Hb.drew {w : World} {b : Nat} {k : C4} (h : Hb w b k) : Hb w.drew b k := h
theorem Hb.below {w w' : World} {B b : Nat} {k : C4} (h : Hb w b k) (hb : Below B w w') (hlt : b < B) : Hb w' b k := (hb.block b hlt).trans h
theorem Hb.alloc {w : World} {b : Nat} {k : C4} (h : Hb w b k) (o : Obj) : Hb (w.alloc o) b k := (Below.heap_alloc w o b h.lt).trans h
theorem Hb.new (w : World) (k : C4) (b : Nat) (hb : b = w.heap.size) : Hb (w.alloc (.cells k.cells 24)) b k := by subst hb; exact heap_alloc_new w _
theorem Hb.ca {w : World} {b : Nat} {k : C4} (h : Hb w b k) : (∀ o, (w.alloc o).cell? ⟨b, 0, none⟩ = some (.int .u64 k.a)) ∧ (∀ o, (w.alloc o).cell? ⟨b, 1, none⟩ = some (.int .u64 k.b)) ∧ (∀ o, (w.alloc o).cell? ⟨b, 2, none⟩ = some (.int .u64 k.c)) ∧ (∀ o, (w.alloc o).cell? ⟨b, 3, none⟩ = some (.int .u64 k.d)) :=
  ⟨fun o => (h.alloc o).c0, fun o => (h.alloc o).c1, fun o => (h.alloc o).c2, fun o => (h.alloc o).c3⟩
theorem Hb.cr {w : World} {b : Nat} {k : C4} (h : Hb w b k) : (∀ d os, (Go.Sort.grow (redrawn w d) os).cell? ⟨b, 0, none⟩ = some (.int .u64 k.a)) ∧ (∀ d os, (Go.Sort.grow (redrawn w d) os).cell? ⟨b, 1, none⟩ = some (.int .u64 k.b)) ∧ (∀ d os, (Go.Sort.grow (redrawn w d) os).cell? ⟨b, 2, none⟩ = some (.int .u64 k.c)) ∧ (∀ d os, (Go.Sort.grow (redrawn w d) os).cell? ⟨b, 3, none⟩ = some (.int .u64 k.d)) :=
  ⟨cell_regrown h.c0, cell_regrown h.c1, cell_regrown h.c2, cell_regrown h.c3⟩
theorem Hb.other {w : World} {b : Nat} {k : C4} (h : Hb w b k) (p : Addr) (v : Value) (hp : b ≠ p.block) : Hb (w.setCell p v) b k := (Below.heap_setCell w p v b hp).trans h
theorem Hb.store {w : World} {b : Nat} {k : C4} (h : Hb w b k) (i : Nat) (hi : i < 4) (z : Int) : Hb (w.setCell ⟨b, i, none⟩ (.int .u64 z)) b (k.put i z) := by
  have hs := k.set i hi z
  simp only [Hb] at h ⊢
  simp [World.setCell, Array.getElem?_modify, h, hs]
abbrev put4 (w : World) (b : Nat) (u : C4) : World := (((w.setCell ⟨b, 0, none⟩ (.int .u64 u.a)).setCell ⟨b, 1, none⟩ (.int .u64 u.b)).setCell ⟨b, 2, none⟩ (.int .u64 u.c)).setCell ⟨b, 3, none⟩ (.int .u64 u.d)
theorem Hb.put4 {w : World} {b : Nat} {k : C4} (h : Hb w b k) (u : C4) : Hb (put4 w b u) b u :=
  ((((h.store 0 (by decide) u.a).store 1 (by decide) u.b).store 2 (by decide) u.c).store 3 (by decide) u.d)
theorem Hb.other4 {w : World} {b c : Nat} {k : C4} (h : Hb w b k) (u : C4) (hc : b ≠ c) : Hb (Go.Proofs.YthahnpaigmbiaaaDoor.put4 w c u) b k :=
  (((h.other _ _ hc).other _ _ hc).other _ _ hc).other _ _ hc
theorem below_put4 {w0 w : World} {B b : Nat} (h : Below B w0 w) (hb : B ≤ b) (u : C4) : Below B w0 (put4 w b u) :=
  (((h.setCell hb _).setCell hb _).setCell hb _).setCell hb _
theorem put4_size (w : World) (b : Nat) (u : C4) : (put4 w b u).heap.size = w.heap.size := by simp [World.setCell]

set_option maxRecDepth 100000 in
theorem eq4d (d : Nat) (x y : C4) (w : World) : (Op.equalIn (d + 1 + 1) 24 x.v y.v).run Tryd.prog w = .ok (x.eqb y) w := by
  have hi : ∀ (a b : Int) (w : World), (Op.equalIn (d + 1) 22 (.int .u64 a) (.int .u64 b)).run Tryd.prog w = .ok (a == b) w := fun a b w => run_equalIn_int w d 22 .u64 .u64 a b Tryd.underlying22
  have p0 : ∀ (z : C4) (w : World), (part 22 z.cells 0).run Tryd.prog w = .ok (.int .u64 z.a) w := fun _ _ => by kernel_rfl
  have p1 : ∀ (z : C4) (w : World), (part 22 z.cells 1).run Tryd.prog w = .ok (.int .u64 z.b) w := fun _ _ => by kernel_rfl
  have p2 : ∀ (z : C4) (w : World), (part 22 z.cells 2).run Tryd.prog w = .ok (.int .u64 z.c) w := fun _ _ => by kernel_rfl
  have p3 : ∀ (z : C4) (w : World), (part 22 z.cells 3).run Tryd.prog w = .ok (.int .u64 z.d) w := fun _ _ => by kernel_rfl
  rw [Op.equalIn]
  simp only [Sem.run_bind, run_underlying Tryd.underlying24, Result.andThen_ok, Tryd.sizeOf22]
  rw [Std.Legacy.Range.forIn_eq_forIn_range']
  rw [show List.range' _ _ _ = [0, 1, 2, 3] from rfl]
  simp only [List.forIn_cons, List.forIn_nil, Sem.run_bind, Nat.mul_one, p0, Result.andThen_ok, hi, Sem.run_ite]
  simp only [C4.eqb]
  cases h1 : x.a == y.a <;> cases h2 : x.b == y.b <;> cases h3 : x.c == y.c <;> cases h4 : x.d == y.d <;> simp [p1, p2, p3, hi, h2, h3, h4]
theorem eq4 (x y : C4) (w : World) : (Op.equalIn 10000 24 x.v y.v).run Tryd.prog w = .ok (x.eqb y) w := eq4d 9998 x y w

theorem both1_any (x y : Int) (w : World) :
    Calls Tryd.prog 26 #[.int .u64 x, .int .u64 y] w fun e w' => e = .returned (.int .u64 (bits .and .u64 x y)) ∧ w' = w := by
  go_enter Tryd.func26, Tryd.ntmps26
  go_wp2
  go_ret
  exact ⟨rfl, rfl⟩
theorem either1_any (x y : Int) (w : World) :
    Calls Tryd.prog 27 #[.int .u64 x, .int .u64 y] w fun e w' => e = .returned (.int .u64 (bits .or .u64 x y)) ∧ w' = w := by
  go_enter Tryd.func27, Tryd.ntmps27
  go_wp2
  go_ret
  exact ⟨rfl, rfl⟩
theorem not1_any (x y : Int) (w : World) :
    Calls Tryd.prog 22 #[.int .u64 x, .int .u64 y] w fun e w' => e = .returned (.int .u64 (not64 x)) ∧ w' = w := by
  have hs : ¬ IntKind.u64.signed = true := by decide
  go_enter Tryd.func22, Tryd.ntmps22
  go_wp2
  all_goals first | (exfalso; exact hs ‹_›) | skip
  all_goals (go_ret; exact ⟨rfl, rfl⟩)
set_option maxHeartbeats 400000 in
theorem ones_any (x : Int) (w : World) :
    Calls Tryd.prog 23 #[.int .u64 x] w fun e w' => e = .returned (.int .i64 (ones x)) ∧ w' = w := by
  go_enter Tryd.func23, Tryd.ntmps23
  go_wp2
  go_ret
  exact ⟨rfl, rfl⟩
set_option maxHeartbeats 400000 in
theorem has_any (k : C4) (x : Int) (w : World) (h : 0 ≤ x) (h2 : x < 256) :
    Calls Tryd.prog 16 #[k.v, .int .u8 x] w fun e w' => e = .returned (.bool (k.hasI x)) ∧ Below w.heap.size w w' := by
  have hw := k.get (x/64).toNat (by omega)
  go_enter Tryd.func16, Tryd.ntmps16
  go_wp2
  go_ret
  exact ⟨rfl, (Below.refl _ _).alloc (Nat.le_refl _) _⟩
set_option maxHeartbeats 400000 in
theorem with_any (k : C4) (x : Int) (w : World) (h : 0 ≤ x) (h2 : x < 256) :
    Calls Tryd.prog 19 #[k.v, .int .u8 x] w fun e w' => e = .returned (k.add x).v ∧ Below w.heap.size w w' := by
  have hw := k.get (x/64).toNat (by omega)
  have hs := k.set (x/64).toNat (by omega)
  go_enter Tryd.func19, Tryd.ntmps19
  go_wp2
  refine bodyPost_ret (v := (k.add x).v) (by simp [results, Tryd.results19, go_sem]; exact ⟨rfl, rfl, rfl, rfl⟩) rfl ⟨rfl, ?_⟩
  exact ((Below.refl _ _).alloc (Nat.le_refl _) _).alloc (by simp) _

set_option maxHeartbeats 1000000 in
theorem join_any (g : Nat) (F : Int → Int → Int) (hg : ∀ (p q : Int) (w : World), Calls Tryd.prog g #[.int .u64 p, .int .u64 q] w fun e w' => e = .returned (.int .u64 (F p q)) ∧ w' = w)
    (he : ∀ args w, (callFunc g args).run Tryd.prog w = .ok (.enter g args) w) (x y : C4) (w : World) :
    Calls Tryd.prog 21 #[x.v, y.v, .func (.func g) #[] #[]] w fun e w' => e = .returned (jn F x y 4).v ∧ Below w.heap.size w w' := by
  have HG := (show Hid _ from hg)
  clear hg
  go_enter Tryd.func21, Tryd.ntmps21
  go_wp2
  go_loopw [9] (fun i wr => ∃ k : Nat, k ≤ 4 ∧ i = .int .i64 k ∧ Below w.heap.size w wr ∧ Hb wr w.heap.size x ∧ Hb wr (w.heap.size + 1) y ∧ Hb wr (w.heap.size + 1 + 1) z4 ∧ Hb wr (w.heap.size + 1 + 1 + 1) (jn F x y k)) (fun i _ => 4 - (intOf i).toNat)
  case atStart =>
    refine ⟨0, by omega, rfl, ?_, ?_, ?_, ?_, ?_⟩
    · exact ((((Below.refl _ _).alloc (Nat.le_refl _) _).alloc (by simp) _).alloc (by simp; omega) _).alloc (by simp; omega) _
    · exact (((Hb.new _ x _ rfl).alloc _).alloc _).alloc _
    · exact ((Hb.new _ y _ (by simp)).alloc _).alloc _
    · exact (Hb.new _ z4 _ (by simp)).alloc _
    · exact Hb.new _ (jn F x y 0) _ (by simp)
  case round =>
    obtain ⟨k, hk, rfl, hB, hX, hY, hZ, hJ⟩ := hrel
    by_cases hlt : k < 4
    · have cx := hX.cell k hlt
      have cy := hY.cell k hlt
      have cj := hJ.cell k hlt
      have fj := hJ.frozen k
      have i0 : (0 : Int) ≤ (k : Int) := by omega
      have i1 : (k : Int) < 4 := by omega
      have sx := fun v => (hX.other ⟨w.heap.size + 1 + 1 + 1, k, none⟩ v (by simp only; omega)).cell k hlt
      have sy := fun v => (hY.other ⟨w.heap.size + 1 + 1 + 1, k, none⟩ v (by simp only; omega)).cell k hlt
      go_wp2_with fail
      go_region_held3 (fun w' => w'.cell? ⟨w.heap.size, k, none⟩ = some (.int .u64 (x.w k)) ∧ w'.cell? ⟨w.heap.size + 1, k, none⟩ = some (.int .u64 (y.w k))) (go_keep)
        (first | (refine (HG.out _ _ _).mono ?_; rintro e w' ⟨rfl, rfl⟩))
      all_goals go_wp2
      refine ⟨⟨k + 1, by omega, by go_num, ?_, ?_, ?_, ?_, ?_⟩, by simp [intOf]; omega⟩
      · exact (hB.setCell (by simp; omega) _).drew
      · exact (hX.other _ _ (by simp only; omega)).drew
      · exact (hY.other _ _ (by simp only; omega)).drew
      · exact (hZ.other _ _ (by simp only; omega)).drew
      · rw [← jn_put F x y k hlt]
        exact (hJ.store k hlt _).drew
    · have hk4 : k = 4 := by omega
      subst hk4
      have c0 := hJ.c0
      have c1 := hJ.c1
      have c2 := hJ.c2
      have c3 := hJ.c3
      have d0 := hZ.c0
      have d1 := hZ.c1
      have d2 := hZ.c2
      have d3 := hZ.c3
      have f0 := hZ.frozen 0
      have f1 := hZ.frozen 1
      have f2 := hZ.frozen 2
      have f3 := hZ.frozen 3
      go_wp2
      have hq := hZ.put4 (jn F x y 4)
      refine bodyPost_ret (v := (jn F x y 4).v) (by simp [results, Tryd.results21, go_sem, hq.c0, hq.c1, hq.c2, hq.c3]) rfl ⟨rfl, ?_⟩
      exact (((hB.setCell (by simp; omega) _).setCell (by simp; omega) _).setCell (by simp; omega) _).setCell (by simp; omega) _

theorem enters_both1 : ∀ args w, (callFunc 26 args).run Tryd.prog w = .ok (.enter 26 args) w := fun _ _ => by kernel_rfl
theorem enters_either1 : ∀ args w, (callFunc 27 args).run Tryd.prog w = .ok (.enter 27 args) w := fun _ _ => by kernel_rfl
theorem enters_not1 : ∀ args w, (callFunc 22 args).run Tryd.prog w = .ok (.enter 22 args) w := fun _ _ => by kernel_rfl
set_option maxHeartbeats 400000 in
theorem both_any (x y : C4) (w : World) :
    Calls Tryd.prog 17 #[x.v, y.v] w fun e w' => e = .returned (x.and y).v ∧ Below w.heap.size w w' := by
  go_enter Tryd.func17, Tryd.ntmps17
  go_wp2_with fail
  refine (join_any 26 _ both1_any enters_both1 x y _).mono ?_
  rintro e w1 ⟨rfl, hb⟩
  have hB : Below w.heap.size w w1 := ((((Below.refl _ _).alloc (Nat.le_refl _) _).alloc (by simp) _).alloc (by simp; omega) _).trans (hb.mono (by simp; omega))
  have hZ : Hb w1 (w.heap.size + 1 + 1) z4 := (Hb.new _ z4 _ (by simp)).below hb (by simp)
  obtain ⟨d0, d1, d2, d3, f0, f1, f2, f3⟩ := hZ.all
  go_wp2
  have hq := hZ.put4 (x.and y)
  refine bodyPost_ret (v := (x.and y).v) (by have g0 := hq.c0; have g1 := hq.c1; have g2 := hq.c2; have g3 := hq.c3; simp [jn, C4.and, C4.or, C4.not] at g0 g1 g2 g3 ⊢; simp [results, Tryd.results17, go_sem, C4.and, C4.or, g0, g1, g2, g3]) rfl ⟨rfl, ?_⟩
  exact below_put4 hB (by omega) _
set_option maxHeartbeats 400000 in
theorem either_any (x y : C4) (w : World) :
    Calls Tryd.prog 18 #[x.v, y.v] w fun e w' => e = .returned (x.or y).v ∧ Below w.heap.size w w' := by
  go_enter Tryd.func18, Tryd.ntmps18
  go_wp2_with fail
  refine (join_any 27 _ either1_any enters_either1 x y _).mono ?_
  rintro e w1 ⟨rfl, hb⟩
  have hB : Below w.heap.size w w1 := ((((Below.refl _ _).alloc (Nat.le_refl _) _).alloc (by simp) _).alloc (by simp; omega) _).trans (hb.mono (by simp; omega))
  have hZ : Hb w1 (w.heap.size + 1 + 1) z4 := (Hb.new _ z4 _ (by simp)).below hb (by simp)
  obtain ⟨d0, d1, d2, d3, f0, f1, f2, f3⟩ := hZ.all
  go_wp2
  have hq := hZ.put4 (x.or y)
  refine bodyPost_ret (v := (x.or y).v) (by have g0 := hq.c0; have g1 := hq.c1; have g2 := hq.c2; have g3 := hq.c3; simp [jn, C4.and, C4.or, C4.not] at g0 g1 g2 g3 ⊢; simp [results, Tryd.results18, go_sem, C4.and, C4.or, g0, g1, g2, g3]) rfl ⟨rfl, ?_⟩
  exact below_put4 hB (by omega) _
end Go.Proofs.YthahnpaigmbiaaaDoor
