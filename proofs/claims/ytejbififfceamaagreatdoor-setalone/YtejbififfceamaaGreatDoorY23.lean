/- Sets of steps in memory; package sim: with, has. Package sim: IsEmpty. Package sim: PlaceOf. A loop over a method's value, whose receiver stands ahead of yield; the body always goes on, and may call what writes a map that lay ahead of the loop. A loop over a method's value, whose receiver stands ahead of yield; the body may leave the loop. Package sim: a set of steps hands on its steps, rising, till it is told to stop. -/
import Derived.Test.YtejbififfceamaaGreatDoorY22
import Derived.Test.YtejbififfceamaaGreatDoorY01
import Derived.RangeFuncNested
import Derived.RangeFuncBound
import Derived.RangeFuncCalls
import Derived.RangeFuncLeaves
import Derived.Shelf.Abstract
import Derived.Shelf.RegionOpen
import Derived.WalkKit
import Derived.OwnWalkIn
import Derived.TacticsInMore
import Derived.LoopNIn
import Derived.LoopIn
import Derived.Test.YtejbififfceamaaGreatDoorY03
namespace Go.Proofs.YtejbififfceamaaGreatDoor
set_option linter.unusedSimpArgs false
set_option linter.unusedVariables false
set_option maxRecDepth 100000
open Go.RowKit

/-- A set of steps as a value, and its cells. -/
def stV (p : Nat → Bool) : Value := .agg #[.int .u64 (wd p 0), .int .u64 (wd p 1), .int .u64 (wd p 2), .int .u64 (wd p 3)]
def cellsS (p : Nat → Bool) : List Value := [.int .u64 (wd p 0), .int .u64 (wd p 1), .int .u64 (wd p 2), .int .u64 (wd p 3)]
theorem cellsS_get (p : Nat → Bool) (i : Nat) (h : i < 4) : (cellsS p)[i]? = some (.int .u64 (wd p i)) := by
  match i, h with
  | 0, _ | 1, _ | 2, _ | 3, _ => rfl
theorem cellsS_set {p q : Nat → Bool} (i : Nat) (hi : i < 4) {x : Int} (hx : okW x) (hb : ∀ j, j < 64 → x.toNat.testBit j = q (64 * i + j)) (ho : ∀ k j, k < 4 → k ≠ i → j < 64 → p (64 * k + j) = q (64 * k + j)) :
    (cellsS p).set i (.int .u64 x) = cellsS q := by
  have e1 : x = wd q i := wd_of hx hb
  have e2 : ∀ k, k < 4 → k ≠ i → wd p k = wd q k := fun k hk hne => wd_congr (fun j hj => ho k j hk hne hj)
  subst e1
  apply List.ext_getElem?
  intro k
  rw [List.getElem?_set]
  have hl : (cellsS p).length = 4 := rfl
  have hl2 : (cellsS q).length = 4 := rfl
  by_cases hk : k < 4
  · by_cases hki : i = k
    · subst hki
      rw [if_pos rfl, if_pos (by omega), cellsS_get q i hk]
    · rw [if_neg hki, cellsS_get p k hk, cellsS_get q k hk, e2 k hk (fun e => hki e.symm)]
  · rw [if_neg (by omega), List.getElem?_eq_none (by omega), List.getElem?_eq_none (by omega)]
theorem withS_set (p : Nat → Bool) (a : Nat) (ha : a < 256) : (cellsS p).set (a / 64) (.int .u64 (bits .or .u64 (wd p (a / 64)) (IntKind.u64.wrap (2 ^ (a % 64))))) = cellsS (withP p a) := by
  have h1 := or_ok (wd_ok p (a / 64)) (pow_small (a % 64) (by omega)).1
  refine cellsS_set (a / 64) (by omega) h1.1 (fun j hj => ?_) (fun k j hk hne hj => ?_)
  · rw [h1.2, wd_bit p _ j hj, (pow_small (a % 64) (by omega)).2]
    unfold withP
    congr 1
    have : (a % 64 = j) = (64 * (a / 64) + j = a) := by apply propext; omega
    simp only [this]
  · unfold withP
    have : ¬ 64 * k + j = a := by omega
    simp [this]
/-- Block b holds a set of steps. -/
def Hq (w : World) (b : Nat) (p : Nat → Bool) : Prop := w.heap[b]? = some (.cells #[.int .u64 (wd p 0), .int .u64 (wd p 1), .int .u64 (wd p 2), .int .u64 (wd p 3)] 207 (0, 0))
theorem Hq.cell {w : World} {b : Nat} {p : Nat → Bool} (h : Hq w b p) (i : Nat) (hi : i < 4) : w.cell? ⟨b, i, none⟩ = some (.int .u64 (wd p i)) := by
  rw [Lib.cell_of_heap h]
  have := cellsS_get p i hi
  simpa [cellsS] using this
theorem Hq.frozen {w : World} {b : Nat} {p : Nat → Bool} (h : Hq w b p) (i : Nat) : w.frozen? ⟨b, i, none⟩ = false := Lib.frozen_of_heap h i
theorem Hq.all {w : World} {b : Nat} {p : Nat → Bool} (h : Hq w b p) : w.cell? ⟨b, 0, none⟩ = some (.int .u64 (wd p 0)) ∧ w.cell? ⟨b, 1, none⟩ = some (.int .u64 (wd p 1)) ∧ w.cell? ⟨b, 2, none⟩ = some (.int .u64 (wd p 2)) ∧ w.cell? ⟨b, 3, none⟩ = some (.int .u64 (wd p 3)) :=
  ⟨h.cell 0 (by decide), h.cell 1 (by decide), h.cell 2 (by decide), h.cell 3 (by decide)⟩
theorem Hq.frz {w : World} {b : Nat} {p : Nat → Bool} (h : Hq w b p) : w.frozen? ⟨b, 0, none⟩ = false ∧ w.frozen? ⟨b, 1, none⟩ = false ∧ w.frozen? ⟨b, 2, none⟩ = false ∧ w.frozen? ⟨b, 3, none⟩ = false :=
  ⟨h.frozen 0, h.frozen 1, h.frozen 2, h.frozen 3⟩
theorem Hq.lt {w : World} {b : Nat} {p : Nat → Bool} (h : Hq w b p) : b < w.heap.size := by
  rcases Nat.lt_or_ge b w.heap.size with h' | h'
  · exact h'
  · simp [Hq, Array.getElem?_eq_none h'] at h
theorem Hq.drew {w : World} {b : Nat} {p : Nat → Bool} (h : Hq w b p) : Hq w.drew b p := h
theorem Hq.below {w w' : World} {B b : Nat} {p : Nat → Bool} (h : Hq w b p) (hb : Below B w w') (hlt : b < B) : Hq w' b p := (hb.block b hlt).trans h
theorem Hq.grown {w w' : World} {b : Nat} {p : Nat → Bool} {row : Option Nat} (h : Hq w b p) (hg : w.grownBy w' row) (hne : some b ≠ row) : Hq w' b p := (hg.block b h.lt hne).trans h
theorem Hq.alloc {w : World} {b : Nat} {p : Nat → Bool} (h : Hq w b p) (o : Obj) : Hq (w.alloc o) b p := (Below.heap_alloc w o b h.lt).trans h
theorem Hq.new (w : World) (p : Nat → Bool) (b : Nat) (hb : b = w.heap.size) : Hq (w.alloc (.cells #[.int .u64 (wd p 0), .int .u64 (wd p 1), .int .u64 (wd p 2), .int .u64 (wd p 3)] 207)) b p := by subst hb; exact heap_alloc_new w _
theorem Hq.zero (w : World) (b : Nat) (hb : b = w.heap.size) : Hq (w.alloc (.cells #[.int .u64 0, .int .u64 0, .int .u64 0, .int .u64 0] 207)) b noP := by
  subst hb
  unfold Hq
  rw [wd_no, wd_no, wd_no, wd_no]
  exact heap_alloc_new w _
theorem stV_no : stV noP = .agg #[.int .u64 0, .int .u64 0, .int .u64 0, .int .u64 0] := by
  unfold stV
  rw [wd_no, wd_no, wd_no, wd_no]
theorem Hq.other {w : World} {b : Nat} {p : Nat → Bool} (h : Hq w b p) (a : Addr) (v : Value) (hp : b ≠ a.block) : Hq (w.setCell a v) b p := (Below.heap_setCell w a v b hp).trans h
theorem Hq.store {w : World} {b : Nat} {p q : Nat → Bool} (h : Hq w b p) (i : Nat) (hi : i < 4) (z : Int) (hs : (cellsS p).set i (.int .u64 z) = cellsS q) : Hq (w.setCell ⟨b, i, none⟩ (.int .u64 z)) b q := by
  unfold cellsS at hs
  unfold Hq at h ⊢
  simp [World.setCell, Array.getElem?_modify, h, hs]
/-- All words are set. -/
abbrev putS (w : World) (b : Nat) (q : Nat → Bool) : World := (((w.setCell ⟨b, 0, none⟩ (.int .u64 (wd q 0))).setCell ⟨b, 1, none⟩ (.int .u64 (wd q 1))).setCell ⟨b, 2, none⟩ (.int .u64 (wd q 2))).setCell ⟨b, 3, none⟩ (.int .u64 (wd q 3))
theorem Hq.putS {w : World} {b : Nat} {p : Nat → Bool} (h : Hq w b p) (q : Nat → Bool) : Hq (putS w b q) b q := by
  unfold Hq at h ⊢
  simp [World.setCell, Array.getElem?_modify, h]
theorem Hq.otherS {w : World} {b c : Nat} {p : Nat → Bool} (h : Hq w b p) (q : Nat → Bool) (hc : b ≠ c) : Hq (Go.Proofs.YtejbififfceamaaGreatDoor.putS w c q) b p :=
  (((h.other _ _ hc).other _ _ hc).other _ _ hc).other _ _ hc
theorem below_putS {w0 w : World} {B b : Nat} (h : Below B w0 w) (hb : B ≤ b) (q : Nat → Bool) : Below B w0 (putS w b q) :=
  (((h.setCell hb _).setCell hb _).setCell hb _).setCell hb _
theorem putS_size (w : World) (b : Nat) (q : Nat → Bool) : (putS w b q).heap.size = w.heap.size := by simp [World.setCell]
theorem grown_setS (w : World) (b i : Nat) (v : Value) : w.grownBy (w.setCell ⟨b, i, none⟩ v) (some b) :=
  ⟨rfl, rfl, rfl, by simp [World.setCell], fun k _ hk => Below.heap_setCell _ _ _ _ (fun e => hk (by rw [e]))⟩
theorem grown_putS (w : World) (b : Nat) (q : Nat → Bool) : w.grownBy (putS w b q) (some b) :=
  (((grown_setS w b 0 _).trans (grown_setS _ b 1 _)).trans (grown_setS _ b 2 _)).trans (grown_setS _ b 3 _)
theorem gr_below {w w' : World} (h : Below w.heap.size w w') (row : Option Nat) : w.grownBy w' row := ⟨h.1, h.2, h.3, h.size, fun i hi _ => h.block i hi⟩
theorem sd64 (a : Nat) : (a : Int).tdiv 64 = ((a / 64 : Nat) : Int) := by
  rw [Int.tdiv_eq_ediv_of_nonneg (by omega)]; omega
theorem sm64 (a : Nat) : (a : Int).tmod 64 = ((a % 64 : Nat) : Int) := by
  rw [Int.tmod_eq_emod_of_nonneg (by omega)]; omega
set_option maxHeartbeats 400000 in
theorem shas_any (p : Nat → Bool) (a : Nat) (ha : a < 256) (w : World) :
    Calls Tryz.prog 152 #[stV p, .int .i64 (a : Int)] w fun e w' => e = .returned (.bool (p a)) ∧ Below w.heap.size w w' := by
  have hw := (Hq.new w p _ rfl).cell (a / 64) (by omega)
  have h1 := sd64 a
  have h2 := sm64 a
  have hx := has_word p a
  unfold stV
  go_enter Tryz.func152, Tryz.ntmps152
  go_wp2
  go_ret
  exact ⟨rfl, (Below.refl _ _).alloc (Nat.le_refl _) _⟩
set_option maxHeartbeats 400000 in
theorem swith_any (p : Nat → Bool) (a : Nat) (ha : a < 256) (w : World) :
    Calls Tryz.prog 139 #[stV p, .int .i64 (a : Int)] w fun e w' => e = .returned (stV (withP p a)) ∧ Below w.heap.size w w' := by
  have h1 := sd64 a
  have h2 := sm64 a
  have i0 : (0 : Int) ≤ (a : Int) / 64 := by omega
  have i1 : (a : Int) / 64 < 4 := by omega
  have i2 : ((a : Int) / 64).toNat = a / 64 := by omega
  have i3 : ((a : Int) % 64).toNat = a % 64 := by omega
  have i4 : (0 : Int) ≤ (a : Int) % 64 := by omega
  obtain ⟨w0, hw0⟩ : ∃ w0, w0 = (w.alloc (.cells #[.int .u64 (wd p 0), .int .u64 (wd p 1), .int .u64 (wd p 2), .int .u64 (wd p 3)] 207)).alloc (.cells #[.int .u64 0, .int .u64 0, .int .u64 0, .int .u64 0] 207) := ⟨_, rfl⟩
  have hP : Hq w0 w.heap.size p := by rw [hw0]; exact (Hq.new w p _ rfl).alloc _
  have hZ : Hq w0 (w.heap.size + 1) noP := by rw [hw0]; exact Hq.zero _ _ (by simp)
  have hB : Below w.heap.size w w0 := by rw [hw0]; exact ((Below.refl _ w).alloc (Nat.le_refl _) _).alloc (by simp) _
  have hc := hP.cell (a / 64) (by omega)
  have hf := hP.frozen (a / 64)
  unfold stV
  go_enter Tryz.func139, Tryz.ntmps139
  go_wp2_with fail
  rw [← hw0]
  clear hw0
  go_region
  have hP1 : Hq (w0.setCell ⟨w.heap.size, a / 64, none⟩ (.int .u64 (bits .or .u64 (wd p (a / 64)) (IntKind.u64.wrap (2 ^ (a % 64)))))).drew w.heap.size (withP p a) := (hP.store (a / 64) (by omega) _ (withS_set p a ha)).drew
  have hZ1 : Hq (w0.setCell ⟨w.heap.size, a / 64, none⟩ (.int .u64 (bits .or .u64 (wd p (a / 64)) (IntKind.u64.wrap (2 ^ (a % 64)))))).drew (w.heap.size + 1) noP := (hZ.other _ _ (by simp)).drew
  have hB1 : Below w.heap.size w (w0.setCell ⟨w.heap.size, a / 64, none⟩ (.int .u64 (bits .or .u64 (wd p (a / 64)) (IntKind.u64.wrap (2 ^ (a % 64)))))).drew := (hB.setCell (Nat.le_refl _) _).drew
  generalize (w0.setCell ⟨w.heap.size, a / 64, none⟩ (.int .u64 (bits .or .u64 (wd p (a / 64)) (IntKind.u64.wrap (2 ^ (a % 64)))))).drew = w1 at hP1 hZ1 hB1 ⊢
  clear hP hZ hB hc hf
  obtain ⟨c0, c1, c2, c3⟩ := hP1.all
  obtain ⟨d0, d1, d2, d3⟩ := hZ1.all
  obtain ⟨f0, f1, f2, f3⟩ := hZ1.frz
  go_wp2
  have hq := hZ1.putS (withP p a)
  obtain ⟨e0, e1, e2, e3⟩ := hq.all
  refine bodyPost_ret (v := stV (withP p a)) (by simp [results, Tryz.results139, go_sem, stV, e0, e1, e2, e3]) rfl ⟨rfl, ?_⟩
  exact below_putS hB1 (by omega) _
/-- A place, as told to a program. -/
abbrev pcV (fi la : Bool) : Value := .agg #[.bool fi, .bool la]
end Go.Proofs.YtejbififfceamaaGreatDoor
namespace Go.Proofs.YtejbififfceamaaGreatDoor
set_option linter.unusedSimpArgs false
set_option linter.unusedVariables false
set_option maxRecDepth 100000
open Go.RowKit
/-- Two sets of steps are compared. -/
theorem eqSt (a0 a1 a2 a3 b0 b1 b2 b3 : Int) (w : World) : (Op.equalIn 10000 207 (.agg #[.int .u64 a0, .int .u64 a1, .int .u64 a2, .int .u64 a3]) (.agg #[.int .u64 b0, .int .u64 b1, .int .u64 b2, .int .u64 b3])).run Tryz.prog w = .ok (a0 == b0 && (a1 == b1 && (a2 == b2 && a3 == b3))) w := by
  have hs : Tryz.prog.underlying 207 = some (.struct (Tryz.prog.fieldsOf 207)) := by kernel_rfl
  have hp : Tryz.prog.stoodInHeld 207 = false := by kernel_rfl
  rw [show (10000 : Nat) = 9999 + 1 from rfl, run_equalIn_struct w 9999 _ _ _ hs hp]
  have hf : (Tryz.prog.fieldsOf 207).toList.map (fun f => (f.type, f.offset, f.name == "_")) = [(103, 0, false)] := by kernel_rfl
  generalize (Tryz.prog.fieldsOf 207).toList = fs at hf
  obtain ⟨f0, rfl⟩ : ∃ f0, fs = [f0] := List.length_eq_one_iff.1 (by have := congrArg List.length hf; simpa using this)
  · simp only [List.map_cons, List.map_nil, List.cons.injEq, Prod.mk.injEq, and_true] at hf
    obtain ⟨t0, o0, n0⟩ := hf
    have n0' : f0.name ≠ "_" := by simpa using n0
    have hi : ∀ (a b : Int) (w : World), (Op.equalIn 9998 102 (.int .u64 a) (.int .u64 b)).run Tryz.prog w = .ok (a == b) w := fun a b w => run_equalIn_int w 9997 102 .u64 .u64 a b Tryz.underlying102
    have p0 : ∀ (a b c d : Int) (w : World), (part 102 #[.int .u64 a, .int .u64 b, .int .u64 c, .int .u64 d] 0).run Tryz.prog w = .ok (.int .u64 a) w := fun _ _ _ _ _ => by kernel_rfl
    have p1 : ∀ (a b c d : Int) (w : World), (part 102 #[.int .u64 a, .int .u64 b, .int .u64 c, .int .u64 d] 1).run Tryz.prog w = .ok (.int .u64 b) w := fun _ _ _ _ _ => by kernel_rfl
    have p2 : ∀ (a b c d : Int) (w : World), (part 102 #[.int .u64 a, .int .u64 b, .int .u64 c, .int .u64 d] 2).run Tryz.prog w = .ok (.int .u64 c) w := fun _ _ _ _ _ => by kernel_rfl
    have p3 : ∀ (a b c d : Int) (w : World), (part 102 #[.int .u64 a, .int .u64 b, .int .u64 c, .int .u64 d] 3).run Tryz.prog w = .ok (.int .u64 d) w := fun _ _ _ _ _ => by kernel_rfl
    have q0 : ∀ (a b c d : Int) (w : World), (part 103 #[.int .u64 a, .int .u64 b, .int .u64 c, .int .u64 d] 0).run Tryz.prog w = .ok (.agg #[.int .u64 a, .int .u64 b, .int .u64 c, .int .u64 d]) w := fun _ _ _ _ _ => by kernel_rfl
    have hc : ∀ (w : World), (Op.equalIn 9999 103 (.agg #[.int .u64 a0, .int .u64 a1, .int .u64 a2, .int .u64 a3]) (.agg #[.int .u64 b0, .int .u64 b1, .int .u64 b2, .int .u64 b3])).run Tryz.prog w = .ok (a0 == b0 && (a1 == b1 && (a2 == b2 && a3 == b3))) w := fun w => by
      rw [show (9999 : Nat) = 9998 + 1 from rfl, Op.equalIn]
      simp only [Sem.run_bind, run_underlying Tryz.underlying103, Result.andThen_ok, Tryz.sizeOf102]
      rw [Std.Legacy.Range.forIn_eq_forIn_range']
      rw [show List.range' _ _ _ = [0, 1, 2, 3] from rfl]
      simp only [List.forIn_cons, List.forIn_nil, Sem.run_bind, Nat.mul_one, p0, Result.andThen_ok, hi, Sem.run_ite]
      cases h1 : a0 == b0 <;> cases h2 : a1 == b1 <;> cases h3 : a2 == b2 <;> cases h4 : a3 == b3 <;> simp [p1, p2, p3, hi, h2, h3, h4]
    simp only [Op.eqFields, t0, o0, ne_eq, n0', not_false_eq_true, if_true, Sem.run_bind, q0, Result.andThen_ok, hc, Sem.run_ite, Sem.run_pure]
    cases h1 : (a0 == b0 && (a1 == b1 && (a2 == b2 && a3 == b3))) <;> simp
theorem empty_iff {ss : List St} (hl : ss.length ≤ 200) {p : Nat → Bool} (hp : Sub ss p) : (wd p 0 == 0 && (wd p 1 == 0 && (wd p 2 == 0 && wd p 3 == 0))) = true ↔ p = noP := by
  constructor
  · intro h
    simp only [Bool.and_eq_true, beq_iff_eq] at h
    obtain ⟨h0, h1, h2, h3⟩ := h
    funext j
    by_cases hj : j < 256
    · have key : ∀ i, i < 4 → wd p i = 0 := fun i hi => by
        rcases (by omega : i = 0 ∨ i = 1 ∨ i = 2 ∨ i = 3) with rfl | rfl | rfl | rfl <;> assumption
      have := wd_bit p (j / 64) (j % 64) (by omega)
      rw [key (j / 64) (by omega), show 64 * (j / 64) + j % 64 = j by omega] at this
      rw [← this]
      simp [noP]
    · cases hpj : p j with
      | false => rfl
      | true =>
        have := hp j hpj
        omega
  · rintro rfl
    rw [wd_no, wd_no, wd_no, wd_no]
    rfl
set_option maxHeartbeats 400000 in
theorem sempty_any {ss : List St} (hl : ss.length ≤ 200) (p : Nat → Bool) (hp : Sub ss p) (w : World) :
    Calls Tryz.prog 105 #[stV p] w fun e w' => ∃ y, e = .returned (.bool y) ∧ (y = true ↔ p = noP) ∧ Below w.heap.size w w' := by
  have hy := hid (empty_iff hl hp)
  have hq := fun w => eqSt (wd p 0) (wd p 1) (wd p 2) (wd p 3) 0 0 0 0 w
  generalize (wd p 0 == 0 && (wd p 1 == 0 && (wd p 2 == 0 && wd p 3 == 0))) = y at hq hy
  unfold stV
  go_enter Tryz.func105, Tryz.ntmps105
  go_wp2
  go_ret
  exact ⟨y, rfl, hy.out, (Below.refl _ _).alloc (Nat.le_refl _) _⟩
end Go.Proofs.YtejbififfceamaaGreatDoor
namespace Go.Proofs.YtejbififfceamaaGreatDoor
set_option linter.unusedSimpArgs false
set_option linter.unusedVariables false
set_option maxRecDepth 100000
open Go.RowKit
set_option maxHeartbeats 400000 in
theorem placeOf_any (s : ByteArray) (i : Nat) (w : World) :
    Calls Tryz.prog 104 #[.string s, .int .i64 (i : Int)] w fun e w' => e = .returned (pcV (decide (i = 0)) (decide (i = s.data.toList.length))) ∧ Below w.heap.size w w' := by
  have h0 : ((i : Int) == 0) = decide (i = 0) := by
    by_cases h : i = 0
    · subst h; rfl
    · rw [decide_eq_false h, beq_eq_false_iff_ne]; omega
  have h1 : ((i : Int) == (s.size : Int)) = decide (i = s.data.toList.length) := by
    have : s.data.toList.length = s.size := by simp
    rw [this]
    by_cases h : i = s.size
    · subst h; simp
    · rw [decide_eq_false h, beq_eq_false_iff_ne]; omega
  generalize decide (i = 0) = fi at h0 ⊢
  generalize decide (i = s.data.toList.length) = la at h1 ⊢
  go_enter Tryz.func104, Tryz.ntmps104
  go_wp2
  have hh : (w.alloc (.cells #[.bool fi, .bool la] 204)).heap[w.heap.size]? = some (.cells #[.bool fi, .bool la] 204 (0, 0)) := heap_alloc_new w _
  have c0 := Lib.cell_of_heap hh 0
  have c1 := Lib.cell_of_heap hh 1
  refine bodyPost_ret (v := pcV fi la) (by simp [results, Tryz.results104, go_sem, c0, c1]) rfl ⟨rfl, ?_⟩
  exact (Below.refl _ _).alloc (Nat.le_refl _) _
end Go.Proofs.YtejbififfceamaaGreatDoor
namespace Go.Proofs.YtejbififfceamaaGreatDoor
set_option linter.unusedSimpArgs false
set_option linter.unusedVariables false
open Go.RowKit

variable {F : Fence} {n : Nat} {P : Program}

/-- What an iterator does that is a method's value: one by one it hands on xs; Tb: what it needs of each world. -/
def RunsOn {α : Type} (F : Fence) (n : Nat) (P : Program) (g : Nat) (fb : Array Value) (enc : α → Value) (Tb : World → Prop) (xs : List α) : Prop :=
  ∀ (l : Nat) (J : List α → World → Prop) (W : World), AbidesFrom W.heap.size J → (∀ pre W1, J pre W1 → Tb W1) →
    (∀ pre x rest W1, xs = pre ++ x :: rest → J pre W1 → YieldAt F (n - 1) P l #[enc x] W1 fun e W' => e = .returned (.bool true) ∧ J (pre ++ [x]) W') →
    J [] W → CallsIn F n P g (fb ++ #[.func (.yield l) #[] #[]]) W fun e W' => (∃ v, e = .returned v) ∧ J xs W'
/-- The body goes on. -/
def onPost {α : Type} (B : Nat) (I : List α → World → Prop) (xs : List α) (W : World) : Exit → Act → World → Prop
  | .normal, _, W' => KeepsFrom B W W' ∧ I xs W'
  | _, _, _ => False
theorem wpIn_runs {α : Type} {g : Operand} {ps : Array Tmp} {assign body : Code} {Q : Exit → Act → World → Prop} {a : Act} {w : World}
    (hro : F.round = none) (h1 : 1 ≤ n) (gf : Nat) (fb : Array Value) (hg : a.eval g = .func (.func gf) fb #[]) (hFg : F.fn gf) (eg : ∀ args w, (callFunc gf args).run P w = .ok (.enter gf args) w)
    (enc : α → Value) (Tb : World → Prop) (xs : List α) (hseq : RunsOn F (n - 1) P gf fb enc Tb xs) (hps : ps.size = 1)
    (I : List α → World → Prop) (hI : OwnFrom w.heap.size I) (hIT : ∀ pre W, I pre W → Tb W) (h0 : I [] w) (a₁ : α → Act)
    (hassign : ∀ (l : Nat) (x : α) (W : World) (K : Act → World → Prop), K (a₁ x) W →
      assign.wpIn (F.inRound l) (n - 1 - 1) P (Exit.then K (fun _ _ _ => False)) { tmps := (ps.zip #[enc x]).foldl (fun t (p, v) => t.setIfInBounds p v) a.tmps, defers := [] } W)
    (hbody : ∀ (l : Nat) (pre : List α) (x : α) (rest : List α) (W : World), xs = pre ++ x :: rest → I pre W → body.wpIn (F.inRound l) (n - 1 - 1) P (onPost w.heap.size I (pre ++ [x]) W) (a₁ x) W)
    (hdone : ∀ (D : Nat) (W : World), w.heap.size ≤ D → I xs W → W.heap[D]? = some (.deferred (some [])) → Q .normal { a with defers := { target := .collected D, args := #[] } :: a.defers } W) :
    (Code.rangeFunc g ps assign body).wpIn F n P Q a w := by
  refine wpIn_rangeFunc fun fn hfn => ?_
  rw [hro]
  -- the two blocks that the loop itself lays: for deferred calls at D, the record at L
  let D := w.heap.size
  let L := w.heap.size + 1
  let rec0 : LoopState → Option Code → Loop := fun st pe => { state := st, pending := pe, fn := fn, tmps := a.tmps, params := ps, assign := assign, body := body, defers := D }
  let V := (w.alloc (.deferred (some []))).alloc (.loop (rec0 .ready none))
  have hVL : V.heap[L]? = some (.loop (rec0 .ready none)) := by
    have := World.alloc_heap_new (w.alloc (.deferred (some []))) (.loop (rec0 .ready none))
    rwa [World.size_alloc] at this
  have hVD : V.heap[D]? = some (.deferred (some [])) := (Below.heap_alloc _ _ _ (by simp [D])).trans (World.alloc_heap_new w _)
  have hVI : I [] V := hI.alloc _ (hI.alloc _ h0)
  have hVs : V.heap.size = w.heap.size + 2 := by simp [V]
  refine ⟨L, [{ target := .collected D, args := #[] }], V, { target := .fn (.func gf) #[], args := fb ++ #[.func (.yield L) #[] #[]] }, V, gf, fb ++ #[.func (.yield L) #[] #[]], V, run_enterLoop_outer _ _ _ _ _, ?_, ?_, ?_, fun _ => h1, ?_⟩
  · simp only [resolve, hg]
    simp [go_sem, Deferred.ofValue]
  · intro f' hf'
    simp [Target.leads] at hf'
    subst hf'
    exact hFg
  · simp [invoke, go_sem, eg]
  · have key := hseq L (fun pre W => I pre W ∧ W.heap[L]? = some (.loop (rec0 .ready none)) ∧ W.heap[D]? = some (.deferred (some []))) V
      (fun s A B row hs hgr hr => by
        have hr' : ∀ r, row = some r → w.heap.size ≤ r ∧ ∃ o : Obj, A.heap[r]? = some o ∧ o.isCells = false := fun r e => by
          obtain ⟨h2, o, ho, hw⟩ := hr r e
          exact ⟨by omega, o, ho, Obj.not_cells_of_walk hw⟩
        exact ⟨hI s A B row hs.1 hgr hr', (grownBy_keeps hgr (fun r e => (hr r e).2) hs.2.1 rfl).trans hs.2.1, (grownBy_keeps hgr (fun r e => (hr r e).2) hs.2.2 rfl).trans hs.2.2⟩)
      (fun pre W h => hIT pre W h.1)
      (fun pre x rest W hx h => by
        obtain ⟨hi, hl, hd⟩ := h
        have hlt : L < W.heap.size := (Array.getElem?_eq_some_iff.1 hl).1
        have hy := run_yield (P := P) (args := #[enc x]) hl (by simp [rec0, hps])
        let Wb := W.putObj L (.loop { rec0 .ready none with state := .busy })
        have hbL : Wb.heap[L]? = some (.loop { rec0 .ready none with state := .busy }) := World.putObj_heap_same hlt
        have hbD : Wb.heap[D]? = some (.deferred (some [])) := (World.putObj_heap_other (by simp [D, L])).trans hd
        refine ⟨fn, _, assign, body, hy, roundIn_of_wpIn hfn (hassign L x W _ ⟨Wb, run_beginRound hl rfl, ?_⟩)⟩
        refine wpIn_mono (hbody L pre x rest Wb hx (hI.putObj _ hi (by simp [L]) hl rfl)) ?_
        intro e a3 W3 hp
        cases e with
        | normal =>
          obtain ⟨hk3, hi3⟩ := hp
          have hl3 := hk3.same L _ (by simp [L]) hbL rfl
          have hd3 := hk3.same D _ (Nat.le_refl _) hbD rfl
          exact ⟨_, _, run_endRound none hl3, rfl, hI.putObj _ hi3 (by simp [L]) hl3 rfl, World.putObj_heap_same (Array.getElem?_eq_some_iff.1 hl3).1, (World.putObj_heap_other (by simp [D, L])).trans hd3⟩
        | _ => exact hp.elim)
      ⟨hVI, hVL, hVD⟩
    refine key.mono ?_
    rintro e W2 ⟨⟨v, rfl⟩, hi, hl, hd⟩
    exact ⟨none, _, run_endLoop hl (by simp [rec0]), hdone D _ (Nat.le_refl _) (hI.putObj _ hi (by simp [L]) hl rfl) ((World.putObj_heap_other (by simp [D, L])).trans hd)⟩
end Go.Proofs.YtejbififfceamaaGreatDoor
namespace Go.Proofs.YtejbififfceamaaGreatDoor
set_option linter.unusedSimpArgs false
set_option linter.unusedVariables false
open Go.RowKit

variable {F : Fence} {n : Nat} {P : Program}

/-- What an iterator does that is a method's value: one by one it hands on xs, till it is told to stop; Tb: what it needs of each world. -/
def RunsTo {α : Type} (F : Fence) (n : Nat) (P : Program) (g : Nat) (fb : Array Value) (enc : α → Value) (Tb : World → Prop) (xs : List α) : Prop :=
  ∀ (l : Nat) (J Jx : List α → World → Prop) (W : World), AbidesFrom W.heap.size J → AbidesFrom W.heap.size Jx → (∀ pre W1, J pre W1 → Tb W1) →
    (∀ pre x rest W1, xs = pre ++ x :: rest → J pre W1 → YieldAt F (n - 1) P l #[enc x] W1 fun e W' => (e = .returned (.bool true) ∧ J (pre ++ [x]) W') ∨ (e = .returned (.bool false) ∧ Jx (pre ++ [x]) W')) →
    J [] W → CallsIn F n P g (fb ++ #[.func (.yield l) #[] #[]]) W fun e W' => (∃ v, e = .returned v) ∧ (J xs W' ∨ ∃ pre, Jx pre W')
/-- The body goes on, or returns. -/
def toPost {α : Type} (B : Nat) (I Ix : List α → World → Prop) (xs : List α) (W : World) : Exit → Act → World → Prop
  | .normal, _, W' => KeepsFrom B W W' ∧ I xs W'
  | .ret, _, W' => KeepsFrom B W W' ∧ Ix xs W'
  | _, _, _ => False
theorem wpIn_runsTo {α : Type} {g : Operand} {ps : Array Tmp} {assign body : Code} {Q : Exit → Act → World → Prop} {a : Act} {w : World}
    (hro : F.round = none) (h1 : 1 ≤ n) (gf : Nat) (fb : Array Value) (hg : a.eval g = .func (.func gf) fb #[]) (hFg : F.fn gf) (eg : ∀ args w, (callFunc gf args).run P w = .ok (.enter gf args) w)
    (enc : α → Value) (Tb : World → Prop) (xs : List α) (hseq : RunsTo F (n - 1) P gf fb enc Tb xs) (hps : ps.size = 1)
    (I Ix : List α → World → Prop) (hI : OwnFrom w.heap.size I) (hIx : OwnFrom w.heap.size Ix) (hIT : ∀ pre W, I pre W → Tb W) (h0 : I [] w) (a₁ : α → Act)
    (hassign : ∀ (l : Nat) (x : α) (W : World) (K : Act → World → Prop), K (a₁ x) W →
      assign.wpIn (F.inRound l) (n - 1 - 1) P (Exit.then K (fun _ _ _ => False)) { tmps := (ps.zip #[enc x]).foldl (fun t (p, v) => t.setIfInBounds p v) a.tmps, defers := [] } W)
    (hbody : ∀ (l : Nat) (pre : List α) (x : α) (rest : List α) (W : World), xs = pre ++ x :: rest → I pre W → body.wpIn (F.inRound l) (n - 1 - 1) P (toPost w.heap.size I Ix (pre ++ [x]) W) (a₁ x) W)
    (hdone : ∀ (D : Nat) (W : World), w.heap.size ≤ D → I xs W → W.heap[D]? = some (.deferred (some [])) → Q .normal { a with defers := { target := .collected D, args := #[] } :: a.defers } W)
    (hstop : ∀ (D : Nat) (pre : List α) (W : World), w.heap.size ≤ D → Ix pre W → W.heap[D]? = some (.deferred (some [])) → Code.ret.wpIn F n P Q { a with defers := { target := .collected D, args := #[] } :: a.defers } W) :
    (Code.rangeFunc g ps assign body).wpIn F n P Q a w := by
  refine wpIn_rangeFunc fun fn hfn => ?_
  rw [hro]
  let D := w.heap.size
  let L := w.heap.size + 1
  let rec0 : LoopState → Option Code → Loop := fun st pe => { state := st, pending := pe, fn := fn, tmps := a.tmps, params := ps, assign := assign, body := body, defers := D }
  let V := (w.alloc (.deferred (some []))).alloc (.loop (rec0 .ready none))
  have hVL : V.heap[L]? = some (.loop (rec0 .ready none)) := by
    have := World.alloc_heap_new (w.alloc (.deferred (some []))) (.loop (rec0 .ready none))
    rwa [World.size_alloc] at this
  have hVD : V.heap[D]? = some (.deferred (some [])) := (Below.heap_alloc _ _ _ (by simp [D])).trans (World.alloc_heap_new w _)
  have hVI : I [] V := hI.alloc _ (hI.alloc _ h0)
  have hVs : V.heap.size = w.heap.size + 2 := by simp [V]
  refine ⟨L, [{ target := .collected D, args := #[] }], V, { target := .fn (.func gf) #[], args := fb ++ #[.func (.yield L) #[] #[]] }, V, gf, fb ++ #[.func (.yield L) #[] #[]], V, run_enterLoop_outer _ _ _ _ _, ?_, ?_, ?_, fun _ => h1, ?_⟩
  · simp only [resolve, hg]
    simp [go_sem, Deferred.ofValue]
  · intro f' hf'
    simp [Target.leads] at hf'
    subst hf'
    exact hFg
  · simp [invoke, go_sem, eg]
  · have hr' : ∀ {A : World} {row : Option Nat}, (∀ r, row = some r → V.heap.size ≤ r ∧ ∃ o : Obj, A.heap[r]? = some o ∧ o.isWalk = true) → ∀ r, row = some r → w.heap.size ≤ r ∧ ∃ o : Obj, A.heap[r]? = some o ∧ o.isCells = false := fun hr r e => by
      obtain ⟨h2, o, ho, hw⟩ := hr r e
      exact ⟨by omega, o, ho, Obj.not_cells_of_walk hw⟩
    have key := hseq L (fun pre W => I pre W ∧ W.heap[L]? = some (.loop (rec0 .ready none)) ∧ W.heap[D]? = some (.deferred (some [])))
      (fun pre W => Ix pre W ∧ W.heap[L]? = some (.loop (rec0 .done (some .ret))) ∧ W.heap[D]? = some (.deferred (some []))) V
      (fun s A B row hs hgr hr => ⟨hI s A B row hs.1 hgr (hr' hr), (grownBy_keeps hgr (fun r e => (hr r e).2) hs.2.1 rfl).trans hs.2.1, (grownBy_keeps hgr (fun r e => (hr r e).2) hs.2.2 rfl).trans hs.2.2⟩)
      (fun s A B row hs hgr hr => ⟨hIx s A B row hs.1 hgr (hr' hr), (grownBy_keeps hgr (fun r e => (hr r e).2) hs.2.1 rfl).trans hs.2.1, (grownBy_keeps hgr (fun r e => (hr r e).2) hs.2.2 rfl).trans hs.2.2⟩)
      (fun pre W h => hIT pre W h.1)
      (fun pre x rest W hx h => by
        obtain ⟨hi, hl, hd⟩ := h
        have hlt : L < W.heap.size := (Array.getElem?_eq_some_iff.1 hl).1
        have hy := run_yield (P := P) (args := #[enc x]) hl (by simp [rec0, hps])
        let Wb := W.putObj L (.loop { rec0 .ready none with state := .busy })
        have hbL : Wb.heap[L]? = some (.loop { rec0 .ready none with state := .busy }) := World.putObj_heap_same hlt
        have hbD : Wb.heap[D]? = some (.deferred (some [])) := (World.putObj_heap_other (by simp [D, L])).trans hd
        refine ⟨fn, _, assign, body, hy, roundIn_of_wpIn hfn (hassign L x W _ ⟨Wb, run_beginRound hl rfl, ?_⟩)⟩
        refine wpIn_mono (hbody L pre x rest Wb hx (hI.putObj _ hi (by simp [L]) hl rfl)) ?_
        intro e a3 W3 hp
        cases e with
        | normal =>
          obtain ⟨hk3, hi3⟩ := hp
          have hl3 := hk3.same L _ (by simp [L]) hbL rfl
          have hd3 := hk3.same D _ (Nat.le_refl _) hbD rfl
          exact ⟨_, _, run_endRound none hl3, Or.inl ⟨rfl, hI.putObj _ hi3 (by simp [L]) hl3 rfl, World.putObj_heap_same (Array.getElem?_eq_some_iff.1 hl3).1, (World.putObj_heap_other (by simp [D, L])).trans hd3⟩⟩
        | ret =>
          obtain ⟨hk3, hi3⟩ := hp
          have hl3 := hk3.same L _ (by simp [L]) hbL rfl
          have hd3 := hk3.same D _ (Nat.le_refl _) hbD rfl
          exact ⟨_, _, run_endRound (some .ret) hl3, Or.inr ⟨rfl, hIx.putObj _ hi3 (by simp [L]) hl3 rfl, World.putObj_heap_same (Array.getElem?_eq_some_iff.1 hl3).1, (World.putObj_heap_other (by simp [D, L])).trans hd3⟩⟩
        | _ => exact hp.elim)
      ⟨hVI, hVL, hVD⟩
    refine key.mono ?_
    rintro e W2 ⟨⟨v, rfl⟩, ⟨hi, hl, hd⟩ | ⟨pre, hi, hl, hd⟩⟩
    · exact ⟨none, _, run_endLoop hl (by simp [rec0]), hdone D _ (Nat.le_refl _) (hI.putObj _ hi (by simp [L]) hl rfl) ((World.putObj_heap_other (by simp [D, L])).trans hd)⟩
    · exact ⟨some .ret, _, run_endLoop hl (by simp [rec0]), hstop D pre _ (Nat.le_refl _) (hIx.putObj _ hi (by simp [L]) hl rfl) ((World.putObj_heap_other (by simp [D, L])).trans hd)⟩
end Go.Proofs.YtejbififfceamaaGreatDoor
namespace Go.Proofs.YtejbififfceamaaGreatDoor
set_option linter.unusedSimpArgs false
set_option linter.unusedVariables false
set_option maxRecDepth 100000
open Go.RowKit Go.Shelf
attribute [local go_sem] Oper.semAt_some

theorem el_part (p : Nat → Bool) (x N : Nat) (hx : x < N) (hp : p x = true) : ∃ rest, el p N = el p x ++ x :: rest := by
  obtain ⟨d, rfl⟩ : ∃ d, N = x + 1 + d := ⟨N - x - 1, by omega⟩
  refine ⟨(List.range d |>.map fun j => x + 1 + j).filter p, ?_⟩
  unfold el
  rw [List.range_add, List.range_succ, List.filter_append, List.filter_append]
  simp [hp]
theorem idx4_0 (a0 a1 a2 a3 : Int) (w : World) : (Instr.index 103 (.agg #[.int .u64 a0, .int .u64 a1, .int .u64 a2, .int .u64 a3]) (.int .i64 0)).run Tryz.prog w = .ok (.int .u64 a0) w := by kernel_rfl
theorem idx4_1 (a0 a1 a2 a3 : Int) (w : World) : (Instr.index 103 (.agg #[.int .u64 a0, .int .u64 a1, .int .u64 a2, .int .u64 a3]) (.int .i64 1)).run Tryz.prog w = .ok (.int .u64 a1) w := by kernel_rfl
theorem idx4_2 (a0 a1 a2 a3 : Int) (w : World) : (Instr.index 103 (.agg #[.int .u64 a0, .int .u64 a1, .int .u64 a2, .int .u64 a3]) (.int .i64 2)).run Tryz.prog w = .ok (.int .u64 a2) w := by kernel_rfl
theorem idx4_3 (a0 a1 a2 a3 : Int) (w : World) : (Instr.index 103 (.agg #[.int .u64 a0, .int .u64 a1, .int .u64 a2, .int .u64 a3]) (.int .i64 3)).run Tryz.prog w = .ok (.int .u64 a3) w := by kernel_rfl
/-- A word of four. -/
theorem idx4 (q : Nat → Bool) (k : Nat) (hk : k < 4) (w : World) : (Instr.index 103 (.agg #[.int .u64 (wd q 0), .int .u64 (wd q 1), .int .u64 (wd q 2), .int .u64 (wd q 3)]) (.int .i64 (k : Int))).run Tryz.prog w = .ok (.int .u64 (wd q k)) w := by
  rcases (by omega : k = 0 ∨ k = 1 ∨ k = 2 ∨ k = 3) with rfl | rfl | rfl | rfl
  · exact idx4_0 _ _ _ _ w
  · exact idx4_1 _ _ _ _ w
  · exact idx4_2 _ _ _ _ w
  · exact idx4_3 _ _ _ _ w
set_option maxHeartbeats 4000000 in
theorem srises (n : Nat) (hn : 1 ≤ n) (p : Nat → Bool) : RunsTo Fence.wide n Tryz.prog 140 #[stV p] (fun x : Nat => Value.int .i64 (x : Int)) Tab (el p 256) := by
  intro l J Jx W hJ hJx hJT hY h0
  have hI4 : Hid _ := hid (idx4 p)
  unfold stV
  refine callsIn_of_wp Tryz.func140 rfl trivial ?_ rfl
  simp only [Tryz.ntmps140, List.size_toArray, List.length_cons, List.length_nil, Nat.reduceAdd, Nat.reduceSub, Array.replicate_succ, Array.replicate_zero, List.push_toArray, List.append_toArray, List.nil_append, List.cons_append]
  gi_wp2
  gi_loopw [8] (fun v wr => ∃ k : Nat, k ≤ 4 ∧ v = .int .i64 (k : Int) ∧ J (el p (64 * k)) wr) (fun v _ => 4 - (intOf v).toNat)
  case atStart =>
    exact ⟨0, by omega, rfl, hJ _ _ _ none h0 (World.grownBy_alloc _ _ _) (fun r e => by cases e)⟩
  case round =>
    obtain ⟨k, hk, rfl, hj⟩ := hrel
    by_cases hlt : k < 4
    · have i0 : (0 : Int) ≤ (k : Int) := by omega
      have i1 : (k : Int) < 4 := by omega
      have hqk := fun w => hI4.out k hlt w
      have hwd : wd p k = ((cutw (fun j => p (64 * k + j)) 0 : Nat) : Int) := by rw [cutw_zero]; rfl
      gi_wp2
      gi_loopw [5] (fun v wr => ∃ m : Nat, m ≤ 64 ∧ v = .int .u64 ((cutw (fun j => p (64 * k + j)) m : Nat) : Int) ∧ J (el p (64 * k + m)) wr) (fun v _ => (intOf v).toNat)
      case atStart =>
        exact ⟨0, by omega, rfl, hj⟩
      case round =>
        obtain ⟨m, hm, rfl, hj2⟩ := hrel
        by_cases hz : cutw (fun j => p (64 * k + j)) m = 0
        · have hz0 : ((cutw (fun j => p (64 * k + j)) m : Nat) : Int) = 0 := by omega
          have hj3 : J (el p (64 * (k + 1))) wr := by
            rw [el_skip' p (64 * k + m) (64 * (k + 1)) (by omega) (fun j h1 h2 => by
              have := cutw_none hz (j - 64 * k) (by omega) (by omega)
              rwa [show 64 * k + (j - 64 * k) = j by omega] at this)]
            exact hj2
          gi_wp2
          exact ⟨⟨k + 1, by omega, by go_num, hj3⟩, by simp [intOf]; omega⟩
        · obtain ⟨k0, hk0, h1, h2, h3, h4, h5⟩ := cutw_step hz
          have hlt64 : cutw (fun j => p (64 * k + j)) m < 18446744073709551616 := mkw64 _
          obtain ⟨rest, hrest⟩ := el_part p (64 * k + k0) 256 (by omega) h3
          have hj3 : J (el p (64 * k + k0)) wr := by
            rw [el_skip' p (64 * k + m) (64 * k + k0) (by omega) (fun j g1 g2 => by
              have := h4 (j - 64 * k) (by omega) (by omega)
              rwa [show 64 * k + (j - 64 * k) = j by omega] at this)]
            exact hj2
          obtain ⟨fn, tmps, assign, body, hy, hR⟩ := hY _ _ rest wr hrest hj3
          have hTz := tz_any _ hz hlt64 wr (hJT _ _ hj2)
          rw [← hk0] at hTz
          replace hTz := hid hTz
          have hnz : (((cutw (fun j => p (64 * k + j)) m : Nat) : Int) == 0) = false := by rw [beq_eq_false_iff_ne]; omega
          have ev : ((64 * k + k0 : Nat) : Int) = (k : Int) * 64 + (k0 : Int) := by omega
          rw [ev] at hy
          have hand : bits .and .u64 ((cutw (fun j => p (64 * k + j)) m : Nat) : Int) (((cutw (fun j => p (64 * k + j)) m : Nat) : Int) - 1) = ((cutw (fun j => p (64 * k + j)) (k0 + 1) : Nat) : Int) := by
            have e1 : ((cutw (fun j => p (64 * k + j)) m : Nat) : Int) - 1 = ((cutw (fun j => p (64 * k + j)) m - 1 : Nat) : Int) := by omega
            rw [e1, u64_and_nat _ _ hlt64 (by omega), h5]
          have hless : cutw (fun j => p (64 * k + j)) (k0 + 1) < cutw (fun j => p (64 * k + j)) m := by
            rw [← h5]
            have : cutw (fun j => p (64 * k + j)) m &&& (cutw (fun j => p (64 * k + j)) m - 1) ≤ cutw (fun j => p (64 * k + j)) m - 1 := Nat.and_le_right
            omega
          clear h5 hk0
          generalize hn2 : cutw (fun j => p (64 * k + j)) (k0 + 1) = n2 at hand hless
          generalize cutw (fun j => p (64 * k + j)) m = nn at *
          gi_wp2_with (refine ⟨trivial, ?_⟩; gi_at_call 153; refine (callsIn_wide.2 hTz.out).mono ?_; rintro e w' ⟨rfl, rfl⟩)
          refine hR.mono ?_
          rintro e W3 (⟨rfl, hJ3⟩ | ⟨rfl, hJ3⟩)
          · gi_wp2
            exact ⟨⟨k0 + 1, by omega, by rw [hn2], by rw [← Nat.add_assoc, el_snoc p _ h3]; exact hJ3⟩, by simp [intOf]; omega⟩
          · gi_wp2
            exact bodyPost_ret (results_none rfl _ _ _) rfl ⟨⟨_, rfl⟩, Or.inr ⟨_, hJ3⟩⟩
    · have hk4 : k = 4 := by omega
      subst hk4
      gi_wp2
      go_end0
      exact ⟨⟨_, rfl⟩, Or.inl hj⟩
theorem enters_srising : ∀ args w, (callFunc 140 args).run Tryz.prog w = .ok (.enter 140 args) w := fun _ _ => by kernel_rfl
end Go.Proofs.YtejbififfceamaaGreatDoor
