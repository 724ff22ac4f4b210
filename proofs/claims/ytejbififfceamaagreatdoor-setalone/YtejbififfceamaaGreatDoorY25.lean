/- Package sim: all steps that are come to at a place, from some of them on. Package sim: Begin. Package sim: Next. What the tables hold lasts. Steps of the call's own; a builder of steps, in memory. No function of the program. The landed prog: what is a step, what a step's Op has. -/
import Derived.Test.YtejbififfceamaaGreatDoorY24
import Derived.Laws.EntriesVeiled
import Derived.Deep.RegionHeld3
import Derived.Test.YtejbififfceamaaGreatDoorProg
import Derived.WalkKit
import Derived.Test.YtejbififfceamaaGreatDoorY21
import Derived.Test.YtejbififfceamaaGreatDoorY09
import Derived.Lib.BufferOwn
import Derived.Test.YtejbififfceamaaGreatDoorY02
import Derived.BigQuiet
import Derived.Lib.QuietBelow
namespace Go.Proofs.YtejbififfceamaaGreatDoor
set_option linter.unusedSimpArgs false
set_option linter.unusedVariables false
set_option maxRecDepth 100000
open Go.RowKit Go.Shelf
attribute [local go_sem] Oper.semAt_some
/-- Where it lays its variables. -/
def ycAt (ss : List St) (b off cap : Nat) (fi la : Bool) (z : Nat) : Yc := ⟨ss, b, off, cap, fi, la, z + 1 + 1 + 1 + 1, z, z + 1 + 1 + 1 + 1 + 1, z + 1 + 1⟩
theorem ycAt_good (ss : List St) (b off cap : Nat) (fi la : Bool) (z : Nat) (hf : stepsF ss = 0) (hb : b < z) : (ycAt ss b off cap fi la z).Good := by
  constructor <;> first | assumption | (simp only [ycAt]; omega)
theorem heap_at6 (w : World) (o0 o1 o2 o3 o4 o5 : Obj) (W : World) (h : W = (((((w.alloc o0).alloc o1).alloc o2).alloc o3).alloc o4).alloc o5) : W.heap[w.heap.size]? = some o0 ∧ W.heap[w.heap.size + 1]? = some o1 ∧ W.heap[w.heap.size + 1 + 1]? = some o2 ∧ W.heap[w.heap.size + 1 + 1 + 1]? = some o3 ∧ W.heap[w.heap.size + 1 + 1 + 1 + 1]? = some o4 ∧ W.heap[w.heap.size + 1 + 1 + 1 + 1 + 1]? = some o5 ∧ Below w.heap.size w W ∧ W.heap.size = w.heap.size + 6 := by
  subst h
  have key : ∀ (W : World) (o : Obj) (k : Nat) (x : Obj), W.heap[k]? = some x → (W.alloc o).heap[k]? = some x := fun W o k x h => (Below.heap_alloc W o k (heap_lt h)).trans h
  have new : ∀ (W : World) (o : Obj) (k : Nat), k = W.heap.size → (W.alloc o).heap[k]? = some o := fun W o k e => e ▸ World.alloc_heap_new W o
  exact ⟨key _ _ _ _ (key _ _ _ _ (key _ _ _ _ (key _ _ _ _ (key _ _ _ _ (new _ _ _ rfl))))), key _ _ _ _ (key _ _ _ _ (key _ _ _ _ (key _ _ _ _ (new _ _ _ (by simp))))), key _ _ _ _ (key _ _ _ _ (key _ _ _ _ (new _ _ _ (by simp)))), key _ _ _ _ (key _ _ _ _ (new _ _ _ (by simp))), key _ _ _ _ (new _ _ _ (by simp)), new _ _ _ (by simp),
    (((((((Below.refl _ _).alloc (Nat.le_refl _) _).alloc (by simp) _).alloc (by simp; omega) _).alloc (by simp; omega) _).alloc (by simp; omega) _).alloc (by simp; omega) _), by simp⟩
/-- A block of cells is none that the loop keeps. -/
theorem cells_keep {X Y : World} {row : Option Nat} (hg : X.grownBy Y row) (hr : ∀ r, row = some r → ∃ o : Obj, X.heap[r]? = some o ∧ o.isCells = false) {k : Nat} {o : Obj} (h : X.heap[k]? = some o) (ho : o.isCells = true) : Y.heap[k]? = some o := by
  refine (hg.block k (heap_lt h) (fun e => ?_)).trans h
  obtain ⟨o', h', hc⟩ := hr k e.symm
  rw [h] at h'
  obtain rfl := Option.some.inj h'
  rw [ho] at hc
  cases hc
theorem cells_keepc {X Y : World} {row : Option Nat} (hg : X.grownBy Y row) (hr : ∀ r, row = some r → ∃ o : Obj, X.heap[r]? = some o ∧ o.isCells = false) {k i : Nat} {v : Value} (h : X.cell? ⟨k, i, none⟩ = some v) : Y.cell? ⟨k, i, none⟩ = some v := by
  obtain ⟨ob, h1, h2⟩ := cell_block h
  rw [cell_of_block h1 (cells_keep hg hr h1 h2), h]
theorem SsAt.keep {X Y : World} {row : Option Nat} (hg : X.grownBy Y row) (hr : ∀ r, row = some r → ∃ o : Obj, X.heap[r]? = some o ∧ o.isCells = false) {b off : Nat} {ss : List St} (h : SsAt X b off ss) : SsAt Y b off ss := fun i n hi => by
  obtain ⟨h0, h1, h2, h3, h4, h5, h6⟩ := h i n hi
  exact ⟨cells_keepc hg hr h0, cells_keepc hg hr h1, cells_keepc hg hr h2, cells_keepc hg hr h3, cells_keepc hg hr h4, cells_keepc hg hr h5, cells_keepc hg hr h6⟩
theorem Hq.keep {X Y : World} {row : Option Nat} (hg : X.grownBy Y row) (hr : ∀ r, row = some r → ∃ o : Obj, X.heap[r]? = some o ∧ o.isCells = false) {b : Nat} {p : Nat → Bool} (h : Hq X b p) : Hq Y b p := cells_keep hg hr h rfl
theorem hq_own {β : Type} (B b : Nat) (f : β → Nat → Bool) : OwnFrom B (fun s W => Hq W b (f s)) := fun s X Y row hs hg hr => hs.keep hg (fun r e => (hr r e).2)
/-- Between two rounds. -/
def YcR (c : Yc) (z : Nat) (w : World) (pre : List Nat) (W : World) : Prop := ∃ S, c.At W S ∧ Vst c.ss (tx c.fi c.la) (pc c.fi) [] S pre ∧ Hq W z noP ∧ Below w.heap.size w W
theorem ycR_own (c : Yc) (z : Nat) (w : World) (B : Nat) (hB : w.heap.size ≤ B) : OwnFrom B (YcR c z w) := fun pre X Y row hs hg hr => by
  obtain ⟨S, hA, hV, hq, hb⟩ := hs
  have hr2 := fun r e => (hr r e).2
  refine ⟨S, ⟨hA.steps.keep hg hr2, cells_keepc hg hr2 hA.r0, cells_keepc hg hr2 hA.a0, cells_keepc hg hr2 hA.a1, cells_keepc hg hr2 hA.v0, hA.found.keep hg hr2, hA.nod, hA.lt, Nat.lt_of_lt_of_le hA.blt hg.size⟩, hV, hq.keep hg hr2, ?_⟩
  exact hb.grown hg hb.size (fun k e => Nat.le_trans hB (hr k e).1)
theorem Hq.putK {W : World} {b D : Nat} {p : Nat → Bool} (h : Hq W b p) (hK : W.heap[D]? = some (.deferred (some []))) (o : Obj) : Hq (W.putObj D o) b p := by
  have hne : b ≠ D := fun e => by
    rw [← e, show W.heap[b]? = _ from h] at hK
    cases hK
  exact (World.putObj_heap_other hne).trans h
theorem hq_def {W : World} {b D : Nat} {p : Nat → Bool} (h : Hq W b p) (q : Nat → Bool) (hK : W.heap[D]? = some (.deferred (some []))) : (putS W b q).heap[D]? = some (.deferred (some [])) := by
  have hne : D ≠ b := fun e => by
    rw [e, show W.heap[b]? = _ from h] at hK
    cases hK
  exact ((grown_putS W b q).block D (heap_lt hK) (by intro e; injection e with e; exact hne e)).trans hK
set_option maxHeartbeats 4000000 in
theorem sreached_in (ss : List St) (hf : stepsF ss = 0) (b off cap : Nat) (p : Nat → Bool) (hp : Sub ss p) (fi la : Bool) (w : World) (hT : Tab w) (hlt : b < w.heap.size) (hN : SsAt w b off ss) :
    CallsIn Fence.wide 3 Tryz.prog 138 #[wyV b off ss.length cap, stV p, pcV fi la] w fun e w' => e = .returned (stV (cloF ss fi la p)) ∧ Below w.heap.size w w' := by
  have HG := hid (ycAt_good ss b off cap fi la w.heap.size hf hlt)
  have HV := hid (yvisit_any _ HG.out)
  have h200 := (stepsF_zero hf).1
  obtain ⟨W0, hW0⟩ : ∃ W0, W0 = (((((w.alloc (.cells #[.slice (some ⟨b, off, none⟩) ss.length cap] 160)).alloc (.cells #[.int .u64 (wd p 0), .int .u64 (wd p 1), .int .u64 (wd p 2), .int .u64 (wd p 3)] 207)).alloc (.cells #[.bool fi, .bool la] 204)).alloc (.cells #[.int .u64 0, .int .u64 0, .int .u64 0, .int .u64 0] 207)).alloc (.cells #[.int .u64 0, .int .u64 0, .int .u64 0, .int .u64 0] 207)).alloc (.cells #[.nilFunc] 95) := ⟨_, rfl⟩
  obtain ⟨k0, k1, k2, k3, k4, k5, hB0, hs0⟩ := heap_at6 w _ _ _ _ _ _ W0 hW0
  have u5 : W0.cell? ⟨w.heap.size + 1 + 1 + 1 + 1 + 1, 0, none⟩ = some .nilFunc := (Lib.cell_of_heap k5 0).trans rfl
  have z5 := Lib.frozen_of_heap k5 0
  obtain ⟨W1, hW1⟩ : ∃ W1, W0.setCell ⟨w.heap.size + 1 + 1 + 1 + 1 + 1, 0, none⟩ (ycAt ss b off cap fi la w.heap.size).v = W1 := ⟨_, rfl⟩
  have hg1 : W0.grownBy W1 (some (w.heap.size + 1 + 1 + 1 + 1 + 1)) := by rw [← hW1]; exact grown_setS _ _ _ _
  have hB1 : Below w.heap.size w W1 := by rw [← hW1]; exact hB0.setCell (p := ⟨w.heap.size + 1 + 1 + 1 + 1 + 1, 0, none⟩) (by simp only; omega) _
  have hs1 : W1.heap.size = w.heap.size + 6 := by rw [← hW1]; simpa using hs0
  have kk : ∀ j o, j ≠ w.heap.size + 1 + 1 + 1 + 1 + 1 → W0.heap[j]? = some o → W1.heap[j]? = some o := fun j o hj h => (hg1.block j (heap_lt h) (by intro e; injection e with e; exact hj e)).trans h
  have m0 := kk _ _ (by omega) k0
  have m1 : Hq W1 (w.heap.size + 1) p := kk _ _ (by omega) k1
  have m2 := kk _ _ (by omega) k2
  have m3 : Hq W1 (w.heap.size + 1 + 1 + 1) noP := by
    have := kk _ _ (by omega) k3
    unfold Hq
    rw [wd_no, wd_no, wd_no, wd_no]
    exact this
  have m4 : Hq W1 (w.heap.size + 1 + 1 + 1 + 1) (fun j => decide (j ∈ ([] : List Nat))) := by
    have := kk _ _ (by omega) k4
    have e : (fun j => decide (j ∈ ([] : List Nat))) = noP := by funext j; simp [noP]
    rw [e]
    unfold Hq
    rw [wd_no, wd_no, wd_no, wd_no]
    exact this
  have m5 : W1.heap[w.heap.size + 1 + 1 + 1 + 1 + 1]? = some (.cells #[(ycAt ss b off cap fi la w.heap.size).v] 95 (0, 0)) := by
    rw [← hW1]
    simp [World.setCell, Array.getElem?_modify, k5]
  have hA1 : (ycAt ss b off cap fi la w.heap.size).At W1 [] := ⟨hN.below hB1 hlt, (Lib.cell_of_heap m0 0).trans rfl, (Lib.cell_of_heap m2 0).trans rfl, (Lib.cell_of_heap m2 1).trans rfl, (Lib.cell_of_heap m5 0).trans rfl, m4, by simp, by simp, Nat.lt_of_lt_of_le hlt hB1.size⟩
  obtain ⟨j0, j1, j2, j3⟩ := m1.all
  have HR1 : Hid (YcR (ycAt ss b off cap fi la w.heap.size) (w.heap.size + 1 + 1 + 1) w [] W1) := ⟨[], hA1, Vst.refl _ _ _ _ _ (by simp), m3, hB1⟩
  unfold Yc.v ycAt at hW1
  replace hW0 := hW0.symm
  clear k0 k1 k2 k3 k4 k5 m0 m1 m2 m3 m4 m5 kk hg1 hA1 hB0 hB1
  refine callsIn_of_wp_marks Tryz.func138 rfl trivial ?_ rfl
  simp only [Tryz.ntmps138, List.size_toArray, List.length_cons, List.length_nil, Nat.reduceAdd, Nat.reduceSub, Array.replicate_succ, Array.replicate_zero, List.push_toArray, List.append_toArray, List.nil_append, List.cons_append]
  unfold stV
  gi_wp2_with fail
  refine wpIn_runsTo rfl (by omega) 140 #[stV p] rfl trivial enters_srising (fun x : Nat => Value.int .i64 (x : Int)) Tab (el p 256) (srises (3 - 1) (by omega) p) rfl
    (YcR (ycAt ss b off cap fi la w.heap.size) (w.heap.size + 1 + 1 + 1) w) (fun _ _ => False)
    (ycR_own _ _ _ _ (by omega)) (ownFrom_pure _ (fun _ => False))
    (fun pre W h => by obtain ⟨_, _, _, _, hb⟩ := h; exact hT.below hb (Nat.le_refl _))
    HR1.out
    (fun x => { tmps := #[wyV b off ss.length cap, stV p, pcV fi la, .pointer (some ⟨w.heap.size, 0, none⟩), .pointer (some ⟨w.heap.size + 1, 0, none⟩), .pointer (some ⟨w.heap.size + 1 + 1, 0, none⟩), .pointer (some ⟨w.heap.size + 1 + 1 + 1, 0, none⟩), .pointer (some ⟨w.heap.size + 1 + 1 + 1 + 1, 0, none⟩), .pointer (some ⟨w.heap.size + 1 + 1 + 1 + 1 + 1, 0, none⟩), .int .i64 (x : Int), (ycAt ss b off cap fi la w.heap.size).v, stV p, .func (.func 140) #[stV p] #[], .int .i64 (x : Int), undef, undef, undef, undef], defers := [] }) ?assign ?body ?done ?stop
  case assign =>
    intro l x W K hK
    gi_wp2
    exact hK
  case body =>
    rintro l pre x rest W hx ⟨S, hA, hV, hq, hB⟩
    obtain ⟨hpx, hxl⟩ := el_one hp hx
    have v0 : W.cell? ⟨w.heap.size + 1 + 1 + 1 + 1 + 1, 0, none⟩ = some (.func (.func 151) #[] #[.pointer (some ⟨w.heap.size + 1 + 1 + 1 + 1, 0, none⟩), .pointer (some ⟨w.heap.size, 0, none⟩), .pointer (some ⟨w.heap.size + 1 + 1 + 1 + 1 + 1, 0, none⟩), .pointer (some ⟨w.heap.size + 1 + 1, 0, none⟩)]) := hA.v0
    have C := hid (HV.out ss.length S x W (by show ss.length ≤ _; omega) hxl hA)
    have HA := hid hA
    have HVS := hid hV
    have HB := hid hB
    have HQ := hid hq
    clear hA hV hB hq hx hW0 hW1 u5 z5 j0 j1 j2 j3 HR1
    gi_wp2_with fail
    refine ⟨trivial, (callsIn_wide.2 C.out).mono ?_⟩
    rintro e W6 ⟨vv, S1, rfl, hA6, hV6, hg6⟩
    gi_wp2
    have hg6' : W.grownBy W6 (some (w.heap.size + 1 + 1 + 1 + 1)) := hg6
    refine ⟨⟨hg6'.size, fun k o hk ho _ => ?_⟩, S1, hA6, HVS.out.comp hV6, HQ.out.grown hg6' (by intro e; injection e with e; omega), HB.out.grown hg6' HB.out.size (fun k e => by injection e with e; omega)⟩
    exact (hg6'.block k (heap_lt ho) (by intro e; injection e with e; omega)).trans ho
  case done =>
    rintro D W hD ⟨S, hA, hV, hq, hB⟩ hK
    have hcl : (fun j => decide (j ∈ S)) = cloF ss fi la p := clo_list h200 hp hV
    have hF : Hq W (w.heap.size + 1 + 1 + 1 + 1) (cloF ss fi la p) := by rw [← hcl]; exact hA.found
    obtain ⟨c0, c1, c2, c3⟩ := hF.all
    obtain ⟨d0, d1, d2, d3⟩ := hq.all
    obtain ⟨f0, f1, f2, f3⟩ := hq.frz
    have HF := hid hF
    have HQ := hid hq
    have HB := hid hB
    clear hF hq hB hA hV hcl hW0 hW1 u5 z5 j0 j1 j2 j3 HR1
    gi_wp2
    have hKD := hq_def HQ.out (cloF ss fi la p) hK
    have hq2 := (HQ.out.putS (cloF ss fi la p)).putK hKD (.deferred none)
    obtain ⟨e0, e1, e2, e3⟩ := hq2.all
    refine ⟨by simp, .inl ⟨_, _, rfl, run_takeDeferred hKD, ?_⟩⟩
    refine ⟨stV (cloF ss fi la p), by simp [results, Tryz.results138, go_sem, stV, e0, e1, e2, e3], rfl, ?_⟩
    exact (below_putS HB.out (by omega) _).trans (belowK_b (w := w) (Nat.le_refl _) _ D _ _ (by omega) hKD rfl rfl)
  case stop =>
    intro D pre W _ h
    exact h.elim
theorem sreached_any (ss : List St) (hf : stepsF ss = 0) (b off cap : Nat) (p : Nat → Bool) (hp : Sub ss p) (fi la : Bool) (w : World) (hT : Tab w) (hlt : b < w.heap.size) (hN : SsAt w b off ss) :
    Calls Tryz.prog 138 #[wyV b off ss.length cap, stV p, pcV fi la] w fun e w' => e = .returned (stV (cloF ss fi la p)) ∧ Below w.heap.size w w' := callsIn_wide.1 (sreached_in ss hf b off cap p hp fi la w hT hlt hN)
end Go.Proofs.YtejbififfceamaaGreatDoor
namespace Go.Proofs.YtejbififfceamaaGreatDoor
set_option linter.unusedSimpArgs false
set_option linter.unusedVariables false
set_option maxRecDepth 100000
open Go.RowKit Go.Shelf
attribute [local go_sem] Oper.semAt_some
theorem heap_at3 (w : World) (o0 o1 o2 : Obj) (W : World) (h : W = ((w.alloc o0).alloc o1).alloc o2) : W.heap[w.heap.size]? = some o0 ∧ W.heap[w.heap.size + 1]? = some o1 ∧ W.heap[w.heap.size + 1 + 1]? = some o2 ∧ Below w.heap.size w W ∧ W.heap.size = w.heap.size + 3 := by
  subst h
  have key : ∀ (W : World) (o : Obj) (k : Nat) (x : Obj), W.heap[k]? = some x → (W.alloc o).heap[k]? = some x := fun W o k x h => (Below.heap_alloc W o k (heap_lt h)).trans h
  have new : ∀ (W : World) (o : Obj) (k : Nat), k = W.heap.size → (W.alloc o).heap[k]? = some o := fun W o k e => e ▸ World.alloc_heap_new W o
  exact ⟨key _ _ _ _ (key _ _ _ _ (new _ _ _ rfl)), key _ _ _ _ (new _ _ _ (by simp)), new _ _ _ (by simp), (((Below.refl _ _).alloc (Nat.le_refl _) _).alloc (by simp) _).alloc (by simp; omega) _, by simp⟩
set_option maxHeartbeats 4000000 in
theorem sbegin_any (ss : List St) (hf : stepsF ss = 0) (b off cap : Nat) (fi la : Bool) (w : World) (hT : Tab w) (hlt : b < w.heap.size) (hN : SsAt w b off ss) :
    Calls Tryz.prog 126 #[wyV b off ss.length cap, pcV fi la] w fun e w' => e = .returned (stV (begS ss fi la)) ∧ Below w.heap.size w w' := by
  obtain ⟨w0, hw0⟩ : ∃ w0, w0 = (((w.alloc (.cells #[.slice (some ⟨b, off, none⟩) ss.length cap] 160)).alloc (.cells #[.bool fi, .bool la] 204)).alloc (.cells #[.int .u64 0, .int .u64 0, .int .u64 0, .int .u64 0] 207)) := ⟨_, rfl⟩
  obtain ⟨k0, k1, k2, hB0, hs0⟩ := heap_at3 w _ _ _ w0 hw0
  have hK : Hid (∀ w', Below w0.drew.heap.size w0.drew w' → w'.cell? ⟨w.heap.size, 0, none⟩ = some (.slice (some ⟨b, off, none⟩) ss.length cap) ∧ w'.cell? ⟨w.heap.size + 1, 0, none⟩ = some (.bool fi) ∧ w'.cell? ⟨w.heap.size + 1, 1, none⟩ = some (.bool la) ∧ Hq w' (w.heap.size + 1 + 1) noP ∧ Tab w' ∧ b < w'.heap.size ∧ SsAt w' b off ss ∧ Below w.heap.size w w') := fun w' hb => by
    have hb2 := hB0.drew.trans (hb.mono (by show _ ≤ w0.heap.size; omega))
    refine ⟨(Lib.cell_of_heap ((hb.block _ (heap_lt k0)).trans k0) 0).trans rfl, (Lib.cell_of_heap ((hb.block _ (heap_lt k1)).trans k1) 0).trans rfl, (Lib.cell_of_heap ((hb.block _ (heap_lt k1)).trans k1) 1).trans rfl, ?_, hT.below hb2 (Nat.le_refl _), Nat.lt_of_lt_of_le hlt hb2.size, hN.below hb2 hlt, hb2⟩
    unfold Hq
    rw [wd_no, wd_no, wd_no, wd_no]
    exact (hb.block _ (heap_lt k2)).trans k2
  obtain ⟨c0, p0, p1, hZ, _⟩ := hK.out w0.drew (Below.refl _ _)
  replace c0 : w0.cell? ⟨w.heap.size, 0, none⟩ = _ := c0
  replace p0 : w0.cell? ⟨w.heap.size + 1, 0, none⟩ = _ := p0
  replace p1 : w0.cell? ⟨w.heap.size + 1, 1, none⟩ = _ := p1
  replace hZ : Hq w0 _ noP := hZ
  obtain ⟨f0, f1, f2, f3⟩ := hZ.frz
  have CW := hid (fun w => swith_any noP 0 (by omega) w)
  have CR := hid (fun w' (hT : Tab w') hlt hN => sreached_any ss hf b off cap (withP noP 0) (zero_sub (stepsF_zero hf).2.1) fi la w' hT hlt hN)
  rw [stV_no] at CW
  clear k0 k1 k2 hB0 hs0 hT hlt hN hZ
  go_enter Tryz.func126, Tryz.ntmps126
  go_wp2_with fail
  rw [← hw0]
  clear hw0
  go_region_with (first
    | (go_at_call 139; refine (CW.out _).mono ?_; rintro e w1 ⟨rfl, hb1⟩; obtain ⟨c0', p0', p1', hZ', hT', hl', hN', _⟩ := hK.out w1 hb1; obtain ⟨g0, g1, g2, g3⟩ := hZ'.frz)
    | (go_at_call 138; refine (CR.out w1 hT' hl' hN').mono ?_; rintro e w2 ⟨rfl, hb2⟩; obtain ⟨_, _, _, hZ2, _, _, _, hB2⟩ := hK.out w2 (hb1.trans (hb2.mono hb1.size)); obtain ⟨q0, q1, q2, q3⟩ := hZ2.frz; obtain ⟨d0, d1, d2, d3⟩ := hZ2.all; unfold stV))
  all_goals go_wp2
  all_goals
    have hq := hZ2.putS (cloF ss fi la (withP noP 0))
    obtain ⟨e0, e1, e2, e3⟩ := hq.all
    refine bodyPost_ret (v := stV (cloF ss fi la (withP noP 0))) (by simp [results, Tryz.results126, go_sem, stV, e0, e1, e2, e3]) rfl ⟨rfl, ?_⟩
    exact below_putS hB2 (by omega) _
end Go.Proofs.YtejbififfceamaaGreatDoor
namespace Go.Proofs.YtejbififfceamaaGreatDoor
set_option linter.unusedSimpArgs false
set_option linter.unusedVariables false
set_option maxRecDepth 100000
open Go.RowKit Go.Shelf
attribute [local go_sem] Oper.semAt_some
theorem leads_of {ss : List St} (hf : stepsF ss = 0) : Leads ss := fun k n hn => by
  have := ((stepsF_zero hf).2.2 n (List.mem_of_getElem? hn)).1
  unfold stRange at this
  omega
/-- Between two rounds. -/
structure NxI (ss : List St) (b off cap : Nat) (c : UInt8) (fi la : Bool) (w : World) (pre : List Nat) (W : World) : Prop where
  h0 : Boxed W w.heap.size 160 (.slice (some ⟨b, off, none⟩) ss.length cap)
  h2 : Boxed W (w.heap.size + 1 + 1) 5 (.int .u8 (c.toNat : Int))
  h3 : W.heap[w.heap.size + 1 + 1 + 1]? = some (.cells #[.bool fi, .bool la] 204 (0, 0))
  h4 : Hq W (w.heap.size + 1 + 1 + 1 + 1) noP
  h5 : Hq W (w.heap.size + 1 + 1 + 1 + 1 + 1) (takL ss c.toNat pre)
  bel : Below w.heap.size w W
theorem nxI_own (ss : List St) (b off cap : Nat) (c : UInt8) (fi la : Bool) (w : World) (B : Nat) (hB : w.heap.size ≤ B) : OwnFrom B (NxI ss b off cap c fi la w) := fun pre X Y row hs hg hr => by
  have hr2 := fun r e => (hr r e).2
  exact ⟨cells_keep hg hr2 hs.h0 rfl, cells_keep hg hr2 hs.h2 rfl, cells_keep hg hr2 hs.h3 rfl, hs.h4.keep hg hr2, hs.h5.keep hg hr2, hs.bel.grown hg hs.bel.size (fun k e => Nat.le_trans hB (hr k e).1)⟩
theorem NxI.no {ss : List St} {b off cap : Nat} {c : UInt8} {fi la : Bool} {w : World} {pre : List Nat} {x : Nat} {n : St} {W W' : World} (h : NxI ss b off cap c fi la w pre W) (hb : Below W.heap.size W W') (hn : ss[x]? = some n) (hno : ¬ (n.op = 1 ∧ n.c.has c.toNat = true)) (B : Nat) : KeepsFrom B W W' ∧ NxI ss b off cap c fi la w (pre ++ [x]) W' := by
  refine ⟨KeepsFrom.of_grownBy (gr_below hb none) (fun j e => by cases e), ?_⟩
  exact ⟨(hb.block _ (heap_lt h.h0)).trans h.h0, (hb.block _ (heap_lt h.h2)).trans h.h2, (hb.block _ (heap_lt h.h3)).trans h.h3, h.h4.below hb h.h4.lt, by rw [takL_no hn hno]; exact h.h5.below hb h.h5.lt, h.bel.trans (hb.mono h.bel.size)⟩
theorem NxI.yes {ss : List St} {b off cap : Nat} {c : UInt8} {fi la : Bool} {w : World} {pre : List Nat} {x y : Nat} {n : St} {W W' : World} (h : NxI ss b off cap c fi la w pre W) (hb : Below W.heap.size W W') (hn : ss[x]? = some n) (h1 : n.op = 1) (hc : n.c.has c.toNat = true) (hy : n.x.toNat = y) (B : Nat) (hB : w.heap.size + 6 ≤ B) : KeepsFrom B W (putS W' (w.heap.size + 1 + 1 + 1 + 1 + 1) (withP (takL ss c.toNat pre) y)) ∧ NxI ss b off cap c fi la w (pre ++ [x]) (putS W' (w.heap.size + 1 + 1 + 1 + 1 + 1) (withP (takL ss c.toNat pre) y)) := by
  have hg := grown_putS W' (w.heap.size + 1 + 1 + 1 + 1 + 1) (withP (takL ss c.toNat pre) y)
  have key : ∀ k o, k ≠ w.heap.size + 1 + 1 + 1 + 1 + 1 → W.heap[k]? = some o → (putS W' (w.heap.size + 1 + 1 + 1 + 1 + 1) (withP (takL ss c.toNat pre) y)).heap[k]? = some o := fun k o hk ho =>
    (hg.block k (Nat.lt_of_lt_of_le (heap_lt ho) hb.size) (by intro e; injection e with e; exact hk e)).trans ((hb.block k (heap_lt ho)).trans ho)
  refine ⟨(KeepsFrom.of_grownBy (gr_below hb none) (fun j e => by cases e)).trans (KeepsFrom.of_grownBy hg (fun j e => by cases e; omega)), ?_⟩
  refine ⟨key _ _ (by omega) h.h0, key _ _ (by omega) h.h2, key _ _ (by omega) h.h3, key _ _ (by omega) h.h4, ?_, below_putS (h.bel.trans (hb.mono h.bel.size)) (by omega) _⟩
  rw [takL_yes hn h1 hc, hy]
  exact (h.h5.below hb h.h5.lt).putS _
set_option maxHeartbeats 4000000 in
theorem snext_in (ss : List St) (hf : stepsF ss = 0) (hok : SsOk ss) (b off cap : Nat) (p : Nat → Bool) (hp : Sub ss p) (c : UInt8) (fi la : Bool) (w : World) (hT : Tab w) (hlt : b < w.heap.size) (hN : SsAt w b off ss) :
    CallsIn Fence.wide 3 Tryz.prog 127 #[wyV b off ss.length cap, stV p, .int .u8 (c.toNat : Int), pcV fi la] w fun e w' => e = .returned (stV (nxtS ss p c.toNat fi la)) ∧ Below w.heap.size w w' := by
  have h200 := (stepsF_zero hf).1
  obtain ⟨W0, hW0⟩ : ∃ W0, W0 = (((((w.alloc (.cells #[.slice (some ⟨b, off, none⟩) ss.length cap] 160)).alloc (.cells #[.int .u64 (wd p 0), .int .u64 (wd p 1), .int .u64 (wd p 2), .int .u64 (wd p 3)] 207)).alloc (.cells #[.int .u8 (c.toNat : Int)] 5)).alloc (.cells #[.bool fi, .bool la] 204)).alloc (.cells #[.int .u64 0, .int .u64 0, .int .u64 0, .int .u64 0] 207)).alloc (.cells #[.int .u64 0, .int .u64 0, .int .u64 0, .int .u64 0] 207) := ⟨_, rfl⟩
  obtain ⟨k0, k1, k2, k3, k4, k5, hB0, hs0⟩ := heap_at6 w _ _ _ _ _ _ W0 hW0
  have hZ : ∀ b, W0.heap[b]? = some (.cells #[.int .u64 0, .int .u64 0, .int .u64 0, .int .u64 0] 207 (0, 0)) → Hq W0 b noP := fun b h => by
    unfold Hq
    rw [wd_no, wd_no, wd_no, wd_no]
    exact h
  have HI0 : Hid (NxI ss b off cap c fi la w [] W0) := ⟨k0, k2, k3, hZ _ k4, by rw [takL_nil]; exact hZ _ k5, hB0⟩
  have m1 : Hq W0 (w.heap.size + 1) p := k1
  obtain ⟨j0, j1, j2, j3⟩ := m1.all
  replace hW0 := hW0.symm
  have hc256 : (c.toNat : Int) < 256 := by have := c.toNat_lt; omega
  have HCR := hid (fun q (hq : Sub ss q) w' hT hlt hN => sreached_any ss hf b off cap q hq fi la w' hT hlt hN)
  have HOK := hid hok
  have HL := hid (leads_of hf)
  clear k0 k1 k2 k3 k4 k5 hZ m1 hB0 hok
  refine callsIn_of_wp_marks Tryz.func127 rfl trivial ?_ rfl
  simp only [Tryz.ntmps127, List.size_toArray, List.length_cons, List.length_nil, Nat.reduceAdd, Nat.reduceSub, Array.replicate_succ, Array.replicate_zero, List.push_toArray, List.append_toArray, List.nil_append, List.cons_append]
  unfold stV
  gi_wp2_with fail
  refine wpIn_runsTo rfl (by omega) 140 #[stV p] rfl trivial enters_srising (fun x : Nat => Value.int .i64 (x : Int)) Tab (el p 256) (srises (3 - 1) (by omega) p) rfl
    (NxI ss b off cap c fi la w) (fun _ _ => False)
    (nxI_own _ _ _ _ _ _ _ _ _ (by omega)) (ownFrom_pure _ (fun _ => False))
    (fun pre W h => hT.below h.bel (Nat.le_refl _))
    HI0.out
    (fun x => { tmps := #[wyV b off ss.length cap, stV p, .int .u8 (c.toNat : Int), pcV fi la, .pointer (some ⟨w.heap.size, 0, none⟩), .pointer (some ⟨w.heap.size + 1, 0, none⟩), .pointer (some ⟨w.heap.size + 1 + 1, 0, none⟩), .pointer (some ⟨w.heap.size + 1 + 1 + 1, 0, none⟩), .pointer (some ⟨w.heap.size + 1 + 1 + 1 + 1, 0, none⟩), .pointer (some ⟨w.heap.size + 1 + 1 + 1 + 1 + 1, 0, none⟩), .int .i64 (x : Int), undef, stV p, .func (.func 140) #[stV p] #[], .int .i64 (x : Int), undef, undef, undef, undef, undef, undef, undef, undef, undef, undef, undef, undef, undef, undef, undef, undef, undef, undef, undef, undef, undef, undef], defers := [] }) ?assign ?body ?done ?stop
  case assign =>
    intro l x W K hK
    gi_wp2
    exact hK
  case body =>
    rintro l pre x rest W hx hI
    obtain ⟨hpx, hxl⟩ := el_one hp hx
    obtain ⟨n, hn⟩ : ∃ n, ss[x]? = some n := ⟨ss[x], List.getElem?_eq_getElem hxl⟩
    have r0 := hI.h0.cell
    have r2 := hI.h2.cell
    obtain ⟨d0, d1, d2, d3, d4, d5, d6⟩ := (hN.below hI.bel hlt) x n hn
    have g0 : (0 : Int) ≤ (x : Int) := by omega
    have g1 : (x : Int) < (ss.length : Int) := by omega
    obtain ⟨W5, hW5⟩ : ∃ W5, W.alloc (.cells #[.int .i64 n.op, .int .u64 n.c.a, .int .u64 n.c.b, .int .u64 n.c.c, .int .u64 n.c.d, .int .i64 n.x, .int .i64 n.y] 158) = W5 := ⟨_, rfl⟩
    have hh5 : W5.heap[W.heap.size]? = some (.cells #[.int .i64 n.op, .int .u64 n.c.a, .int .u64 n.c.b, .int .u64 n.c.c, .int .u64 n.c.d, .int .i64 n.x, .int .i64 n.y] 158 (0, 0)) := by rw [← hW5]; exact heap_alloc_new W _
    have hb5 : Below W.heap.size W W5 := by rw [← hW5]; exact (Below.refl _ _).alloc (Nat.le_refl _) _
    have HNO : Hid (¬ (n.op = 1 ∧ n.c.has c.toNat = true) → ∀ w', Below W.heap.size W w' → KeepsFrom W0.heap.size W w' ∧ NxI ss b off cap c fi la w (pre ++ [x]) w') := fun hno w' hb => hI.no hb hn hno _
    have HYES : Hid (n.op = 1 → n.c.has c.toNat = true → ∀ y, n.x.toNat = y → ∀ w', Below W.heap.size W w' → KeepsFrom W0.heap.size W (putS w' (w.heap.size + 1 + 1 + 1 + 1 + 1) (withP (takL ss c.toNat pre) y)) ∧ NxI ss b off cap c fi la w (pre ++ [x]) (putS w' (w.heap.size + 1 + 1 + 1 + 1 + 1) (withP (takL ss c.toNat pre) y))) := fun h1 h2 y hy w' hb => hI.yes hb hn h1 h2 hy _ (by omega)
    have e0 := Lib.cell_of_heap hh5 0
    have e1 := Lib.cell_of_heap hh5 1
    have e2 := Lib.cell_of_heap hh5 2
    have e3 := Lib.cell_of_heap hh5 3
    have e4 := Lib.cell_of_heap hh5 4
    simp only [List.getElem?_toArray, List.getElem?_cons_zero, List.getElem?_cons_succ] at e0 e1 e2 e3 e4
    have s2 := (hb5.cell (p := ⟨w.heap.size + 1 + 1, 0, none⟩) (cell_lt r2)).trans r2
    have HCH := hid (has_any n.c (c.toNat : Int) W5 (by omega) hc256)
    rw [C4.hasI_eq n.c (HOK.out n (List.mem_of_getElem? hn))] at HCH
    have HX : Hid (n.op = 1 → 0 ≤ n.x ∧ n.x.toNat < ss.length) := fun h1 => by
      have := ((stepsF_zero hf).2.2 n (List.mem_of_getElem? hn)).1
      unfold stRange at this
      omega
    have HH5 := hid hh5
    have HB5 := hid hb5
    have H5 := hid (fun w' (hb : Below W.heap.size W w') => hI.h5.below hb hI.h5.lt)
    clear hI hn hh5 hb5 HI0 hW0 j0 j1 j2 j3 hN hx
    by_cases h1 : n.op = 1
    · obtain ⟨hx0, hxl2⟩ := HX.out h1
      obtain ⟨y, hy, hyn⟩ : ∃ y : Nat, n.x = (y : Int) ∧ n.x.toNat = y := ⟨n.x.toNat, by omega, rfl⟩
      have H1 := hid h1
      rw [h1] at d0 hW5 e0
      rw [hy] at d5 hW5
      have HY := hid hy
      clear h1 hy
      gi_wp2_with fail
      refine ⟨trivial, (callsIn_wide.2 HCH.out).mono ?_⟩
      rintro e w6 ⟨rfl, hb6⟩
      have HB6 := hid (HB5.out.trans (hb6.mono HB5.out.size))
      cases hc : n.c.has c.toNat with
      | false =>
        have HP := hid (HNO.out (by rw [hc]; simp) w6 HB6.out)
        gi_wp2
        exact HP.out
      | true =>
        have q5 := H5.out w6 HB6.out
        obtain ⟨q0, q1, q2, q3⟩ := q5.all
        have t5 := (Lib.cell_of_heap ((hb6.block _ (heap_lt HH5.out)).trans HH5.out) 5)
        simp only [List.getElem?_toArray, List.getElem?_cons_zero, List.getElem?_cons_succ] at t5
        rw [HY.out] at t5
        have HSW := hid (swith_any (takL ss c.toNat pre) y (by omega) w6)
        have HP := hid (HYES.out H1.out hc y hyn)
        unfold stV at HSW
        have HQ5 := hid q5
        clear HX HNO HYES HCH HCR hc hyn q5
        gi_wp2_with fail
        refine ⟨trivial, (callsIn_wide.2 HSW.out).mono ?_⟩
        rintro e w7 ⟨rfl, hb7⟩
        have q7 := HQ5.out.below hb7 HQ5.out.lt
        obtain ⟨z0, z1, z2, z3⟩ := q7.frz
        obtain ⟨y0, y1, y2, y3⟩ := q7.all
        have HB7 := hid (HB6.out.trans (hb7.mono HB6.out.size))
        clear q7
        unfold stV
        gi_wp2
        exact HP.out w7 HB7.out
    · have h1' : (n.op == 1) = false := by rw [beq_eq_false_iff_ne]; exact h1
      have HP := hid (HNO.out (fun h => h1 h.1) W5 HB5.out)
      gi_wp2
      refine ⟨trivial, ?_⟩
      gi_wp2
      exact HP.out
  case done =>
    rintro D W hD hI hK
    have r0 := hI.h0.cell
    have b0 := (Lib.cell_of_heap hI.h3 0).trans rfl
    have b1 := (Lib.cell_of_heap hI.h3 1).trans rfl
    simp only [List.getElem?_toArray, List.getElem?_cons_zero, List.getElem?_cons_succ] at b0 b1
    obtain ⟨q0, q1, q2, q3⟩ := hI.h5.all
    have HC := hid (HCR.out (takL ss c.toNat (el p 256)) (takL_sub HL.out) W (hT.below hI.bel (Nat.le_refl _)) (Nat.lt_of_lt_of_le hlt hI.bel.size) (hN.below hI.bel hlt))
    rw [tak_list h200 hp] at HC q0 q1 q2 q3
    have HB := hid hI.bel
    have H4 := hid (fun w' (hb : Below W.heap.size W w') => hI.h4.below hb hI.h4.lt)
    have hDW := heap_lt hK
    unfold stV at HC
    clear hI HI0 HCR j0 j1 j2 j3 hW0
    gi_wp2_with fail
    refine ⟨trivial, (callsIn_wide.2 HC.out).mono ?_⟩
    rintro e w1 ⟨rfl, hb1⟩
    have hZ := H4.out w1 hb1
    have hK1 := (hb1.block D hDW).trans hK
    obtain ⟨f0, f1, f2, f3⟩ := hZ.frz
    have HZ := hid hZ
    have HK1 := hid hK1
    obtain ⟨y0, y1, y2, y3⟩ := hZ.all
    clear hZ hK1 q0 q1 q2 q3 r0 b0 b1 HC
    gi_wp2
    have hKD := hq_def HZ.out (cloF ss fi la (takF ss c.toNat p)) HK1.out
    have hq2 := (HZ.out.putS (cloF ss fi la (takF ss c.toNat p))).putK hKD (.deferred none)
    obtain ⟨e0, e1, e2, e3⟩ := hq2.all
    refine ⟨by simp, .inl ⟨_, _, rfl, run_takeDeferred hKD, ?_⟩⟩
    refine ⟨stV (cloF ss fi la (takF ss c.toNat p)), by simp [results, Tryz.results127, go_sem, stV, e0, e1, e2, e3], rfl, ?_⟩
    exact (below_putS (HB.out.trans (hb1.mono HB.out.size)) (by omega) _).trans (belowK_b (w := w) (Nat.le_refl _) _ D _ _ (by omega) hKD rfl rfl)
  case stop =>
    intro D pre W _ h
    exact h.elim
theorem snext_any (ss : List St) (hf : stepsF ss = 0) (hok : SsOk ss) (b off cap : Nat) (p : Nat → Bool) (hp : Sub ss p) (c : UInt8) (fi la : Bool) (w : World) (hT : Tab w) (hlt : b < w.heap.size) (hN : SsAt w b off ss) :
    Calls Tryz.prog 127 #[wyV b off ss.length cap, stV p, .int .u8 (c.toNat : Int), pcV fi la] w fun e w' => e = .returned (stV (nxtS ss p c.toNat fi la)) ∧ Below w.heap.size w w' := callsIn_wide.1 (snext_in ss hf hok b off cap p hp c fi la w hT hlt hN)
theorem bel_d {W w1 : World} (h : Below W.drew.heap.size W.drew w1) : Below W.heap.size W w1 := ((Below.refl _ W).drew).trans h
theorem bel_da {W w1 : World} {o : Obj} (h : Below (W.alloc o).drew.heap.size (W.alloc o).drew w1) : Below W.heap.size W w1 ∧ w1.heap[W.heap.size]? = some o :=
  ⟨(((Below.refl _ W).alloc (Nat.le_refl _) _).drew).trans (h.mono (by show W.heap.size ≤ (W.alloc o).heap.size; simp)), (h.block _ (by show W.heap.size < (W.alloc o).heap.size; simp)).trans (World.alloc_heap_new W o)⟩
end Go.Proofs.YtejbififfceamaaGreatDoor
namespace Go.Proofs.YtejbififfceamaaGreatDoor
set_option linter.unusedSimpArgs false
set_option linter.unusedVariables false
open Go.RowKit
/-- What the tables hold lasts. -/
def Lasts (X : World → Prop) : Prop := ∀ w w', X w → Below w.heap.size w w' → X w'
end Go.Proofs.YtejbififfceamaaGreatDoor
namespace Go.Proofs.YtejbififfceamaaGreatDoor
set_option linter.unusedSimpArgs false
set_option linter.unusedVariables false
set_option maxRecDepth 100000
open Go.RowKit

/-- A step's cells. -/
def stCells (n : St) : List Value := [.int .i64 n.op, .int .u64 n.c.a, .int .u64 n.c.b, .int .u64 n.c.c, .int .u64 n.c.d, .int .i64 n.x, .int .i64 n.y]
def ssCells : List St → List Value
  | [] => []
  | n :: r => stCells n ++ ssCells r
theorem ssCells_append : ∀ (x y : List St), ssCells (x ++ y) = ssCells x ++ ssCells y
  | [], y => rfl
  | n :: r, y => by simp [ssCells, ssCells_append r y]
theorem ssCells_len : ∀ (x : List St), (ssCells x).length = x.length * 7
  | [] => rfl
  | n :: r => by simp [ssCells, stCells, ssCells_len r]; omega
theorem ssCells_one : ∀ (x : List St), ∀ u ∈ ssCells x, u.oneCell' = true
  | [], u, h => by simp [ssCells] at h
  | n :: r, u, h => by
    rw [ssCells, List.mem_append] at h
    rcases h with h | h
    · simp [stCells] at h
      rcases h with rfl | rfl | rfl | rfl | rfl | rfl | rfl <;> rfl
    · exact ssCells_one r u h
theorem ssCells_at : ∀ (x : List St) (i : Nat) (n : St), x[i]? = some n → ∀ t, t < 7 → (ssCells x)[i * 7 + t]? = (stCells n)[t]?
  | [], i, n, h => by simp at h
  | m :: r, 0, n, h => by
    simp at h
    subst h
    intro t ht
    rw [ssCells, List.getElem?_append_left (by simp [stCells]; omega), Nat.zero_mul, Nat.zero_add]
  | m :: r, i + 1, n, h => by
    intro t ht
    rw [ssCells, List.getElem?_append_right (by simp [stCells]; omega), ← ssCells_at r i n (by simpa using h) t ht]
    congr 1
    simp [stCells]
    omega
/-- A slice of the call's own that holds the steps ss. -/
def SsOwn (w : World) (base : Nat) (v : Value) (ss : List St) : Prop := w.ownsRow base 158 7 v ss.length (ssCells ss)
theorem SsOwn.below {w w' : World} {base : Nat} {v : Value} {ss : List St} (h : SsOwn w base v ss) (hb : Below w.heap.size w w') : SsOwn w' base v ss := by
  refine World.ownsRow.kept (row := none) h ⟨hb.os, hb.tape, hb.output, hb.size, fun k hk _ => hb.block k hk⟩ ?_
  cases hv : v.ownBlock with
  | none => exact Or.inl rfl
  | some x => exact Or.inr (by simp)
theorem SsOwn.form {w : World} {base : Nat} {v : Value} {ss : List St} (h : SsOwn w base v ss) (h0 : 0 < ss.length) : ∃ g cap, v = .slice (some ⟨g, 0, none⟩) ss.length cap ∧ base ≤ g ∧ g < w.heap.size ∧ ss.length ≤ cap ∧ ∃ cur, w.heap[g]? = some (.cells cur 158 (0, 0)) ∧ cur.size = cap * 7 ∧ cur.toList.take (ss.length * 7) = ssCells ss := by
  rcases h.2 with ⟨hv, hn⟩ | ⟨g, cap, cur, hv, hb, hh, hnc, hcm, hcs, htk⟩
  · omega
  · refine ⟨g, cap, hv, hb, ?_, hnc, cur, hh, hcs, htk⟩
    rcases Nat.lt_or_ge g w.heap.size with hlt | hge
    · exact hlt
    · rw [Array.getElem?_eq_none hge] at hh; cases hh
theorem SsOwn.len {w : World} {base : Nat} {v : Value} {ss : List St} (h : SsOwn w base v ss) : ∃ a cap, v = .slice a ss.length cap := by
  rcases h.2 with ⟨hv, hn⟩ | ⟨g, cap, cur, hv, _⟩
  · exact ⟨none, 0, by rw [hv, hn]⟩
  · exact ⟨_, cap, hv⟩
theorem SsOwn.ne {w : World} {B : Nat} {v : Value} {ss : List St} (h : SsOwn w B v ss) (k : Nat) (hk : v.ownBlock = some k) : B ≤ k ∧ k < w.heap.size := by
  rcases h.2 with ⟨hv, _⟩ | ⟨b, cap, cur, hv, hb, hh, _⟩
  · rw [hv] at hk; cases hk
  · rw [hv] at hk
    injection hk with hk
    simp only at hk
    subst hk
    refine ⟨hb, ?_⟩
    rcases Nat.lt_or_ge b w.heap.size with hlt | hge
    · exact hlt
    · rw [Array.getElem?_eq_none hge] at hh; cases hh
theorem SsOwn.keptG {w w' : World} {B g : Nat} {v : Value} {ss : List St} (h : SsOwn w B v ss) (hg : w.grownBy w' (some g)) (hlt : g < B) : SsOwn w' B v ss := by
  refine World.ownsRow.kept h hg ?_
  rcases h.2 with ⟨hv, _⟩ | ⟨b, cap, cur, hv, hb, _⟩
  · rw [hv]; exact Or.inl rfl
  · rw [hv]
    refine Or.inr ?_
    intro e
    injection e with e
    simp only at e
    omega
theorem SsOwn.isIn {w : World} {base : Nat} {v : Value} {ss : List St} (h : SsOwn w base v ss) (hm : ss.length ≤ maxLen) : SsIn w v ss := by
  obtain ⟨a, cap, hv⟩ := h.len
  refine ⟨a, cap, hv, hm, ?_⟩
  by_cases h0 : ss.length = 0
  · exact Or.inl (List.length_eq_zero_iff.1 h0)
  · obtain ⟨g, cap', hv', _, hg, hlc, cur, hh, hcs, htk⟩ := h.form (by omega)
    rw [hv] at hv'
    injection hv' with hv' _ _
    subst hv'
    refine Or.inr ⟨g, 0, rfl, hg, ?_⟩
    intro i n hn
    have hi : i < ss.length := by
      rcases Nat.lt_or_ge i ss.length with h' | h'
      · exact h'
      · rw [List.getElem?_eq_none h'] at hn; cases hn
    have hc : ∀ t, t < 7 → ∀ u, (stCells n)[t]? = some u → w.cell? ⟨g, 0 + i * 7 + t, none⟩ = some u := by
      intro t ht u hu
      rw [Lib.cell_of_heap hh, Nat.zero_add]
      have e := ssCells_at ss i n hn t ht
      rw [hu, ← htk, List.getElem?_take_of_lt (by omega)] at e
      simpa using e
    exact ⟨hc 0 (by omega) _ rfl, hc 1 (by omega) _ rfl, hc 2 (by omega) _ rfl, hc 3 (by omega) _ rfl, hc 4 (by omega) _ rfl, hc 5 (by omega) _ rfl, hc 6 (by omega) _ rfl⟩
theorem info_step : ∃ i0, Tryz.prog.info? 158 = some i0 ∧ i0.zero = some (.agg #[.int .i64 0, .int .u64 0, .int .u64 0, .int .u64 0, .int .u64 0, .int .i64 0, .int .i64 0]) ∧ i0.size = 7 ∧ i0.bytes = 56 := by
  have hinfo : (Tryz.prog.info? 158).map (fun i => (i.zero, i.size, i.bytes)) = some (some (.agg #[.int .i64 0, .int .u64 0, .int .u64 0, .int .u64 0, .int .u64 0, .int .i64 0, .int .i64 0]), 7, 56) := by kernel_rfl
  exact info_parts hinfo
/-- append, of a step, at a step of a region that draws. -/
theorem step_append_ss {ops : Array Oper} {o : Oper} {a : Act} {K : Act → World → Prop} {Q : Exit → Act → World → Prop} {E : Prop} {w : World} (hgd : o.guard = none) (s x : Operand)
    (ho : o.op = .call { callee := .builtin .append, args := #[s, x], argTypes := #[119, 119] })
    (B : Nat) (v : Value) (hs : a.eval s = v) (ss : List St) (hown : SsOwn w B v ss) (g2 c2 : Nat) (n : St) (hx : a.eval x = .slice (some ⟨g2, 0, none⟩) 1 c2)
    (hnews : ∀ j u, (ssCells [n])[j]? = some u → w.cell? ⟨g2, j, none⟩ = some u) (hbytes : (ss.length + 1) * 56 ≤ 140737488355328) (hbase : B ≤ w.heap.size)
    (h : ∀ g cap w', SsOwn w' B (.slice (some ⟨g, 0, none⟩) (ss.length + 1) cap) (ss ++ [n]) → w.grownBy w' v.ownBlock → B ≤ g → g < w'.heap.size → K (a.put o.dst (.slice (some ⟨g, 0, none⟩) (ss.length + 1) cap)) w') :
    if Region.wanted o (yielded ops a.tmps) = true then Oper.wp Tryz.prog o a w K Q else E := by
  obtain ⟨i0, hi, hz0, hz1, hz2⟩ := info_step
  refine step_append_lies w hgd s x 119 ho B 158 i0 _ 7 56 Tryz.underlying119 hi hz0 hz1 hz2 rfl (by decide) v ss.length (ssCells ss) hs hown ⟨g2, 0, none⟩ 1 c2 (ssCells [n]) hx (ssCells_len [n]) ?_ (ssCells_one [n]) (by omega) (by unfold maxLen; omega) hbytes hbase w.heap.size rfl ?_
  · intro j u hj
    rw [Addr.add_lit, Nat.zero_add]
    exact hnews j u hj
  · intro g cap w' h1 h2 h3 h4
    have e : SsOwn w' B (.slice (some ⟨g, 0, none⟩) (ss.length + 1) cap) (ss ++ [n]) := by
      unfold SsOwn
      rw [ssCells_append, List.length_append]
      exact h1
    have hg : B ≤ g := by
      rcases h3 with h3 | h3
      · rcases hown.2 with ⟨hv, _⟩ | ⟨g', cap', cur, hv, hb, _⟩
        · rw [hv] at h3; cases h3
        · rw [hv] at h3
          injection h3 with h3
          simp at h3
          omega
      · omega
    exact h g cap w' e h2 hg h4

/-- Block g holds a builder. -/
def Bld (w : World) (g : Nat) (nv sv : Value) : Prop := w.heap[g]? = some (.cells #[nv, sv] 155 (0, 0))
theorem Bld.all {w : World} {g : Nat} {nv sv : Value} (h : Bld w g nv sv) : w.cell? ⟨g, 0, none⟩ = some nv ∧ w.cell? ⟨g, 1, none⟩ = some sv ∧ w.frozen? ⟨g, 1, none⟩ = false := by
  refine ⟨?_, ?_, Lib.frozen_of_heap h 1⟩ <;> (rw [Lib.cell_of_heap h]; rfl)
theorem Bld.lt {w : World} {g : Nat} {nv sv : Value} (h : Bld w g nv sv) : g < w.heap.size := by
  rcases Nat.lt_or_ge g w.heap.size with h' | h'
  · exact h'
  · simp [Bld, Array.getElem?_eq_none h'] at h
theorem Bld.setSteps {w : World} {g : Nat} {nv sv : Value} (h : Bld w g nv sv) (u : Value) : Bld (w.setCell ⟨g, 1, none⟩ u) g nv u := by
  simp only [Bld] at h ⊢
  simp [World.setCell, Array.getElem?_modify, h]
theorem Bld.below {w w' : World} {g : Nat} {nv sv : Value} (h : Bld w g nv sv) (hb : Below w.heap.size w w') : Bld w' g nv sv := (hb.block g h.lt).trans h
theorem Bld.alloc {w : World} {g : Nat} {nv sv : Value} (h : Bld w g nv sv) (o : Obj) : Bld (w.alloc o) g nv sv := (Below.heap_alloc w o g h.lt).trans h
theorem bgrown_cell (w : World) (g : Nat) (i : Nat) (v : Value) : w.grownBy (w.setCell ⟨g, i, none⟩ v) (some g) := Lib.grownBy_setB (World.grownBy.refl w _) i v
end Go.Proofs.YtejbififfceamaaGreatDoor
namespace Go.Proofs.YtejbififfceamaaGreatDoor
set_option linter.unusedSimpArgs false
set_option linter.unusedVariables false
set_option maxRecDepth 100000
open Go.RowKit
theorem isStep_any (N : Nat) (hN : N ≤ 9223372036854775807) (x : Int) (b : Nat) (a : Option Addr) (cap : Nat) (w : World) (hb : w.cell? ⟨b, 0, none⟩ = some (.slice a N cap)) :
    Calls Tryz.prog 123 #[.int .i64 x, .pointer (some ⟨b, 0, none⟩)] w fun e w' => e = .returned (.bool (decide (0 ≤ x ∧ x < (N : Int)))) ∧ w' = w := by
  by_cases h0 : 0 ≤ x
  · by_cases h1 : x < (N : Int)
    · go_enter Tryz.func123, Tryz.ntmps123
      go_wp2
      go_ret
      exact ⟨by first | (simp [h0, h1]; done) | (simp [h0]; omega), rfl⟩
    · go_enter Tryz.func123, Tryz.ntmps123
      go_wp2
      go_ret
      exact ⟨by first | (simp [h0, h1]; done) | (simp [h0]; omega), rfl⟩
  · go_enter Tryz.func123, Tryz.ntmps123
    go_wp2
    go_ret
    exact ⟨by first | (simp [h0]; done) | (simp; omega), rfl⟩
/-- A step with the fields alone that its Op has. -/
def bareS (s : St) : St := if s.op = 1 then ⟨s.op, s.c, s.x, 0⟩ else if s.op = 2 then ⟨s.op, z4, s.x, s.y⟩ else if s.op = 3 ∨ s.op = 4 then ⟨s.op, z4, s.x, 0⟩ else ⟨s.op, z4, 0, 0⟩
theorem bare_any (s : St) (w : World) : Calls Tryz.prog 136 #[s.v] w fun e w' => e = .returned (bareS s).v ∧ Below w.heap.size w w' := by
  obtain ⟨op, c, x, y⟩ := s
  have HB : Hid (∀ o1 o2, Below w.heap.size w ((w.alloc o1).alloc o2)) := fun o1 o2 => ((Below.refl _ _).alloc (Nat.le_refl _) _).alloc (by simp) _
  by_cases h1 : op = 1
  · subst h1
    have HF : Hid (bareS ⟨1, c, x, y⟩ = ⟨1, c, x, 0⟩) := by show _ = _; unfold bareS; rw [if_pos rfl]
    go_enter Tryz.func136, Tryz.ntmps136
    go_wp2
    rw [HF.out]
    refine bodyPost_ret (by simp [results, Tryz.results136, go_sem, z4]) rfl ⟨rfl, HB.out _ _⟩
  by_cases h2 : op = 2
  · subst h2
    have HF : Hid (bareS ⟨2, c, x, y⟩ = ⟨2, z4, x, y⟩) := by show _ = _; unfold bareS; rw [if_neg (by simp), if_pos rfl]
    go_enter Tryz.func136, Tryz.ntmps136
    go_wp2
    rw [HF.out]
    refine bodyPost_ret (by simp [results, Tryz.results136, go_sem, z4]) rfl ⟨rfl, HB.out _ _⟩
  by_cases h3 : op = 3
  · subst h3
    have HF : Hid (bareS ⟨3, c, x, y⟩ = ⟨3, z4, x, 0⟩) := by show _ = _; unfold bareS; rw [if_neg (by simp), if_neg (by simp), if_pos (by simp)]
    go_enter Tryz.func136, Tryz.ntmps136
    go_wp2
    rw [HF.out]
    refine bodyPost_ret (by simp [results, Tryz.results136, go_sem, z4]) rfl ⟨rfl, HB.out _ _⟩
  by_cases h4 : op = 4
  · subst h4
    have HF : Hid (bareS ⟨4, c, x, y⟩ = ⟨4, z4, x, 0⟩) := by show _ = _; unfold bareS; rw [if_neg (by simp), if_neg (by simp), if_pos (by simp)]
    go_enter Tryz.func136, Tryz.ntmps136
    go_wp2
    rw [HF.out]
    refine bodyPost_ret (by simp [results, Tryz.results136, go_sem, z4]) rfl ⟨rfl, HB.out _ _⟩
  have HF : Hid (bareS ⟨op, c, x, y⟩ = ⟨op, z4, 0, 0⟩) := by show _ = _; unfold bareS; rw [if_neg h1, if_neg h2, if_neg (by simp; omega)]
  have g1 : (op == 1) = false := by simp [h1]
  have g2 : (op == 2) = false := by simp [h2]
  have g3 : (op == 3) = false := by simp [h3]
  have g4 : (op == 4) = false := by simp [h4]
  clear h1 h2 h3 h4
  go_enter Tryz.func136, Tryz.ntmps136
  go_wp2
  rw [HF.out]
  refine bodyPost_ret (by simp [results, Tryz.results136, go_sem, z4]) rfl ⟨rfl, HB.out _ _⟩
end Go.Proofs.YtejbififfceamaaGreatDoor
