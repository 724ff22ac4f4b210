/- Package sim: all steps that are come to at a place, from some of them on. A program as an argument: opened. The program of a pattern as a value that may be: plain mathematics. A text that is fed byte by byte: what a program has come to at its end, if it goes on; whether it may come to its end yet: plain mathematics. What each call of package class does: Many. Package sim: canTake. -/
import Derived.Test.YteeamifjldoihaaDoorY07
import Derived.Laws.EntriesVeiled
import Derived.Test.YteeamifjldoihaaDoorY03
import Derived.Test.YteeamifjldoihaaDoorY02
import Derived.Lib.SmallJoins
import Derived.Test.YteeamifjldoihaaDoorY05
import Derived.Test.YteeamifjldoihaaDoorY06
import Derived.Test.YteeamifjldoihaaDoorY01
namespace Go.Proofs.YteeamifjldoihaaDoor
set_option linter.unusedSimpArgs false
set_option linter.unusedVariables false
set_option maxRecDepth 100000
open Go.RowKit Go.Shelf
attribute [local go_sem] Oper.semAt_some
/-- Where it lays its variables. -/
def ycAt (ss : List St) (b off cap : Nat) (fi la : Bool) (z : Nat) : Yc := ⟨ss, b, off, cap, fi, la, z + 1 + 1 + 1 + 1, z, z + 1 + 1 + 1 + 1 + 1, z + 1 + 1⟩
theorem ycAt_good (ss : List St) (b off cap : Nat) (fi la : Bool) (z : Nat) (hf : stepsF ss = 0) (hb : b < z) : (ycAt ss b off cap fi la z).Good := by
  constructor <;> first | assumption | (simp only [ycAt]; omega)
theorem heap_at6 (w : World) (o0 o1 o2 o3 o4 o5 : Obj) (W : World) (h : W = (((((w.alloc o0).alloc o1).alloc o2).alloc o3).alloc o4).alloc o5) : W.heap[w.heap.size]? = some o0 ∧ W.heap[w.heap.size + 1]? = some o1 ∧ W.heap[w.heap.size + 1 + 1]? = some o2 ∧ W.heap[w.heap.size + 1 + 1 + 1]? = some o3 ∧ W.heap[w.heap.size + 1 + 1 + 1 + 1]? = some o4 ∧ W.heap[w.heap.size + 1 + 1 + 1 + 1 + 1]? = some o5 ∧ Below w.heap.size w W ∧ W.heap.size = w.heap.size + 6 := by
  subst h
  have key : ∀ (W : World) (o : Obj) (k : Nat) (x : Obj), W.heap[k]? = some x → (W.alloc o).heap[k]? = some x := fun W o k x h => (Below.heap_alloc W o k (heap_lt h)).trans h
  have new : ∀ (W : World) (o : Obj) (k : Nat), k = W.heap.size → (W.alloc o).heap[k]? = some o := fun W o k e => e ▸ World.alloc_heap_new W o
  exact ⟨key _ _ _ _ (key _ _ _ _ (key _ _ _ _ (key _ _ _ _ (key _ _ _ _ (new _ _ _ rfl))))), key _ _ _ _ (key _ _ _ _ (key _ _ _ _ (key _ _ _ _ (new _ _ _ (by simp))))), key _ _ _ _ (key _ _ _ _ (key _ _ _ _ (new _ _ _ (by simp)))), key _ _ _ _ (key _ _ _ _ (new _ _ _ (by simp))), key _ _ _ _ (new _ _ _ (by simp)), new _ _ _ (by simp),
    (((((((Below.refl _ _).alloc (Nat.le_refl _) _).alloc (by simp) _).alloc (by simp; omega) _).alloc (by simp; omega) _).alloc (by simp; omega) _).alloc (by simp; omega) _), by simp⟩
/-- A block of cells is none that the loop keeps. -/
theorem cells_keep {X Y : World} {row : Option Nat} (hg : X.grownBy Y row) (hr : ∀ r, row = some r → ∃ o : Obj, X.heap[r]? = some o ∧ o.isCells = false) {k : Nat} {o : Obj} (h : X.heap[k]? = some o) (ho : o.isCells = true) : Y.heap[k]? = some o := by
  refine (hg.block k (heap_lt h) (fun e => ?_)).trans h
  obtain ⟨o', h', hc⟩ := hr k e.symm
  rw [h] at h'
  obtain rfl := Option.some.inj h'
  rw [ho] at hc
  cases hc
theorem cells_keepc {X Y : World} {row : Option Nat} (hg : X.grownBy Y row) (hr : ∀ r, row = some r → ∃ o : Obj, X.heap[r]? = some o ∧ o.isCells = false) {k i : Nat} {v : Value} (h : X.cell? ⟨k, i, none⟩ = some v) : Y.cell? ⟨k, i, none⟩ = some v := by
  obtain ⟨ob, h1, h2⟩ := cell_block h
  rw [cell_of_block h1 (cells_keep hg hr h1 h2), h]
theorem SsAt.keep {X Y : World} {row : Option Nat} (hg : X.grownBy Y row) (hr : ∀ r, row = some r → ∃ o : Obj, X.heap[r]? = some o ∧ o.isCells = false) {b off : Nat} {ss : List St} (h : SsAt X b off ss) : SsAt Y b off ss := fun i n hi => by
  obtain ⟨h0, h1, h2, h3, h4, h5, h6⟩ := h i n hi
  exact ⟨cells_keepc hg hr h0, cells_keepc hg hr h1, cells_keepc hg hr h2, cells_keepc hg hr h3, cells_keepc hg hr h4, cells_keepc hg hr h5, cells_keepc hg hr h6⟩
theorem Hq.keep {X Y : World} {row : Option Nat} (hg : X.grownBy Y row) (hr : ∀ r, row = some r → ∃ o : Obj, X.heap[r]? = some o ∧ o.isCells = false) {b : Nat} {p : Nat → Bool} (h : Hq X b p) : Hq Y b p := cells_keep hg hr h rfl
theorem hq_own {β : Type} (B b : Nat) (f : β → Nat → Bool) : OwnFrom B (fun s W => Hq W b (f s)) := fun s X Y row hs hg hr => hs.keep hg (fun r e => (hr r e).2)
/-- Between two rounds. -/
def YcR (c : Yc) (z : Nat) (w : World) (pre : List Nat) (W : World) : Prop := ∃ S, c.At W S ∧ Vst c.ss (tx c.fi c.la) (pc c.fi) [] S pre ∧ Hq W z noP ∧ Below w.heap.size w W
theorem ycR_own (c : Yc) (z : Nat) (w : World) (B : Nat) (hB : w.heap.size ≤ B) : OwnFrom B (YcR c z w) := fun pre X Y row hs hg hr => by
  obtain ⟨S, hA, hV, hq, hb⟩ := hs
  have hr2 := fun r e => (hr r e).2
  refine ⟨S, ⟨hA.steps.keep hg hr2, cells_keepc hg hr2 hA.r0, cells_keepc hg hr2 hA.a0, cells_keepc hg hr2 hA.a1, cells_keepc hg hr2 hA.v0, hA.found.keep hg hr2, hA.nod, hA.lt, Nat.lt_of_lt_of_le hA.blt hg.size⟩, hV, hq.keep hg hr2, ?_⟩
  exact hb.grown hg hb.size (fun k e => Nat.le_trans hB (hr k e).1)
theorem Hq.putK {W : World} {b D : Nat} {p : Nat → Bool} (h : Hq W b p) (hK : W.heap[D]? = some (.deferred (some []))) (o : Obj) : Hq (W.putObj D o) b p := by
  have hne : b ≠ D := fun e => by
    rw [← e, show W.heap[b]? = _ from h] at hK
    cases hK
  exact (World.putObj_heap_other hne).trans h
theorem hq_def {W : World} {b D : Nat} {p : Nat → Bool} (h : Hq W b p) (q : Nat → Bool) (hK : W.heap[D]? = some (.deferred (some []))) : (putS W b q).heap[D]? = some (.deferred (some [])) := by
  have hne : D ≠ b := fun e => by
    rw [e, show W.heap[b]? = _ from h] at hK
    cases hK
  exact ((grown_putS W b q).block D (heap_lt hK) (by intro e; injection e with e; exact hne e)).trans hK
set_option maxHeartbeats 4000000 in
theorem sreached_in (ss : List St) (hf : stepsF ss = 0) (b off cap : Nat) (p : Nat → Bool) (hp : Sub ss p) (fi la : Bool) (w : World) (hT : Tab w) (hlt : b < w.heap.size) (hN : SsAt w b off ss) :
    CallsIn Fence.wide 3 Tryd.prog 42 #[wyV b off ss.length cap, stV p, pcV fi la] w fun e w' => e = .returned (stV (cloF ss fi la p)) ∧ Below w.heap.size w w' := by
  have HG := hid (ycAt_good ss b off cap fi la w.heap.size hf hlt)
  have HV := hid (yvisit_any _ HG.out)
  have h200 := (stepsF_zero hf).1
  obtain ⟨W0, hW0⟩ : ∃ W0, W0 = (((((w.alloc (.cells #[.slice (some ⟨b, off, none⟩) ss.length cap] 53)).alloc (.cells #[.int .u64 (wd p 0), .int .u64 (wd p 1), .int .u64 (wd p 2), .int .u64 (wd p 3)] 57)).alloc (.cells #[.bool fi, .bool la] 63)).alloc (.cells #[.int .u64 0, .int .u64 0, .int .u64 0, .int .u64 0] 57)).alloc (.cells #[.int .u64 0, .int .u64 0, .int .u64 0, .int .u64 0] 57)).alloc (.cells #[.nilFunc] 96) := ⟨_, rfl⟩
  obtain ⟨k0, k1, k2, k3, k4, k5, hB0, hs0⟩ := heap_at6 w _ _ _ _ _ _ W0 hW0
  have u5 : W0.cell? ⟨w.heap.size + 1 + 1 + 1 + 1 + 1, 0, none⟩ = some .nilFunc := (Lib.cell_of_heap k5 0).trans rfl
  have z5 := Lib.frozen_of_heap k5 0
  obtain ⟨W1, hW1⟩ : ∃ W1, W0.setCell ⟨w.heap.size + 1 + 1 + 1 + 1 + 1, 0, none⟩ (ycAt ss b off cap fi la w.heap.size).v = W1 := ⟨_, rfl⟩
  have hg1 : W0.grownBy W1 (some (w.heap.size + 1 + 1 + 1 + 1 + 1)) := by rw [← hW1]; exact grown_setS _ _ _ _
  have hB1 : Below w.heap.size w W1 := by rw [← hW1]; exact hB0.setCell (p := ⟨w.heap.size + 1 + 1 + 1 + 1 + 1, 0, none⟩) (by simp only; omega) _
  have hs1 : W1.heap.size = w.heap.size + 6 := by rw [← hW1]; simpa using hs0
  have kk : ∀ j o, j ≠ w.heap.size + 1 + 1 + 1 + 1 + 1 → W0.heap[j]? = some o → W1.heap[j]? = some o := fun j o hj h => (hg1.block j (heap_lt h) (by intro e; injection e with e; exact hj e)).trans h
  have m0 := kk _ _ (by omega) k0
  have m1 : Hq W1 (w.heap.size + 1) p := kk _ _ (by omega) k1
  have m2 := kk _ _ (by omega) k2
  have m3 : Hq W1 (w.heap.size + 1 + 1 + 1) noP := by
    have := kk _ _ (by omega) k3
    unfold Hq
    rw [wd_no, wd_no, wd_no, wd_no]
    exact this
  have m4 : Hq W1 (w.heap.size + 1 + 1 + 1 + 1) (fun j => decide (j ∈ ([] : List Nat))) := by
    have := kk _ _ (by omega) k4
    have e : (fun j => decide (j ∈ ([] : List Nat))) = noP := by funext j; simp [noP]
    rw [e]
    unfold Hq
    rw [wd_no, wd_no, wd_no, wd_no]
    exact this
  have m5 : W1.heap[w.heap.size + 1 + 1 + 1 + 1 + 1]? = some (.cells #[(ycAt ss b off cap fi la w.heap.size).v] 96 (0, 0)) := by
    rw [← hW1]
    simp [World.setCell, Array.getElem?_modify, k5]
  have hA1 : (ycAt ss b off cap fi la w.heap.size).At W1 [] := ⟨hN.below hB1 hlt, (Lib.cell_of_heap m0 0).trans rfl, (Lib.cell_of_heap m2 0).trans rfl, (Lib.cell_of_heap m2 1).trans rfl, (Lib.cell_of_heap m5 0).trans rfl, m4, by simp, by simp, Nat.lt_of_lt_of_le hlt hB1.size⟩
  obtain ⟨j0, j1, j2, j3⟩ := m1.all
  have HR1 : Hid (YcR (ycAt ss b off cap fi la w.heap.size) (w.heap.size + 1 + 1 + 1) w [] W1) := ⟨[], hA1, Vst.refl _ _ _ _ _ (by simp), m3, hB1⟩
  unfold Yc.v ycAt at hW1
  replace hW0 := hW0.symm
  clear k0 k1 k2 k3 k4 k5 m0 m1 m2 m3 m4 m5 kk hg1 hA1 hB0 hB1
  refine callsIn_of_wp_marks Tryd.func42 rfl trivial ?_ rfl
  simp only [Tryd.ntmps42, List.size_toArray, List.length_cons, List.length_nil, Nat.reduceAdd, Nat.reduceSub, Array.replicate_succ, Array.replicate_zero, List.push_toArray, List.append_toArray, List.nil_append, List.cons_append]
  unfold stV
  gi_wp2_with fail
  refine wpIn_runsTo rfl (by omega) 39 #[stV p] rfl trivial enters_srising (fun x : Nat => Value.int .i64 (x : Int)) Tab (el p 256) (srises (3 - 1) (by omega) p) rfl
    (YcR (ycAt ss b off cap fi la w.heap.size) (w.heap.size + 1 + 1 + 1) w) (fun _ _ => False)
    (ycR_own _ _ _ _ (by omega)) (ownFrom_pure _ (fun _ => False))
    (fun pre W h => by obtain ⟨_, _, _, _, hb⟩ := h; exact hT.below hb (Nat.le_refl _))
    HR1.out
    (fun x => { tmps := #[wyV b off ss.length cap, stV p, pcV fi la, .pointer (some ⟨w.heap.size, 0, none⟩), .pointer (some ⟨w.heap.size + 1, 0, none⟩), .pointer (some ⟨w.heap.size + 1 + 1, 0, none⟩), .pointer (some ⟨w.heap.size + 1 + 1 + 1, 0, none⟩), .pointer (some ⟨w.heap.size + 1 + 1 + 1 + 1, 0, none⟩), .pointer (some ⟨w.heap.size + 1 + 1 + 1 + 1 + 1, 0, none⟩), .int .i64 (x : Int), (ycAt ss b off cap fi la w.heap.size).v, stV p, .func (.func 39) #[stV p] #[], .int .i64 (x : Int), undef, undef, undef, undef], defers := [] }) ?assign ?body ?done ?stop
  case assign =>
    intro l x W K hK
    gi_wp2
    exact hK
  case body =>
    rintro l pre x rest W hx ⟨S, hA, hV, hq, hB⟩
    obtain ⟨hpx, hxl⟩ := el_one hp hx
    have v0 : W.cell? ⟨w.heap.size + 1 + 1 + 1 + 1 + 1, 0, none⟩ = some (.func (.func 63) #[] #[.pointer (some ⟨w.heap.size + 1 + 1 + 1 + 1, 0, none⟩), .pointer (some ⟨w.heap.size, 0, none⟩), .pointer (some ⟨w.heap.size + 1 + 1 + 1 + 1 + 1, 0, none⟩), .pointer (some ⟨w.heap.size + 1 + 1, 0, none⟩)]) := hA.v0
    have C := hid (HV.out ss.length S x W (by show ss.length ≤ _; omega) hxl hA)
    have HA := hid hA
    have HVS := hid hV
    have HB := hid hB
    have HQ := hid hq
    clear hA hV hB hq hx hW0 hW1 u5 z5 j0 j1 j2 j3 HR1
    gi_wp2_with fail
    refine ⟨trivial, (callsIn_wide.2 C.out).mono ?_⟩
    rintro e W6 ⟨vv, S1, rfl, hA6, hV6, hg6⟩
    gi_wp2
    have hg6' : W.grownBy W6 (some (w.heap.size + 1 + 1 + 1 + 1)) := hg6
    refine ⟨⟨hg6'.size, fun k o hk ho _ => ?_⟩, S1, hA6, HVS.out.comp hV6, HQ.out.grown hg6' (by intro e; injection e with e; omega), HB.out.grown hg6' HB.out.size (fun k e => by injection e with e; omega)⟩
    exact (hg6'.block k (heap_lt ho) (by intro e; injection e with e; omega)).trans ho
  case done =>
    rintro D W hD ⟨S, hA, hV, hq, hB⟩ hK
    have hcl : (fun j => decide (j ∈ S)) = cloF ss fi la p := clo_list h200 hp hV
    have hF : Hq W (w.heap.size + 1 + 1 + 1 + 1) (cloF ss fi la p) := by rw [← hcl]; exact hA.found
    obtain ⟨c0, c1, c2, c3⟩ := hF.all
    obtain ⟨d0, d1, d2, d3⟩ := hq.all
    obtain ⟨f0, f1, f2, f3⟩ := hq.frz
    have HF := hid hF
    have HQ := hid hq
    have HB := hid hB
    clear hF hq hB hA hV hcl hW0 hW1 u5 z5 j0 j1 j2 j3 HR1
    gi_wp2
    have hKD := hq_def HQ.out (cloF ss fi la p) hK
    have hq2 := (HQ.out.putS (cloF ss fi la p)).putK hKD (.deferred none)
    obtain ⟨e0, e1, e2, e3⟩ := hq2.all
    refine ⟨by simp, .inl ⟨_, _, rfl, run_takeDeferred hKD, ?_⟩⟩
    refine ⟨stV (cloF ss fi la p), by simp [results, Tryd.results42, go_sem, stV, e0, e1, e2, e3], rfl, ?_⟩
    exact (below_putS HB.out (by omega) _).trans (belowK_b (w := w) (Nat.le_refl _) _ D _ _ (by omega) hKD rfl rfl)
  case stop =>
    intro D pre W _ h
    exact h.elim
theorem sreached_any (ss : List St) (hf : stepsF ss = 0) (b off cap : Nat) (p : Nat → Bool) (hp : Sub ss p) (fi la : Bool) (w : World) (hT : Tab w) (hlt : b < w.heap.size) (hN : SsAt w b off ss) :
    Calls Tryd.prog 42 #[wyV b off ss.length cap, stV p, pcV fi la] w fun e w' => e = .returned (stV (cloF ss fi la p)) ∧ Below w.heap.size w w' := callsIn_wide.1 (sreached_in ss hf b off cap p hp fi la w hT hlt hN)
end Go.Proofs.YteeamifjldoihaaDoor
namespace Go.Proofs.YteeamifjldoihaaDoor
set_option linter.unusedSimpArgs false
set_option linter.unusedVariables false
set_option maxRecDepth 100000
open Go.ChangeShapes Go.WideShapes Go.ChangeAt Go.RowKit Go.Deep Go.Joins

theorem cellsStep : Tryd.prog.cellsOf 85 = 7 := by kernel_rfl
def St.wf (n : St) : Prop := (Lit.int .i64 n.op).wf = true ∧ n.c.wf ∧ (Lit.int .i64 n.x).wf = true ∧ (Lit.int .i64 n.y).wf = true
instance : Inhabited St := ⟨⟨0, ⟨0, 0, 0, 0⟩, 0, 0⟩⟩
def St.cells (n : St) : List Value := [.int .i64 n.op, .int .u64 n.c.a, .int .u64 n.c.b, .int .u64 n.c.c, .int .u64 n.c.d, .int .i64 n.x, .int .i64 n.y]
theorem open_step {H : Type} {enc : TypeId × Value → H} {W : World} {base : Nat} {sp : Nat → Bool} {held : Bool} {fuel : Nat} {cs : List Value} {x : DataW H × List MemPlace}
    (h : DataW.trod enc Tryd.prog W base sp held fuel 85 cs = some x) : ∃ n : St, cs = n.cells ∧ n.wf := by
  obtain ⟨y0, y1, y2, y3, k, hxy, hl, u0, u1, u2, u3⟩ := trod_struct4 Tryd.underlying85 h
  rw [cellsStep] at hl
  match cs, hl with
  | [c0, c1, c2, c3, c4, c5, c6], _ =>
    simp only [cellsInt, cellsClass, List.drop, List.take] at u0 u1 u2 u3
    obtain ⟨q, e0, d0, w⟩ := DataW.trod_int Tryd.underlying3 u0
    obtain ⟨z0, z1, z2, z3, m, hx, hy0, hy1, hy2, hy3⟩ := trod_array4 Tryd.underlying40 cellsWord u1
    obtain ⟨x0, e1, _, w0⟩ := DataW.trod_int Tryd.underlying38 hy0
    obtain ⟨x1, e2, _, w1⟩ := DataW.trod_int Tryd.underlying38 hy1
    obtain ⟨x2, e3, _, w2⟩ := DataW.trod_int Tryd.underlying38 hy2
    obtain ⟨x3, e4, _, w3⟩ := DataW.trod_int Tryd.underlying38 hy3
    obtain ⟨px, e5, _, wx⟩ := DataW.trod_int Tryd.underlying3 u2
    obtain ⟨py, e6, _, wy⟩ := DataW.trod_int Tryd.underlying3 u3
    simp only [List.cons.injEq, and_true] at e0 e1 e2 e3 e4 e5 e6
    subst e0 e1 e2 e3 e4 e5 e6
    exact ⟨⟨q, ⟨x0, x1, x2, x3⟩, px, py⟩, rfl, w, ⟨w0, w1, w2, w3⟩, wx, wy⟩
theorem open_steps {H : Type} {enc : TypeId × Value → H} {W : World} {base : Nat} {sp : Nat → Bool} {held : Bool} {v : Value} {d : DataW H} {p : List MemPlace}
    (hval : Value.okWide Tryd.prog W .any base 49 v) (h : DataW.Trod enc Tryd.prog W 0 sp held 49 v d p) : ∃ ss : List St, SsIn W v ss ∧ ∀ n ∈ ss, n.wf := by
  obtain ⟨a0, len0, cap0, rfl⟩ := okWide_slice Tryd.underlying49 hval
  obtain ⟨fuel, hf⟩ := h
  rcases open_slice Tryd.underlying49 hf with ⟨hc, _⟩ | ⟨a, len, cap, m, n, D, Pl, hc, hb, hl, hm, hmm, _, hx⟩
  · simp [Value.cells] at hc
    obtain ⟨rfl, rfl, rfl⟩ := hc
    exact ⟨[], ⟨none, 0, rfl, by simp, Or.inl rfl⟩, by simp⟩
  · simp [Value.cells] at hc
    obtain ⟨rfl, rfl, rfl⟩ := hc
    have hlm : len0 ≤ m := by rw [hmm]; split <;> omega
    have each : ∀ i, i < len0 → ∃ n : St, W.cells? 0 (a.add (i * 7)) 7 = some n.cells ∧ n.wf := by
      intro i hi
      obtain ⟨cs', h1, h2⟩ := hx i (by omega)
      rw [cellsStep] at h1
      obtain ⟨n, rfl, hw⟩ := open_step h2
      exact ⟨n, h1, hw⟩
    obtain ⟨q, hq⟩ := choose_lt each
    refine ⟨(List.range len0).map q, ⟨some a, cap0, by simp, by simp; omega, ?_⟩, ?_⟩
    · rcases Nat.eq_zero_or_pos len0 with h0 | h0
      · subst h0; exact Or.inl rfl
      right
      obtain ⟨b, off, spot⟩ := a
      have cells : ∀ i, i < len0 → ∀ j, j < 7 → W.cell? ((⟨b, off, spot⟩ : Addr).add (i * 7 + j)) = (q i).cells[j]? := by
        intro i hi j hj
        obtain ⟨_, _, hcell⟩ := World.cells?_some (hq i hi).1
        have := hcell j hj
        rwa [add_add] at this
      have hspot : spot = none := by
        have := cells 0 h0 0 (by omega)
        simpa [Addr.add, St.cells] using World.cell?_spot this
      subst hspot
      have plain : ∀ k, (⟨b, off, none⟩ : Addr).add k = ⟨b, off + k, none⟩ := by
        intro k
        rcases k with _ | k <;> simp [Addr.add]
      refine ⟨b, off, rfl, ?_, ?_⟩
      · have := cells 0 h0 0 (by omega)
        rw [plain] at this
        rcases Nat.lt_or_ge b W.heap.size with h' | h'
        · exact h'
        · simp [World.cell?, Array.getElem?_eq_none h', St.cells] at this
      · intro i n hn
        have hi : i < len0 := by
          rcases Nat.lt_or_ge i len0 with h' | h'
          · exact h'
          · simp [h'] at hn
        have en : q i = n := by simpa [hi] using hn
        subst en
        have c := cells i hi
        refine ⟨?_, ?_, ?_, ?_, ?_, ?_, ?_⟩
        · have := c 0 (by omega); rw [plain] at this; simpa [Nat.add_assoc, St.cells] using this
        · have := c 1 (by omega); rw [plain] at this; simpa [Nat.add_assoc, St.cells] using this
        · have := c 2 (by omega); rw [plain] at this; simpa [Nat.add_assoc, St.cells] using this
        · have := c 3 (by omega); rw [plain] at this; simpa [Nat.add_assoc, St.cells] using this
        · have := c 4 (by omega); rw [plain] at this; simpa [Nat.add_assoc, St.cells] using this
        · have := c 5 (by omega); rw [plain] at this; simpa [Nat.add_assoc, St.cells] using this
        · have := c 6 (by omega); rw [plain] at this; simpa [Nat.add_assoc, St.cells] using this
    · intro n hn
      obtain ⟨i, hi, rfl⟩ := List.mem_map.1 hn
      exact (hq i (List.mem_range.1 hi)).2
end Go.Proofs.YteeamifjldoihaaDoor
namespace Go.Proofs.YteeamifjldoihaaDoor
set_option linter.unusedSimpArgs false
set_option linter.unusedVariables false
set_option maxRecDepth 100000
open Go.RowKit
theorem cod_cls : ∀ (t : Rx) (p : Nat), ∀ m ∈ t.cod p, m.c = z4 ∨ ∃ n ∈ t.flat, m.c = n.c
  | .leaf n, p => by
    intro m hm
    simp only [Rx.cod] at hm
    split at hm
    · simp at hm; subst hm; exact Or.inr ⟨n, by simp [Rx.flat], rfl⟩
    · split at hm
      · simp at hm; subst hm; exact Or.inl rfl
      · split at hm
        · simp at hm; subst hm; exact Or.inl rfl
        · cases hm
  | .one n a, p => by
    intro m hm
    have h : ∀ q, m ∈ a.cod q → m.c = z4 ∨ ∃ n' ∈ (Rx.one n a).flat, m.c = n'.c := fun q hq => by
      rcases cod_cls a q m hq with h | ⟨n', h1, h2⟩
      · exact Or.inl h
      · exact Or.inr ⟨n', by simp [Rx.flat, h1], h2⟩
    simp only [Rx.cod] at hm
    split at hm
    · simp only [List.mem_cons, List.mem_append, List.not_mem_nil, or_false] at hm
      rcases hm with rfl | hm | rfl
      · exact Or.inl rfl
      · exact h _ hm
      · exact Or.inl rfl
    · split at hm
      · simp only [List.mem_cons, List.mem_append, List.not_mem_nil, or_false] at hm
        rcases hm with hm | rfl
        · exact h _ hm
        · exact Or.inl rfl
      · simp only [List.mem_cons] at hm
        rcases hm with rfl | hm
        · exact Or.inl rfl
        · exact h _ hm
  | .two n a b, p => by
    intro m hm
    have ha : ∀ q, m ∈ a.cod q → m.c = z4 ∨ ∃ n' ∈ (Rx.two n a b).flat, m.c = n'.c := fun q hq => by
      rcases cod_cls a q m hq with h | ⟨n', h1, h2⟩
      · exact Or.inl h
      · exact Or.inr ⟨n', by simp [Rx.flat, h1], h2⟩
    have hb : ∀ q, m ∈ b.cod q → m.c = z4 ∨ ∃ n' ∈ (Rx.two n a b).flat, m.c = n'.c := fun q hq => by
      rcases cod_cls b q m hq with h | ⟨n', h1, h2⟩
      · exact Or.inl h
      · exact Or.inr ⟨n', by simp [Rx.flat, h1], h2⟩
    simp only [Rx.cod] at hm
    split at hm
    · rcases List.mem_append.1 hm with hm | hm
      · exact ha _ hm
      · exact hb _ hm
    · simp only [List.mem_cons, List.mem_append] at hm
      rcases hm with rfl | hm | rfl | hm
      · exact Or.inl rfl
      · exact ha _ hm
      · exact Or.inl rfl
      · exact hb _ hm
theorem z4_wf : z4.wf := ⟨by decide, by decide, by decide, by decide⟩
theorem int_wf {z : Int} (h0 : -9223372036854775808 ≤ z) (h1 : z ≤ 9223372036854775807) : (Lit.int .i64 z).wf = true := by
  have e1 : IntKind.i64.min = -9223372036854775808 := by decide
  have e2 : IntKind.i64.max = 9223372036854775807 := by decide
  simp only [Lit.wf, e1, e2, h0, h1, decide_true, Bool.and_self]
theorem prog_wf (t : Rx) (hl : t.flat.length ≤ 60) (hw : ∀ n ∈ t.flat, n.wf) : ∀ m ∈ t.prog, m.wf := by
  intro m hm
  have hc := t.cod_len 0
  unfold Rx.prog at hm
  rcases List.mem_append.1 hm with hm | hm
  · obtain ⟨h1, h2, h3, _, _⟩ := cod_ok t 0 m hm
    refine ⟨int_wf (by omega) (by omega), ?_, int_wf (by omega) (by omega), int_wf (by omega) (by omega)⟩
    rcases cod_cls t 0 m hm with h | ⟨n, hn, h⟩
    · rw [h]; exact z4_wf
    · rw [h]; exact (hw n hn).2
  · rw [List.mem_singleton] at hm
    subst hm
    exact ⟨by decide, z4_wf, by decide, by decide⟩
end Go.Proofs.YteeamifjldoihaaDoor
namespace Go.Proofs.YteeamifjldoihaaDoor
set_option linter.unusedSimpArgs false
set_option linter.unusedVariables false
set_option maxRecDepth 100000
open Go.RowKit
/-- What is come to at the end of a text that goes on. -/
noncomputable def nowS (ss : List St) (s : List UInt8) : Nat → Bool := s.foldl (fun p c => nxtS ss p c.toNat false false) (begS ss true false)
theorem now_nil (ss : List St) : nowS ss [] = begS ss true false := rfl
theorem now_snoc (ss : List St) (s : List UInt8) (c : UInt8) : nowS ss (s ++ [c]) = nxtS ss (nowS ss s) c.toNat false false := by
  unfold nowS
  rw [List.foldl_append]
  rfl
theorem now_sub {ss : List St} (hL : Leads ss) (h0 : 0 < ss.length) (s : List UInt8) : Sub ss (nowS ss s) := by
  rcases List.eq_nil_or_concat s with rfl | ⟨s0, c, rfl⟩
  · exact beg_sub hL h0 _ _
  · rw [List.concat_eq_append, now_snoc]
    exact nxt_sub hL _ _ _ _
theorem now_cur (ss : List St) : ∀ (n : Nat) (s m : List UInt8), s.length = n → m ≠ [] → curS ss (s ++ m) 0 n = nowS ss s
  | 0, s, m, hs, hm => by
    obtain rfl := List.eq_nil_of_length_eq_zero hs
    have hl : 0 < m.length := List.length_pos_iff.2 hm
    rw [List.nil_append, cur_beg ss m 0 (Nat.zero_le _), now_nil, decide_eq_true rfl, decide_eq_false (by omega)]
  | n + 1, s, m, hs, hm => by
    rcases List.eq_nil_or_concat s with rfl | ⟨s0, c, rfl⟩
    · cases hs
    · rw [List.concat_eq_append] at hs ⊢
      have h0 : s0.length = n := by simpa using hs
      have hl : 0 < m.length := List.length_pos_iff.2 hm
      have hc : (s0 ++ [c] ++ m)[n]? = some c := by rw [List.append_assoc, List.getElem?_append_right (by omega), h0, Nat.sub_self]; rfl
      rw [cur_next ss _ 0 n (Nat.zero_le _) c hc, now_snoc, decide_eq_false (by simp; omega), List.append_assoc, now_cur ss n s0 ([c] ++ m) h0 (by simp)]
theorem sta_last {ss : List St} {fi : Bool} {k k' : Nat} (h : Sta ss (tx fi false) (pc fi) k k') : Sta ss (tx fi true) (pc fi) k k' := by
  induction h with
  | nil k => exact .nil _
  | cons k k1 k2 hs _ ih =>
    refine .cons _ k1 _ ?_ ih
    obtain ⟨n, hn, _⟩ := id hs
    rw [stp_stay hn] at hs ⊢
    rcases hs with h | h | ⟨_, _, h⟩
    · exact Or.inl h
    · exact Or.inr (Or.inl h)
    · have := (tx_last fi false).1 h
      cases this
theorem clo_end (ss : List St) (fi : Bool) (b : Nat → Bool) : cloF ss fi true (cloF ss fi false b) = cloF ss fi true b := fun_ext fun k => by
  rw [cloF_iff, cloF_iff]
  constructor
  · rintro ⟨k1, h1, h2⟩
    obtain ⟨k0, h3, h4⟩ := cloF_iff.1 h1
    exact ⟨k0, h3, (sta_last h4).trans h2⟩
  · rintro ⟨k0, h1, h2⟩
    exact ⟨k0, cloF_iff.2 ⟨k0, h1, .nil _⟩, h2⟩
theorem cur_end (ss : List St) (s : List UInt8) : curS ss s 0 s.length = cloF ss (decide (s.length = 0)) true (nowS ss s) := by
  rcases List.eq_nil_or_concat s with rfl | ⟨s0, c, rfl⟩
  · show curS ss [] 0 0 = cloF ss true true (nowS ss [])
    rw [cur_beg ss [] 0 (Nat.le_refl _), now_nil]
    unfold begS
    rw [clo_end]
    rfl
  · rw [List.concat_eq_append]
    have hc : (s0 ++ [c])[s0.length]? = some c := by simp
    have e : (s0 ++ [c]).length = s0.length + 1 := by simp
    rw [e, cur_next ss _ 0 s0.length (Nat.zero_le _) c hc, now_snoc, now_cur ss s0.length s0 [c] rfl (by simp), decide_eq_true e.symm, decide_eq_false (by omega)]
    unfold nxtS
    rw [clo_end]
/-- Does it come to its end, if the text ends here? -/
noncomputable def yesF (ss : List St) (s : List UInt8) : Bool := donF ss (cloF ss (decide (s.length = 0)) true (nowS ss s))
theorem yes_fit (t : Rx) (ht : t.Ok) (ho : ∀ n ∈ t.flat, 1 ≤ n.op ∧ n.op ≤ 9) (s : List UInt8) : yesF t.prog s = true ↔ Fit s t 0 s.length := by
  obtain ⟨l, hl⟩ := ends_total s t 0
  unfold yesF
  rw [← cur_end, cur_done (Nat.zero_le _) ((run_ends t ht ho s 0 (Nat.zero_le _) l).2 hl) s.length]
  exact hl.2 _
/-- A step that takes some byte. -/
def cT (n : St) : Bool := n.op == 1 && decide (0 < n.c.many 4)
theorem cT_has {n : St} (h1 : n.op = 1) (hk : n.c.ok) {c : UInt8} (hc : n.c.has c.toNat = true) : cT n = true := by
  unfold cT
  rw [Bool.and_eq_true, beq_iff_eq, decide_eq_true_iff, many_cnt hk]
  refine ⟨h1, ?_⟩
  have : ¬ cnt n.c.has 256 = 0 := fun h => by
    have := cnt_pos n.c.has 256 h c.toNat c.toNat_lt
    rw [hc] at this
    cases this
  omega
/-- From step k to y with some byte, or with none, within a text. -/
def Nx (ss : List St) (k y : Nat) : Prop := ∃ n, ss[k]? = some n ∧ ((n.op = 2 ∧ (y = n.x.toNat ∨ y = n.y.toNat)) ∨ (cT n = true ∧ y = n.x.toNat))
def Tka (ss : List St) (k y : Nat) : Prop := ∃ n, ss[k]? = some n ∧ cT n = true ∧ y = n.x.toNat
/-- As often as one likes. -/
inductive Lat (R : Nat → Nat → Prop) : Nat → Nat → Prop
  | nil (k : Nat) : Lat R k k
  | cons (k k1 k2 : Nat) : R k k1 → Lat R k1 k2 → Lat R k k2
theorem Lat.trans {R : Nat → Nat → Prop} {a b c : Nat} (h : Lat R a b) (g : Lat R b c) : Lat R a c := by
  induction h with
  | nil k => exact g
  | cons k k1 k2 h _ ih => exact .cons _ _ _ h (ih g)
theorem nx_eq {ss : List St} {k y : Nat} {n : St} (hn : ss[k]? = some n) : Nx ss k y ↔ (n.op = 2 ∧ (y = n.x.toNat ∨ y = n.y.toNat)) ∨ (cT n = true ∧ y = n.x.toNat) := by
  constructor
  · rintro ⟨m, hm, h⟩
    rw [hn] at hm
    obtain rfl := Option.some.inj hm
    exact h
  · exact fun h => ⟨n, hn, h⟩
theorem tka_eq {ss : List St} {k y : Nat} {n : St} (hn : ss[k]? = some n) : Tka ss k y ↔ cT n = true ∧ y = n.x.toNat := by
  constructor
  · rintro ⟨m, hm, h⟩
    rw [hn] at hm
    obtain rfl := Option.some.inj hm
    exact h
  · exact fun h => ⟨n, hn, h⟩
theorem Tka.nx {ss : List St} {k y : Nat} (h : Tka ss k y) : Nx ss k y := by
  obtain ⟨n, hn, h⟩ := h
  exact ⟨n, hn, Or.inr h⟩
/-- All that can be come to behind some steps, with one byte at least. -/
noncomputable def latF (ss : List St) (p : Nat → Bool) : Nat → Bool := fun k => @decide (∃ k0, p k0 = true ∧ ∃ k1, Tka ss k0 k1 ∧ Lat (Nx ss) k1 k) (Classical.propDecidable _)
theorem latF_iff {ss : List St} {p : Nat → Bool} {k : Nat} : latF ss p k = true ↔ ∃ k0, p k0 = true ∧ ∃ k1, Tka ss k0 k1 ∧ Lat (Nx ss) k1 k := @decide_eq_true_iff _ (Classical.propDecidable _)
theorem lat_lt {ss : List St} (hL : Leads ss) {k k' : Nat} (h : Lat (Nx ss) k k') (hk : k < ss.length) : k' < ss.length := by
  induction h with
  | nil k => exact hk
  | cons k k1 k2 hs _ ih =>
    refine ih ?_
    obtain ⟨n, hn, ⟨h1, h2 | h2⟩ | ⟨h1, h2⟩⟩ := hs
    · rw [h2]; exact (hL k n hn).1 (by omega)
    · rw [h2]; exact (hL k n hn).2 h1
    · rw [h2]
      unfold cT at h1
      rw [Bool.and_eq_true, beq_iff_eq] at h1
      exact (hL k n hn).1 (by omega)
theorem lat_sub {ss : List St} (hL : Leads ss) {p : Nat → Bool} : Sub ss (latF ss p) := fun k hk => by
  obtain ⟨k0, _, k1, ⟨n, hn, h1, h2⟩, h3⟩ := latF_iff.1 hk
  refine lat_lt hL h3 ?_
  rw [h2]
  unfold cT at h1
  rw [Bool.and_eq_true, beq_iff_eq] at h1
  exact (hL k0 n hn).1 (by omega)
theorem sta_lat {ss : List St} {k k' : Nat} (h : Sta ss (tx false false) (pc false) k k') : Lat (Nx ss) k k' := by
  induction h with
  | nil k => exact .nil _
  | cons k k1 k2 hs _ ih =>
    obtain ⟨n, hn, _⟩ := id hs
    rw [stp_stay hn] at hs
    rcases hs with h | ⟨_, _, h⟩ | ⟨_, _, h⟩
    · exact .cons _ k1 _ ⟨n, hn, Or.inl h⟩ ih
    · have := (tx_first false).1 h
      cases this
    · have := (tx_last false false).1 h
      cases this
theorem now_lat {ss : List St} (hok : SsOk ss) (s : List UInt8) (c : UInt8) (k : Nat) (h : nowS ss (s ++ [c]) k = true) : latF ss (nowS ss s) k = true := by
  rw [now_snoc] at h
  obtain ⟨k1, h1, h2⟩ := cloF_iff.1 h
  obtain ⟨k0, h3, n, hn, q1, q2, q3⟩ := takF_iff.1 h1
  exact latF_iff.2 ⟨k0, h3, k1, ⟨n, hn, cT_has q1 (hok n (List.mem_of_getElem? hn)) q2, q3⟩, sta_lat h2⟩
theorem lat_lat {ss : List St} {p q : Nat → Bool} (h : ∀ k, q k = true → latF ss p k = true) (k : Nat) (hk : latF ss q k = true) : latF ss p k = true := by
  obtain ⟨k0, h0, k1, h1, h2⟩ := latF_iff.1 hk
  obtain ⟨j0, g0, j1, g1, g2⟩ := latF_iff.1 (h k0 h0)
  exact latF_iff.2 ⟨j0, g0, j1, g1, g2.trans (.cons _ _ _ h1.nx h2)⟩
theorem clo_mono {ss : List St} {fi la : Bool} {p q : Nat → Bool} (h : ∀ k, q k = true → p k = true) (k : Nat) (hk : cloF ss fi la q k = true) : cloF ss fi la p k = true := by
  obtain ⟨k0, h0, h1⟩ := cloF_iff.1 hk
  exact cloF_iff.2 ⟨k0, h k0 h0, h1⟩
theorem don_mono {ss : List St} {p q : Nat → Bool} (h : ∀ k, q k = true → p k = true) (hq : donF ss q = true) : donF ss p = true := by
  obtain ⟨k, h0, h1⟩ := donF_iff.1 hq
  exact donF_iff.2 ⟨k, h k h0, h1⟩
/-- May it come to its end, behind some bytes more? -/
noncomputable def mayF (ss : List St) (s : List UInt8) : Bool := donF ss (cloF ss false true (latF ss (nowS ss s)))
/-- What is said to be dead. -/
noncomputable def deadF (ss : List St) (s : List UInt8) : Bool := !yesF ss s && !mayF ss s
theorem dead_iff {ss : List St} {s : List UInt8} : deadF ss s = true ↔ yesF ss s = false ∧ mayF ss s = false := by
  unfold deadF
  cases yesF ss s <;> cases mayF ss s <;> simp
theorem dead_one {ss : List St} (hok : SsOk ss) (s : List UInt8) (c : UInt8) (h : deadF ss s = true) : deadF ss (s ++ [c]) = true := by
  have h2 := (dead_iff.1 h).2
  rw [dead_iff]
  constructor
  · cases hy : yesF ss (s ++ [c]) with
    | false => rfl
    | true =>
      unfold yesF at hy
      rw [decide_eq_false (by simp)] at hy
      have := don_mono (clo_mono (now_lat hok s c)) hy
      unfold mayF at h2
      rw [h2] at this
      cases this
  · cases hy : mayF ss (s ++ [c]) with
    | false => rfl
    | true =>
      unfold mayF at hy h2
      have := don_mono (clo_mono (lat_lat (now_lat hok s c))) hy
      rw [h2] at this
      cases this
theorem dead_more {ss : List St} (hok : SsOk ss) : ∀ (m s : List UInt8), deadF ss s = true → deadF ss (s ++ m) = true
  | [], s, h => by rw [List.append_nil]; exact h
  | c :: m, s, h => by
    have := dead_more hok m (s ++ [c]) (dead_one hok s c h)
    rwa [List.append_assoc] at this
theorem dead_fit (t : Rx) (ht : t.Ok) (ho : ∀ n ∈ t.flat, 1 ≤ n.op ∧ n.op ≤ 9) (hok : SsOk t.prog) (s m : List UInt8) (h : deadF t.prog s = true) : ¬ Fit (s ++ m) t 0 (s ++ m).length := fun hf => by
  have h1 := (dead_iff.1 (dead_more hok m s h)).1
  rw [(yes_fit t ht ho _).2 hf] at h1
  cases h1
/-- What is seen, S, has become S' by going on from the steps K. -/
structure Vsg (R : Nat → Nat → Prop) (S S' K : List Nat) : Prop where
  pre : ∃ m, S' = S ++ m
  has : ∀ k ∈ K, k ∈ S'
  sound : ∀ x ∈ S', x ∈ S ∨ ∃ k ∈ K, Lat R k x
  shut : ∀ x ∈ S', x ∈ S ∨ ∀ y, R x y → y ∈ S'
theorem Vsg.sub {R : Nat → Nat → Prop} {S S' K : List Nat} (h : Vsg R S S' K) : ∀ x ∈ S, x ∈ S' := fun x hx => by
  obtain ⟨m, rfl⟩ := h.pre
  simp [hx]
theorem Vsg.refl (R : Nat → Nat → Prop) (S K : List Nat) (h : ∀ k ∈ K, k ∈ S) : Vsg R S S K := ⟨⟨[], by simp⟩, h, fun x hx => Or.inl hx, fun x hx => Or.inl hx⟩
theorem Vsg.comp {R : Nat → Nat → Prop} {S S1 S2 K L : List Nat} (h : Vsg R S S1 K) (g : Vsg R S1 S2 L) : Vsg R S S2 (K ++ L) where
  pre := by
    obtain ⟨m, rfl⟩ := h.pre
    obtain ⟨m', rfl⟩ := g.pre
    exact ⟨m ++ m', by simp⟩
  has := fun k hk => by
    rcases List.mem_append.1 hk with hk | hk
    · exact g.sub k (h.has k hk)
    · exact g.has k hk
  sound := fun x hx => by
    rcases g.sound x hx with h1 | ⟨k, hk, h1⟩
    · rcases h.sound x h1 with h2 | ⟨k, hk, h2⟩
      · exact Or.inl h2
      · exact Or.inr ⟨k, by simp [hk], h2⟩
    · exact Or.inr ⟨k, by simp [hk], h1⟩
  shut := fun x hx => by
    rcases g.shut x hx with h1 | h1
    · rcases h.shut x h1 with h2 | h2
      · exact Or.inl h2
      · exact Or.inr fun y hy => g.sub y (h2 y hy)
    · exact Or.inr h1
theorem Vsg.enter {R : Nat → Nat → Prop} {k : Nat} {S S' K : List Nat} (h : Vsg R (S ++ [k]) S' K) (hK : ∀ y, R k y ↔ y ∈ K) : Vsg R S S' [k] where
  pre := by
    obtain ⟨m, rfl⟩ := h.pre
    exact ⟨k :: m, by simp⟩
  has := fun x hx => by
    rw [List.mem_singleton.1 hx]
    exact h.sub k (by simp)
  sound := fun x hx => by
    rcases h.sound x hx with h1 | ⟨y, hy, h1⟩
    · rcases List.mem_append.1 h1 with h2 | h2
      · exact Or.inl h2
      · rw [List.mem_singleton.1 h2]
        exact Or.inr ⟨k, by simp, .nil _⟩
    · exact Or.inr ⟨k, by simp, .cons _ _ _ ((hK y).2 hy) h1⟩
  shut := fun x hx => by
    rcases h.shut x hx with h1 | h1
    · rcases h.shut x hx with h2 | h2
      · rcases List.mem_append.1 h2 with h3 | h3
        · exact Or.inl h3
        · rw [List.mem_singleton.1 h3]
          exact Or.inr fun y hy => h.has y ((hK y).1 hy)
      · exact Or.inr h2
    · exact Or.inr h1
theorem Vsg.all {R : Nat → Nat → Prop} {b F : List Nat} (h : Vsg R [] F b) (k : Nat) : k ∈ F ↔ ∃ k0 ∈ b, Lat R k0 k := by
  constructor
  · intro hk
    rcases h.sound k hk with h1 | h1
    · cases h1
    · exact h1
  · rintro ⟨k0, hk0, h1⟩
    have h2 := h.has k0 hk0
    clear hk0
    induction h1 with
    | nil k => exact h2
    | cons k k1 k2 hs _ ih =>
      refine ih ?_
      rcases h.shut k h2 with h3 | h3
      · cases h3
      · exact h3 k1 hs
/-- Where the steps of a list that take a byte lead to. -/
def tgt (ss : List St) (l : List Nat) : List Nat := l.flatMap fun k => match ss[k]? with
  | some n => if cT n then [n.x.toNat] else []
  | none => []
theorem tgt_nil (ss : List St) : tgt ss [] = [] := rfl
theorem tgt_yes {ss : List St} {l : List Nat} {k : Nat} {n : St} (hn : ss[k]? = some n) (h : cT n = true) : tgt ss (l ++ [k]) = tgt ss l ++ [n.x.toNat] := by
  unfold tgt
  rw [List.flatMap_append]
  simp [hn, h]
theorem tgt_no {ss : List St} {l : List Nat} {k : Nat} {n : St} (hn : ss[k]? = some n) (h : cT n = false) : tgt ss (l ++ [k]) = tgt ss l := by
  unfold tgt
  rw [List.flatMap_append]
  simp [hn, h]
theorem tgt_mem {ss : List St} {l : List Nat} {y : Nat} : y ∈ tgt ss l ↔ ∃ k ∈ l, Tka ss k y := by
  unfold tgt
  rw [List.mem_flatMap]
  constructor
  · rintro ⟨k, hk, h⟩
    cases hn : ss[k]? with
    | none => rw [hn] at h; cases h
    | some n =>
      rw [hn] at h
      by_cases hc : cT n = true
      · rw [show (match some n with | some n => if cT n then [n.x.toNat] else [] | none => ([] : List Nat)) = [n.x.toNat] by simp [hc]] at h
        exact ⟨k, hk, n, hn, hc, List.mem_singleton.1 h⟩
      · simp [hc] at h
  · rintro ⟨k, hk, n, hn, hc, rfl⟩
    exact ⟨k, hk, by rw [hn]; simp [hc]⟩
theorem lat_list {ss : List St} (hl : ss.length ≤ 200) {p : Nat → Bool} (hp : Sub ss p) {S : List Nat} (h : Vsg (Nx ss) [] S (tgt ss (el p 256))) : (fun j => decide (j ∈ S)) = latF ss p := fun_ext fun j => by
  rw [decide_eq_true_iff, latF_iff, h.all j]
  constructor
  · rintro ⟨k1, h1, h2⟩
    obtain ⟨k0, h3, h4⟩ := tgt_mem.1 h1
    exact ⟨k0, (el_in hl hp k0).1 h3, k1, h4, h2⟩
  · rintro ⟨k0, h1, k1, h2, h3⟩
    exact ⟨k1, tgt_mem.2 ⟨k0, (el_in hl hp k0).2 h1, h2⟩, h3⟩
end Go.Proofs.YteeamifjldoihaaDoor
namespace Go.Proofs.YteeamifjldoihaaDoor
set_option linter.unusedSimpArgs false
set_option linter.unusedVariables false
set_option maxRecDepth 100000
open Go.RowKit
set_option maxHeartbeats 400000 in
theorem ones_any (x : Int) (w : World) :
    Calls Tryd.prog 78 #[.int .u64 x] w fun e w' => e = .returned (.int .i64 (ones x)) ∧ w' = w := by
  go_enter Tryd.func78, Tryd.ntmps78
  go_wp2
  go_ret
  exact ⟨rfl, rfl⟩
theorem index4_0 (k : C4) (w : World) : (Instr.index 40 k.v (.int .i64 0)).run Tryd.prog w = .ok (.int .u64 k.a) w := by kernel_rfl
theorem index4_1 (k : C4) (w : World) : (Instr.index 40 k.v (.int .i64 1)).run Tryd.prog w = .ok (.int .u64 k.b) w := by kernel_rfl
theorem index4_2 (k : C4) (w : World) : (Instr.index 40 k.v (.int .i64 2)).run Tryd.prog w = .ok (.int .u64 k.c) w := by kernel_rfl
theorem index4_3 (k : C4) (w : World) : (Instr.index 40 k.v (.int .i64 3)).run Tryd.prog w = .ok (.int .u64 k.d) w := by kernel_rfl
theorem index4 (k : C4) (i : Nat) (h : i < 4) (w : World) : (Instr.index 40 k.v (.int .i64 i)).run Tryd.prog w = .ok (.int .u64 (k.w i)) w := by
  match i, h with
  | 0, _ => exact index4_0 k w
  | 1, _ => exact index4_1 k w
  | 2, _ => exact index4_2 k w
  | 3, _ => exact index4_3 k w

set_option maxHeartbeats 400000 in
theorem many_any (k : C4) (w : World) :
    Calls Tryd.prog 64 #[k.v] w fun e w' => e = .returned (.int .i64 (k.many 4)) ∧ Below w.heap.size w w' := by
  go_enter Tryd.func64, Tryd.ntmps64
  go_wp2
  go_loop [3, 7] (fun n i => ∃ j : Nat, j ≤ 4 ∧ i = .int .i64 j ∧ n = .int .i64 (k.many j)) (fun _ i => 4 - (intOf i).toNat)
  case atStart => exact ⟨0, by omega, rfl, rfl⟩
  case round =>
    obtain ⟨j, hj, rfl, rfl⟩ := hrel
    by_cases hlt : j < 4
    · have hi := index4 k j hlt
      go_wp2_with (first | (go_at_call 78; refine (ones_any _ _).mono ?_; rintro e w' ⟨rfl, rfl⟩))
      go_round
      case rel => exact ⟨j + 1, by omega, by go_num, rfl⟩
      case measure => simp [intOf]; omega
    · have hj4 : j = 4 := by omega
      subst hj4
      go_wp2
      go_ret
      exact ⟨rfl, (Below.refl _ _).alloc (Nat.le_refl _) _⟩
end Go.Proofs.YteeamifjldoihaaDoor
namespace Go.Proofs.YteeamifjldoihaaDoor
set_option linter.unusedSimpArgs false
set_option linter.unusedVariables false
set_option maxRecDepth 100000
open Go.RowKit
/-- A step as a value. -/
abbrev stpV (n : St) : Value := .agg #[.int .i64 n.op, .int .u64 n.c.a, .int .u64 n.c.b, .int .u64 n.c.c, .int .u64 n.c.d, .int .i64 n.x, .int .i64 n.y]
set_option maxHeartbeats 1000000 in
theorem canT_any (n : St) (w : World) : Calls Tryd.prog 48 #[stpV n] w fun e w' => e = .returned (.bool (cT n)) ∧ Below w.heap.size w w' := by
  unfold stpV
  obtain ⟨w0, hw0⟩ : ∃ w0, w.alloc (.cells #[.int .i64 n.op, .int .u64 n.c.a, .int .u64 n.c.b, .int .u64 n.c.c, .int .u64 n.c.d, .int .i64 n.x, .int .i64 n.y] 85) = w0 := ⟨_, rfl⟩
  have hh : w0.heap[w.heap.size]? = some (.cells #[.int .i64 n.op, .int .u64 n.c.a, .int .u64 n.c.b, .int .u64 n.c.c, .int .u64 n.c.d, .int .i64 n.x, .int .i64 n.y] 85 (0, 0)) := by rw [← hw0]; exact heap_alloc_new w _
  have hb0 : Below w.heap.size w w0 := by rw [← hw0]; exact (Below.refl _ _).alloc (Nat.le_refl _) _
  have d0 := Lib.cell_of_heap hh 0
  have d1 := Lib.cell_of_heap hh 1
  have d2 := Lib.cell_of_heap hh 2
  have d3 := Lib.cell_of_heap hh 3
  have d4 := Lib.cell_of_heap hh 4
  simp only [List.getElem?_toArray, List.getElem?_cons_zero, List.getElem?_cons_succ] at d0 d1 d2 d3 d4
  have HC := hid (many_any n.c w0)
  have HB := hid hb0
  have HE : Hid (cT n = (n.op == 1 && decide (0 < n.c.many 4))) := rfl
  clear hh hb0
  generalize n.c.many 4 = mm at HC HE
  by_cases h1 : n.op = 1
  · have HE1 : Hid (cT n = decide (0 < mm)) := by
      show _ = _
      rw [HE.out, h1]
      simp
    rw [h1] at d0 hw0 ⊢
    clear HE h1
    go_enter Tryd.func48, Tryd.ntmps48
    go_wp2_with fail
    refine Calls.mono HC.out ?_
    rintro e w1 ⟨rfl, hb1⟩
    have HB1 := hid (HB.out.trans (hb1.mono HB.out.size))
    clear hb1
    go_wp2
    go_ret
    exact ⟨congrArg (fun b => Ending.returned (.bool b)) HE1.out.symm, HB1.out⟩
  · have h1' : (n.op == 1) = false := by rw [beq_eq_false_iff_ne]; exact h1
    have HE1 : Hid (cT n = false) := by
      show _ = _
      rw [HE.out, h1']
      rfl
    clear HE h1
    go_enter Tryd.func48, Tryd.ntmps48
    go_wp2
    go_ret
    exact ⟨congrArg (fun b => Ending.returned (.bool b)) HE1.out.symm, HB.out⟩
end Go.Proofs.YteeamifjldoihaaDoor
