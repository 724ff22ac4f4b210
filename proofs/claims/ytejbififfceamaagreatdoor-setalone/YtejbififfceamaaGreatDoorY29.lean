/- Package auto: New. The landed builder: add, hold, fork. The landed builder: the steps of a part. The landed builder: plus, star, opt, or. The landed builder: the steps of a tree; Of. -/
import Derived.Test.YtejbififfceamaaGreatDoorY28
import Derived.Test.YtejbififfceamaaGreatDoorY25
import Derived.Test.YtejbififfceamaaGreatDoorY21
import Derived.Test.YtejbififfceamaaGreatDoorY24
import Derived.Deep.RegionLaw
import Derived.Test.YtejbififfceamaaGreatDoorY04
import Derived.Test.YtejbififfceamaaGreatDoorY18
import Derived.Test.YtejbififfceamaaGreatDoorY02
namespace Go.Proofs.YtejbififfceamaaGreatDoor
set_option linter.unusedSimpArgs false
set_option linter.unusedVariables false
set_option maxRecDepth 100000
open Go.RowKit Go.Shelf
set_option maxHeartbeats 1000000 in
theorem along_bad (c : Ax) (s : ByteArray) (i : Int) (w : World) (hs : s.size ≤ maxLen) (hp : ¬ plE s.size i = 0) :
    Calls Tryz.prog 74 #[c.u, .string s, .int .i64 i] w fun e w' => e = .returned (.tuple #[.int .i64 0, errV (plE s.size i)]) ∧ Below w.heap.size w w' := by
  have HC := hid (checkPlace_any s i w hs)
  rw [show errV (plE s.size i) = .iface 32 (.int .i64 (plE s.size i)) by unfold errV; rw [if_neg hp]] at HC ⊢
  clear hp
  go_enter Tryz.func74, Tryz.ntmps74
  go_wp2_with fail
  refine Calls.mono HC.out ?_
  rintro e w1 ⟨rfl, hb⟩
  go_wp2
  go_ret2
  exact ⟨rfl, hb⟩
set_option maxHeartbeats 1000000 in
theorem new_bad (ss : List St) (v : Value) (w : World) (hf : ¬ stepsF ss = 0) (hS : SsIn w v ss) :
    Calls Tryz.prog 50 #[v] w fun e w' => e = .returned (.tuple #[.pointer none, errV (stepsF ss)]) ∧ Below w.heap.size w w' := by
  have HC := hid (waysOf_bad ss v w hf hS)
  obtain ⟨a, cap, rfl, hm⟩ := ssIn_form hS
  rw [show errV (stepsF ss) = .iface 32 (.int .i64 (stepsF ss)) by unfold errV; rw [if_neg hf]] at HC ⊢
  clear hS hf
  go_enter Tryz.func50, Tryz.ntmps50
  go_wp2_with fail
  refine Calls.mono HC.out ?_
  rintro e w1 ⟨rfl, hb⟩
  go_wp2
  go_ret2
  exact ⟨rfl, hb.alloc hb.size _⟩
set_option maxHeartbeats 1000000 in
theorem new_ok (ss : List St) (v : Value) (w : World) (hf : stepsF ss = 0) (hS : SsIn w v ss) :
    Calls Tryz.prog 50 #[v] w fun e w' => ∃ c : Ax, c.ss = ss ∧ c.B = w.heap.size ∧ e = .returned (.tuple #[c.u, .nilIface]) ∧ Below w.heap.size w w' ∧ ∃ K Mb, AuI c (fun _ => none) (fun n => n) K Mb 0 w' := by
  have HC := hid (waysOf_ok ss v w hf hS)
  obtain ⟨a, cap, rfl, hm⟩ := ssIn_form hS
  have HF := hid hf
  clear hS hf
  go_enter Tryz.func50, Tryz.ntmps50
  go_wp2_with fail
  refine Calls.mono HC.out ?_
  rintro e w1 ⟨b, c, rfl, hb1, hN1, hb, hbl⟩
  obtain ⟨w3, hw3⟩ : ∃ w3, (w1.alloc (.cells #[.slice (some ⟨b, 0, none⟩) ss.length c] 160)).alloc (.cells #[.slice (some ⟨b, 0, none⟩) ss.length c, .map none, .map none] 166) = w3 := ⟨_, rfl⟩
  have hb3 : Below w1.heap.size w1 w3 := by rw [← hw3]; exact ((Below.refl _ _).alloc (Nat.le_refl _) _).alloc (by simp) _
  have ha3 : w3.heap[w1.heap.size + 1]? = some (.cells #[.slice (some ⟨b, 0, none⟩) ss.length c, .map none, .map none] 166 (0, 0)) := by
    rw [← hw3]
    have := World.alloc_heap_new (w1.alloc (.cells #[.slice (some ⟨b, 0, none⟩) ss.length c] 160)) (.cells #[.slice (some ⟨b, 0, none⟩) ss.length c, .map none, .map none] 166)
    rwa [World.size_alloc] at this
  have hsz3 : w3.heap.size = w1.heap.size + 2 := by rw [← hw3]; simp
  have CF := hid (forget_raw (w1.heap.size + 1) _ _ _ w3 ha3)
  have HB1 := hid hb1
  have HN1 := hid hN1
  have HB3 := hid hb3
  have hs1 := hb1.size
  clear HC hb1 hN1 hb3 ha3
  go_wp2_with fail
  refine Calls.mono CF.out ?_
  rintro e w4 ⟨⟨v4, rfl⟩, e1, e2, e3, hg4⟩
  have HR : Hid (∃ c' : Ax, c'.ss = ss ∧ c'.B = w.heap.size ∧ c'.u = .pointer (some ⟨w1.heap.size + 1, 0, none⟩) ∧ Below w.heap.size w w4 ∧ ∃ K Mb, AuI c' (fun _ => none) (fun n => n) K Mb 0 w4) := by
    refine ⟨⟨ss, w1.heap.size + 1, b, c, w.heap.size, fun _ => False⟩, rfl, rfl, rfl, ?_, w3.heap.size, w3.heap.size + 1, ?_⟩
    · exact (HB1.out.trans (HB3.out.mono hs1)).grown hg4 (by omega) (fun k e => by injection e with e; omega)
    · exact {
        au := e1
        steps := (HN1.out.below HB3.out hbl).grown hg4 (show b < _ by omega) (fun e => absurd (show b = w1.heap.size + 1 from Option.some.inj e) (by omega))
        blt := by have := hg4.size; show b < _; omega
        kn := (Km.empty _ e2).mono (fun _ _ h => h.elim)
        k100 := by omega
        bg := ⟨0, (Km.empty _ e3).mono (fun _ _ h => h.elim)⟩
        sub := fun σ p h => by cases h
        st := fun σ p h => by cases h
        mv := fun σ p h => by cases h
        inj := fun σ τ p q h => by cases h
        mK := fun σ p h => by cases h
        KM := by omega
        lo := ⟨show w.heap.size ≤ _ by omega, show w.heap.size ≤ _ by omega, show w.heap.size ≤ w1.heap.size + 1 by omega, hb⟩
        loS := fun σ p h => by cases h
        out := fun k e => e.elim
        outS := fun σ p h => by cases h }
  clear e1 e2 e3 hg4 CF HB1 HN1 HB3
  go_wp2
  go_ret2
  obtain ⟨c', r1, r2, r3, r4, r5⟩ := HR.out
  exact ⟨c', r1, r2, by rw [r3]; rfl, r4, r5⟩
/-- A value is an auto of a program, all that it keeps lies from B on. -/
def AuV (B : Nat) (w : World) (u : Value) (ss : List St) : Prop := ∃ c : Ax, c.ss = ss ∧ c.B = B ∧ u = c.u ∧ c.Good ∧ ∃ g m K Mb k, AuI c g m K Mb k w
end Go.Proofs.YtejbififfceamaaGreatDoor
namespace Go.Proofs.YtejbififfceamaaGreatDoor
set_option linter.unusedSimpArgs false
set_option linter.unusedVariables false
set_option maxRecDepth 100000
open Go.RowKit
/-- The builder at g has the nodes nv, and the steps ss so far. -/
structure BB (w : World) (g : Nat) (nv : Value) (ss : List St) : Prop where
  of : ∃ sv, Bld w g nv sv ∧ SsOwn w (g + 1) sv ss
theorem Bld.grownS {w w' : World} {g B : Nat} {nv sv u : Value} {ss : List St} (h : Bld w g nv sv) (hO : SsOwn w B u ss) (hB : g < B) (hg : w.grownBy w' u.ownBlock) : Bld w' g nv sv := by
  refine (hg.block g h.lt ?_).trans h
  intro e
  have := (hO.ne g e.symm).1
  omega
theorem below_grownS {w w' : World} {g B : Nat} {u : Value} {ss : List St} (hO : SsOwn w B u ss) (hB : g ≤ B) (hgs : g ≤ w.heap.size) (hg : w.grownBy w' u.ownBlock) : Below g w w' :=
  ⟨hg.os, hg.tape, hg.output, hg.size, fun k hk => hg.block k (by omega) (by
    intro e
    have := (hO.ne k e.symm).1
    omega)⟩
set_option maxHeartbeats 2000000 in
theorem add_any (g : Nat) (nv : Value) (ss : List St) (n : St) (w : World) (h : BB w g nv ss) (hm : ss.length ≤ 1000) :
    Calls Tryz.prog 71 #[.pointer (some ⟨g, 0, none⟩), n.v] w fun e w' => e = .returned (.tuple #[]) ∧ BB w' g nv (ss ++ [n]) ∧ Below g w w' := by
  obtain ⟨sv, hb, hO⟩ := h.of
  have hg := hb.lt
  obtain ⟨a0, cap0, hsv⟩ := hO.len
  have n0 : ¬ g = w.heap.size := by omega
  have n1 : ¬ w.heap.size = g := by omega
  have n2 : ¬ w.heap.size + 1 = g := by omega
  have n3 : ¬ g = w.heap.size + 1 := by omega
  obtain ⟨c0, c1, f1⟩ := hb.all
  have k1 : ∀ o, (w.alloc o).cell? ⟨g, 1, none⟩ = some sv := fun o => (hb.alloc o).all.2.1
  have k2 : ∀ o o', ((w.alloc o).alloc o').cell? ⟨g, 1, none⟩ = some sv := fun o o' => ((hb.alloc o).alloc o').all.2.1
  have AO : Hid (∀ W : World, W = ((w.alloc (.cells #[.int .i64 n.op, .int .u64 n.c.a, .int .u64 n.c.b, .int .u64 n.c.c, .int .u64 n.c.d, .int .i64 n.x, .int .i64 n.y] 158)).alloc (.cells #[.int .i64 n.op, .int .u64 n.c.a, .int .u64 n.c.b, .int .u64 n.c.c, .int .u64 n.c.d, .int .i64 n.x, .int .i64 n.y] 158)).drew → SsOwn W (g + 1) sv ss ∧ (∀ j u, (ssCells [n])[j]? = some u → W.cell? ⟨w.heap.size + 1, j, none⟩ = some u) ∧ g + 1 ≤ W.heap.size ∧ Bld W g nv sv ∧ Below g w W) := by
    rintro _ rfl
    have hB2 : Below w.heap.size w ((w.alloc (.cells #[.int .i64 n.op, .int .u64 n.c.a, .int .u64 n.c.b, .int .u64 n.c.c, .int .u64 n.c.d, .int .i64 n.x, .int .i64 n.y] 158)).alloc (.cells #[.int .i64 n.op, .int .u64 n.c.a, .int .u64 n.c.b, .int .u64 n.c.c, .int .u64 n.c.d, .int .i64 n.x, .int .i64 n.y] 158)).drew := (((Below.refl _ _).alloc (Nat.le_refl _) _).alloc (by simp) _).drew
    refine ⟨hO.below hB2, ?_, ?_, hb.below hB2, hB2.mono (by omega)⟩
    · intro j u hj
      show ((w.alloc _).alloc _).cell? _ = _
      rw [World.cell?_alloc_at (w := w.alloc (.cells #[.int .i64 n.op, .int .u64 n.c.a, .int .u64 n.c.b, .int .u64 n.c.c, .int .u64 n.c.d, .int .i64 n.x, .int .i64 n.y] 158)) _ _ (w.heap.size + 1) j (by simp)]
      simpa [ssCells, stCells] using hj
    · have := hB2.size
      omega
  clear h hO hsv hb
  go_enter Tryz.func71, Tryz.ntmps71
  go_wp2_with fail
  go_region_law (first | (refine step_append_ss (by rfl) _ _ (by rfl) (g + 1) sv (by rfl) ss (AO.out _ rfl).1 (w.heap.size + 1) 1 n (by rfl) (AO.out _ rfl).2.1 (by omega) (AO.out _ rfl).2.2.1 ?_; intro g3 cap3 w3 ho3 hg3 hb3 hl3; have HO3 := hid ho3; have hp3 := (AO.out _ rfl).2.2.2.1.grownS (AO.out _ rfl).1 (by omega) hg3; have HB3 := hid ((AO.out _ rfl).2.2.2.2.trans (below_grownS (AO.out _ rfl).1 (by omega) (by have := (AO.out _ rfl).2.2.1; omega) hg3)); have HP3 := hid hp3; obtain ⟨d0, d1, e1⟩ := hp3.all; clear ho3 hg3 hb3 hl3 hp3))
  all_goals go_wp2
  all_goals go_end0
  all_goals exact ⟨rfl, ⟨_, HP3.out.setSteps _, HO3.out.keptG (bgrown_cell _ _ _ _) (by omega)⟩, HB3.out.setCell (Nat.le_refl _) _⟩
theorem BB.below {w w' : World} {g : Nat} {nv : Value} {ss : List St} (h : BB w g nv ss) (hb : Below w.heap.size w w') : BB w' g nv ss := by
  obtain ⟨sv, h1, h2⟩ := h.of
  exact ⟨sv, h1.below hb, h2.below hb⟩
theorem BB.lt {w : World} {g : Nat} {nv : Value} {ss : List St} (h : BB w g nv ss) : g < w.heap.size := by
  obtain ⟨sv, h1, _⟩ := h.of
  exact h1.lt
/-- What lies in memory of a builder, and the length of its steps. -/
theorem BB.read {w : World} {g : Nat} {nv : Value} {ss : List St} (h : BB w g nv ss) : ∃ a cap, w.cell? ⟨g, 0, none⟩ = some nv ∧ w.cell? ⟨g, 1, none⟩ = some (.slice a ss.length cap) := by
  obtain ⟨sv, h1, h2⟩ := h.of
  obtain ⟨a, cap, rfl⟩ := h2.len
  exact ⟨a, cap, h1.all.1, h1.all.2.1⟩
set_option maxHeartbeats 1000000 in
theorem hold_any (g : Nat) (nv : Value) (ss : List St) (w : World) (h : BB w g nv ss) (hm : ss.length ≤ 1000) :
    Calls Tryz.prog 121 #[.pointer (some ⟨g, 0, none⟩)] w fun e w' => e = .returned (.int .i64 (ss.length : Int)) ∧ BB w' g nv (ss ++ [stZ]) ∧ Below g w w' := by
  have HA := hid (add_any g nv ss stZ w h hm)
  clear h
  go_enter Tryz.func121, Tryz.ntmps121
  go_wp2_with fail
  refine Calls.mono HA.out ?_
  rintro e w1 ⟨rfl, h1, hb⟩
  obtain ⟨a, cap, d0, d1⟩ := h1.read
  have HB := hid h1
  have HL := hid hb
  rw [List.length_append] at d1
  have hl : (((ss.length + [stZ].length : Nat) : Int)) - 1 = (ss.length : Int) := by simp
  clear h1 hb
  go_wp2
  go_ret
  exact ⟨by first | rfl | (simp; done), HB.out, HL.out⟩
/-- A step is put in the place of another one. -/
def putSt (w : World) (g o : Nat) (s : St) : World := ((((((w.setCell ⟨g, o, none⟩ (.int .i64 s.op)).setCell ⟨g, o + 1, none⟩ (.int .u64 s.c.a)).setCell ⟨g, o + 2, none⟩ (.int .u64 s.c.b)).setCell ⟨g, o + 3, none⟩ (.int .u64 s.c.c)).setCell ⟨g, o + 4, none⟩ (.int .u64 s.c.d)).setCell ⟨g, o + 5, none⟩ (.int .i64 s.x)).setCell ⟨g, o + 6, none⟩ (.int .i64 s.y)
theorem heap_set {w : World} {r : Nat} {cur : Array Value} {t : TypeId} {fz : Nat × Nat} (h : w.heap[r]? = some (.cells cur t fz)) (o : Nat) (v : Value) : (w.setCell ⟨r, o, none⟩ v).heap[r]? = some (.cells (cur.setIfInBounds o v) t fz) := by
  simp [World.setCell, Array.getElem?_modify, h]
theorem stCells_set (m : St) (R : List Value) (k t : Nat) (v : Value) : (stCells m ++ R).set ((k + 1) * 7 + t) v = stCells m ++ R.set (k * 7 + t) v := by
  rw [List.set_append_right _ _ (by simp [stCells]; omega)]
  congr 2
  simp [stCells]
  omega
theorem ssCells_set (s : St) : ∀ (ss : List St) (k : Nat), k < ss.length → ssCells (ss.set k s) = ((((((((ssCells ss).set (k * 7 + 0) (.int .i64 s.op)).set (k * 7 + 1) (.int .u64 s.c.a)).set (k * 7 + 2) (.int .u64 s.c.b)).set (k * 7 + 3) (.int .u64 s.c.c)).set (k * 7 + 4) (.int .u64 s.c.d)).set (k * 7 + 5) (.int .i64 s.x)).set (k * 7 + 6) (.int .i64 s.y))
  | [], k, h => by simp at h
  | m :: r, 0, h => by simp [ssCells, stCells]
  | m :: r, k + 1, h => by
    rw [List.set_cons_succ, ssCells, ssCells, ssCells_set s r k (by simpa using h)]
    rw [stCells_set, stCells_set, stCells_set, stCells_set, stCells_set, stCells_set, stCells_set]
theorem SsOwn.put {w : World} {base r cap : Nat} {ss : List St} (h : SsOwn w base (.slice (some ⟨r, 0, none⟩) ss.length cap) ss) (k : Nat) (hk : k < ss.length) (s : St) :
    SsOwn (putSt w r (k * 7) s) base (.slice (some ⟨r, 0, none⟩) ss.length cap) (ss.set k s) := by
  refine ⟨by rw [ssCells_len], Or.inr ?_⟩
  rcases h.2 with ⟨hv, hn⟩ | ⟨g, cap', cur, hv, hb, hh, hnc, hcm, hcs, htk⟩
  · omega
  · injection hv with e1 e2 e3
    injection e1 with e1
    injection e1 with e1
    subst e1
    subst e3
    have hh' := heap_set (heap_set (heap_set (heap_set (heap_set (heap_set (heap_set hh (k * 7) (.int .i64 s.op)) (k * 7 + 1) (.int .u64 s.c.a)) (k * 7 + 2) (.int .u64 s.c.b)) (k * 7 + 3) (.int .u64 s.c.c)) (k * 7 + 4) (.int .u64 s.c.d)) (k * 7 + 5) (.int .i64 s.x)) (k * 7 + 6) (.int .i64 s.y)
    refine ⟨r, cap, _, by rw [List.length_set], hb, hh', by rw [List.length_set]; exact hnc, hcm, by simp only [Array.size_setIfInBounds]; exact hcs, ?_⟩
    rw [List.length_set, ssCells_set s ss k hk]
    simp only [Array.toList_setIfInBounds, List.take_set, htk, Nat.add_zero]
theorem grown_putSt (w : World) (r o : Nat) (s : St) : w.grownBy (putSt w r o s) (some r) :=
  Lib.grownBy_setB (Lib.grownBy_setB (Lib.grownBy_setB (Lib.grownBy_setB (Lib.grownBy_setB (Lib.grownBy_setB (Lib.grownBy_setB (World.grownBy.refl w _) _ _) _ _) _ _) _ _) _ _) _ _) _ _
set_option maxHeartbeats 1000000 in
theorem fork_any (g : Nat) (nv : Value) (ss : List St) (k x y : Nat) (w : World) (h : BB w g nv ss) (hk : k < ss.length) :
    Calls Tryz.prog 122 #[.pointer (some ⟨g, 0, none⟩), .int .i64 (k : Int), .int .i64 (x : Int), .int .i64 (y : Int)] w fun e w' => e = .returned (.tuple #[]) ∧ BB w' g nv (ss.set k (stF x y)) ∧ Below g w w' := by
  obtain ⟨sv, hb, hO⟩ := h.of
  obtain ⟨c0, c1, f1⟩ := hb.all
  obtain ⟨r, cap, rfl, hr, hrl, hlc, cur, hh, hcs, htk⟩ := hO.form (by omega)
  have k0 : (0 : Int) ≤ (k : Int) := by omega
  have k1 : (k : Int) < (ss.length : Int) := by omega
  have z0 : w.frozen? ⟨r, k * 7, none⟩ = false := Lib.frozen_of_heap hh _
  have z1 : w.frozen? ⟨r, k * 7 + 1, none⟩ = false := Lib.frozen_of_heap hh _
  have z2 : w.frozen? ⟨r, k * 7 + 2, none⟩ = false := Lib.frozen_of_heap hh _
  have z3 : w.frozen? ⟨r, k * 7 + 3, none⟩ = false := Lib.frozen_of_heap hh _
  have z4' : w.frozen? ⟨r, k * 7 + 4, none⟩ = false := Lib.frozen_of_heap hh _
  have z5 : w.frozen? ⟨r, k * 7 + 5, none⟩ = false := Lib.frozen_of_heap hh _
  have z6 : w.frozen? ⟨r, k * 7 + 6, none⟩ = false := Lib.frozen_of_heap hh _
  have HC : Hid (∃ c : Nat → Value, ∀ t, t < 7 → w.cell? ⟨r, k * 7 + t, none⟩ = some (c t)) := by
    refine ⟨fun t => cur.toList.getD (k * 7 + t) .nilIface, fun t ht => ?_⟩
    have : k * 7 + t < cur.size := by rw [hcs]; omega
    rw [Lib.cell_of_heap hh, Array.getElem?_eq_getElem this]
    simp [List.getD, Array.getElem?_toList, Array.getElem?_eq_getElem this]
  obtain ⟨c, hc⟩ := HC.out
  have y0 := hc 0 (by omega)
  have y1 := hc 1 (by omega)
  have y2 := hc 2 (by omega)
  have y3 := hc 3 (by omega)
  have y4 := hc 4 (by omega)
  have y5 := hc 5 (by omega)
  have y6 := hc 6 (by omega)
  rw [Nat.add_zero] at y0
  have HP : Hid (BB (putSt w r (k * 7) (stF x y)) g nv (ss.set k (stF x y)) ∧ Below g w (putSt w r (k * 7) (stF x y))) := by
    refine ⟨⟨.slice (some ⟨r, 0, none⟩) ss.length cap, ?_, hO.put k hk _⟩, ?_⟩
    · exact ((grown_putSt w r (k * 7) (stF x y)).block g hb.lt (by intro e; injection e with e; omega)).trans hb
    · have hgr := grown_putSt w r (k * 7) (stF x y)
      exact ⟨hgr.os, hgr.tape, hgr.output, hgr.size, fun i hi => hgr.block i (by omega) (by intro e; injection e with e; omega)⟩
  clear hc h hb hO hh htk hcs HC
  go_enter Tryz.func122, Tryz.ntmps122
  go_wp2
  go_end0
  exact ⟨rfl, HP.out⟩
end Go.Proofs.YtejbififfceamaaGreatDoor
namespace Go.Proofs.YtejbififfceamaaGreatDoor
set_option linter.unusedSimpArgs false
set_option linter.unusedVariables false
set_option maxRecDepth 100000
open Go.RowKit
/-- The part at i is built as the tree t says. -/
def BPart (ns : List Nd) (b off cap : Nat) (t : Rx) (i : Nat) : Prop := ∀ (g : Nat) (ss : List St) (w : World), BB w g (.slice (some ⟨b, off, none⟩) ns.length cap) ss → b < g → NsAt w b off ns → ss.length + 2 * t.flat.length ≤ 500 →
  Calls Tryz.prog 70 #[.pointer (some ⟨g, 0, none⟩), .int .i64 (i : Int)] w fun e w' => e = .returned (.int .i64 ((i + t.flat.length : Nat) : Int)) ∧ BB w' g (.slice (some ⟨b, off, none⟩) ns.length cap) (ss ++ t.cod ss.length) ∧ Below g w w'
set_option maxHeartbeats 2000000 in
theorem part_leaf (ns : List Nd) (hl : ns.length ≤ 60) (b off cap i : Nat) (n : Nd) (hn : ns[i]? = some n) (hi : i < ns.length) (hop : n.op = 1 ∨ n.op = 2 ∨ n.op = 8 ∨ n.op = 9) : BPart ns b off cap (.leaf n) i := by
  intro g ss w hB hbg hN hm
  have hml : ss.length ≤ 500 := by omega
  obtain ⟨c0, c1, c2, c3, c4⟩ := hN i n hn
  obtain ⟨a, cap', d0, d1⟩ := hB.read
  have i0 : (0 : Int) ≤ (i : Int) := by omega
  have i1 : (i : Int) < (ns.length : Int) := by omega
  have HL : Hid (((i + (Rx.leaf n).flat.length : Nat) : Int) = (i : Int) + 1) := by show _ = _; simp [Rx.flat]
  rw [HL.out]
  rcases hop with hop | hop | hop | hop
  · have HC : Hid ((Rx.leaf n).cod ss.length = [⟨1, n.c, ((ss.length + 1 : Nat) : Int), 0⟩]) := by show _ = _; simp [Rx.cod, hop]
    rw [hop] at c0
    have HA := hid (add_any g _ ss ⟨1, n.c, ((ss.length + 1 : Nat) : Int), 0⟩ w hB (by omega))
    have hx : Hid ((ss.length : Int) + 1 = ((ss.length + 1 : Nat) : Int)) := by show _ = _; omega
    rw [HC.out]
    clear hN hB
    go_enter Tryz.func70, Tryz.ntmps70
    go_wp2_with fail
    rw [hx.out]
    refine Calls.mono HA.out ?_
    rintro e w1 ⟨rfl, h1, hb1⟩
    go_wp2
    go_ret
    exact ⟨rfl, h1, hb1⟩
  · have HC : Hid ((Rx.leaf n).cod ss.length = []) := by show _ = _; simp [Rx.cod, hop]
    rw [hop] at c0
    rw [HC.out, List.append_nil]
    have HB := hid hB
    clear hN hB
    go_enter Tryz.func70, Tryz.ntmps70
    go_wp2
    go_ret
    exact ⟨rfl, HB.out, Below.refl _ _⟩
  · have HC : Hid ((Rx.leaf n).cod ss.length = [⟨3, z4, ((ss.length + 1 : Nat) : Int), 0⟩]) := by show _ = _; simp [Rx.cod, hop]
    rw [hop] at c0
    have HA := hid (add_any g _ ss ⟨3, z4, ((ss.length + 1 : Nat) : Int), 0⟩ w hB (by omega))
    have hx : Hid ((ss.length : Int) + 1 = ((ss.length + 1 : Nat) : Int)) := by show _ = _; omega
    rw [HC.out]
    clear hN hB
    go_enter Tryz.func70, Tryz.ntmps70
    go_wp2_with fail
    rw [hx.out]
    refine Calls.mono HA.out ?_
    rintro e w1 ⟨rfl, h1, hb1⟩
    go_wp2
    go_ret
    exact ⟨rfl, h1, hb1⟩
  · have HC : Hid ((Rx.leaf n).cod ss.length = [⟨4, z4, ((ss.length + 1 : Nat) : Int), 0⟩]) := by show _ = _; simp [Rx.cod, hop]
    rw [hop] at c0
    have HA := hid (add_any g _ ss ⟨4, z4, ((ss.length + 1 : Nat) : Int), 0⟩ w hB (by omega))
    have hx : Hid ((ss.length : Int) + 1 = ((ss.length + 1 : Nat) : Int)) := by show _ = _; omega
    rw [HC.out]
    clear hN hB
    go_enter Tryz.func70, Tryz.ntmps70
    go_wp2_with fail
    rw [hx.out]
    refine Calls.mono HA.out ?_
    rintro e w1 ⟨rfl, h1, hb1⟩
    go_wp2
    go_ret
    exact ⟨rfl, h1, hb1⟩
end Go.Proofs.YtejbififfceamaaGreatDoor
namespace Go.Proofs.YtejbififfceamaaGreatDoor
set_option linter.unusedSimpArgs false
set_option linter.unusedVariables false
set_option maxRecDepth 100000
open Go.RowKit
theorem set_mid (l r : List St) (x y : St) : (l ++ x :: r).set l.length y = l ++ y :: r := by
  rw [List.set_append_right _ _ (Nat.le_refl _)]
  simp
set_option maxHeartbeats 2000000 in
theorem plus_any (ns : List Nd) (hl : ns.length ≤ 60) (b off cap i : Nat) (hi : i ≤ 60) (a : Rx) (hP : BPart ns b off cap a (i + 1)) (g : Nat) (ss : List St) (w : World) (hB : BB w g (.slice (some ⟨b, off, none⟩) ns.length cap) ss) (hbg : b < g) (hN : NsAt w b off ns) (hm : ss.length + 2 * a.flat.length + 1 ≤ 500) :
    Calls Tryz.prog 98 #[.pointer (some ⟨g, 0, none⟩), .int .i64 (i : Int)] w fun e w' => e = .returned (.int .i64 ((i + 1 + a.flat.length : Nat) : Int)) ∧ BB w' g (.slice (some ⟨b, off, none⟩) ns.length cap) (ss ++ (a.cod ss.length ++ [stF ss.length (ss.length + (a.cod ss.length).length + 1)])) ∧ Below g w w' := by
  obtain ⟨a', cap', d0, d1⟩ := hB.read
  have hcl := a.cod_len ss.length
  have HP := hid (hP g ss w hB hbg hN (by omega))
  have hx : Hid ((i : Int) + 1 = ((i + 1 : Nat) : Int)) := by show _ = _; omega
  clear hB hN hP
  go_enter Tryz.func98, Tryz.ntmps98
  go_wp2_with fail
  rw [hx.out]
  refine Calls.mono HP.out ?_
  rintro e w1 ⟨rfl, h1, hb1⟩
  have HH := hid (hold_any g _ _ w1 h1 (by rw [List.length_append]; omega))
  have HL1 := hid hb1
  clear h1 hb1 HP
  go_wp2_with fail
  refine Calls.mono HH.out ?_
  rintro e w2 ⟨rfl, h2, hb2⟩
  have HF := hid (fork_any g _ _ (ss ++ a.cod ss.length).length ss.length ((ss ++ a.cod ss.length).length + 1) w2 h2 (by simp))
  have HL2 := hid (HL1.out.trans hb2)
  have hk : (ss ++ a.cod ss.length).length ≤ 500 := by rw [List.length_append]; omega
  have hy : Hid ((((ss ++ a.cod ss.length).length : Nat) : Int) + 1 = (((ss ++ a.cod ss.length).length + 1 : Nat) : Int)) := by show _ = _; omega
  have HS : Hid (((ss ++ a.cod ss.length) ++ [stZ]).set (ss ++ a.cod ss.length).length (stF ss.length ((ss ++ a.cod ss.length).length + 1)) = ss ++ (a.cod ss.length ++ [stF ss.length (ss.length + (a.cod ss.length).length + 1)])) := by
    show _ = _
    rw [set_mid, List.append_assoc, List.length_append]
  rw [HS.out] at HF
  generalize (ss ++ a.cod ss.length).length = K at *
  clear h2 hb2 HH HL1 HS
  go_wp2_with fail
  rw [hy.out]
  refine Calls.mono HF.out ?_
  rintro e w3 ⟨rfl, h3, hb3⟩
  have H3 := hid h3
  have HL3 := hid (HL2.out.trans hb3)
  clear h3 hb3 HF
  go_wp2
  go_ret
  exact ⟨rfl, H3.out, HL3.out⟩
/-- A list that was held open at its first new place, and filled. -/
theorem set_held (l A : List St) (y : St) : (l ++ [stZ] ++ A).set l.length y = l ++ y :: A := by
  rw [List.append_assoc, List.singleton_append, set_mid]
set_option maxHeartbeats 2000000 in
theorem opt_any (ns : List Nd) (hl : ns.length ≤ 60) (b off cap i : Nat) (hi : i ≤ 60) (a : Rx) (hP : BPart ns b off cap a (i + 1)) (g : Nat) (ss : List St) (w : World) (hB : BB w g (.slice (some ⟨b, off, none⟩) ns.length cap) ss) (hbg : b < g) (hN : NsAt w b off ns) (hm : ss.length + 2 * a.flat.length + 1 ≤ 500) (K : Nat) (hK : K = ss.length + 1 + (a.cod (ss.length + 1)).length) :
    Calls Tryz.prog 99 #[.pointer (some ⟨g, 0, none⟩), .int .i64 (i : Int)] w fun e w' => e = .returned (.int .i64 ((i + 1 + a.flat.length : Nat) : Int)) ∧ BB w' g (.slice (some ⟨b, off, none⟩) ns.length cap) (ss ++ stF (ss.length + 1) K :: a.cod (ss.length + 1)) ∧ Below g w w' := by
  have hcl := a.cod_len (ss.length + 1)
  have HH := hid (hold_any g _ ss w hB (by omega))
  have HN := hid hN
  have HP := hid hP
  have HK := hid hK
  have hx : Hid ((i : Int) + 1 = ((i + 1 : Nat) : Int)) := by show _ = _; omega
  clear hB hN hP hK
  go_enter Tryz.func99, Tryz.ntmps99
  go_wp2_with fail
  refine Calls.mono HH.out ?_
  rintro e w1 ⟨rfl, h1, hb1⟩
  have HP1 := hid (HP.out g (ss ++ [stZ]) w1 h1 hbg (HN.out.below hb1 hbg) (by simp; omega))
  have HL1 := hid hb1
  rw [show (ss ++ [stZ]).length = ss.length + 1 from by simp] at HP1
  clear h1 hb1 HH HP
  go_wp2_with fail
  rw [hx.out]
  refine Calls.mono HP1.out ?_
  rintro e w2 ⟨rfl, h2, hb2⟩
  obtain ⟨a', cap', d0, d1⟩ := h2.read
  have HF := hid (fork_any g _ _ ss.length (ss.length + 1) K w2 h2 (by first | (simp; done) | (simp; omega)))
  rw [set_held] at HF
  have HL2 := hid (HL1.out.trans hb2)
  rw [show (ss ++ [stZ] ++ a.cod (ss.length + 1)).length = K from by have := HK.out; first | (simp; done) | (simp; omega)] at d1
  have hy : Hid (((ss.length : Nat) : Int) + 1 = ((ss.length + 1 : Nat) : Int)) := by show _ = _; omega
  have hk : K ≤ 500 := by have := HK.out; omega
  clear h2 hb2 HL1 HP1 d0
  go_wp2_with fail
  rw [hy.out]
  refine Calls.mono HF.out ?_
  rintro e w3 ⟨rfl, h3, hb3⟩
  have H3 := hid h3
  have HL3 := hid (HL2.out.trans hb3)
  clear h3 hb3 HF
  go_wp2
  go_ret
  exact ⟨rfl, H3.out, HL3.out⟩
set_option maxHeartbeats 2000000 in
theorem star_any (ns : List Nd) (hl : ns.length ≤ 60) (b off cap i : Nat) (hi : i ≤ 60) (a : Rx) (hP : BPart ns b off cap a (i + 1)) (g : Nat) (ss : List St) (w : World) (hB : BB w g (.slice (some ⟨b, off, none⟩) ns.length cap) ss) (hbg : b < g) (hN : NsAt w b off ns) (hm : ss.length + 2 * a.flat.length + 2 ≤ 500) (K : Nat) (hK : K = ss.length + 1 + (a.cod (ss.length + 1)).length + 1) :
    Calls Tryz.prog 97 #[.pointer (some ⟨g, 0, none⟩), .int .i64 (i : Int)] w fun e w' => e = .returned (.int .i64 ((i + 1 + a.flat.length : Nat) : Int)) ∧ BB w' g (.slice (some ⟨b, off, none⟩) ns.length cap) (ss ++ stF (ss.length + 1) K :: (a.cod (ss.length + 1) ++ [stF (ss.length + 1) K])) ∧ Below g w w' := by
  have hcl := a.cod_len (ss.length + 1)
  have HH := hid (hold_any g _ ss w hB (by omega))
  have HN := hid hN
  have HP := hid hP
  have HK := hid hK
  clear hB hN hP hK
  go_enter Tryz.func97, Tryz.ntmps97
  go_wp2_with fail
  refine Calls.mono HH.out ?_
  rintro e w1 ⟨rfl, h1, hb1⟩
  have HP1 := hid (plus_any ns hl b off cap i hi a HP.out g (ss ++ [stZ]) w1 h1 hbg (HN.out.below hb1 hbg) (by simp; omega))
  have HL1 := hid hb1
  rw [show (ss ++ [stZ]).length = ss.length + 1 from by simp, ← HK.out] at HP1
  clear h1 hb1 HH HP
  go_wp2_with fail
  refine Calls.mono HP1.out ?_
  rintro e w2 ⟨rfl, h2, hb2⟩
  obtain ⟨a', cap', d0, d1⟩ := h2.read
  have HF := hid (fork_any g _ _ ss.length (ss.length + 1) K w2 h2 (by first | (simp; done) | (simp; omega)))
  rw [set_held] at HF
  have HL2 := hid (HL1.out.trans hb2)
  rw [show (ss ++ [stZ] ++ (a.cod (ss.length + 1) ++ [stF (ss.length + 1) K])).length = K from by have := HK.out; first | (simp; done) | (simp; omega)] at d1
  have hy : Hid (((ss.length : Nat) : Int) + 1 = ((ss.length + 1 : Nat) : Int)) := by show _ = _; omega
  have hk : K ≤ 500 := by have := HK.out; omega
  clear h2 hb2 HL1 HP1 d0
  go_wp2_with fail
  rw [hy.out]
  refine Calls.mono HF.out ?_
  rintro e w3 ⟨rfl, h3, hb3⟩
  have H3 := hid h3
  have HL3 := hid (HL2.out.trans hb3)
  clear h3 hb3 HF
  go_wp2
  go_ret
  exact ⟨rfl, H3.out, HL3.out⟩
set_option maxHeartbeats 4000000 in
theorem or_any (ns : List Nd) (hl : ns.length ≤ 60) (b off cap i : Nat) (hi : i ≤ 60) (a c : Rx) (hP : BPart ns b off cap a (i + 1)) (hQ : BPart ns b off cap c (i + 1 + a.flat.length)) (hal : a.flat.length ≤ 60) (g : Nat) (ss : List St) (w : World) (hB : BB w g (.slice (some ⟨b, off, none⟩) ns.length cap) ss) (hbg : b < g) (hN : NsAt w b off ns) (hm : ss.length + 2 * a.flat.length + 2 * c.flat.length + 2 ≤ 500) (A C : List St) (p2 E : Nat) (hA : A = a.cod (ss.length + 1)) (hp2 : p2 = ss.length + 1 + A.length + 1) (hC : C = c.cod p2) (hE : E = p2 + C.length) :
    Calls Tryz.prog 96 #[.pointer (some ⟨g, 0, none⟩), .int .i64 (i : Int)] w fun e w' => e = .returned (.int .i64 ((i + 1 + a.flat.length + c.flat.length : Nat) : Int)) ∧ BB w' g (.slice (some ⟨b, off, none⟩) ns.length cap) (ss ++ stF (ss.length + 1) p2 :: (A ++ stF E E :: C)) ∧ Below g w w' := by
  have hcl := a.cod_len (ss.length + 1)
  have hcl2 := c.cod_len p2
  rw [← hA] at hcl
  rw [← hC] at hcl2
  have hpb : p2 ≤ 500 := by omega
  have hEb : E ≤ 500 := by omega
  have HH := hid (hold_any g _ ss w hB (by omega))
  have HN := hid hN
  have HP := hid hP
  have HQ := hid hQ
  have hx : Hid ((i : Int) + 1 = ((i + 1 : Nat) : Int)) := by show _ = _; omega
  have HE2 := hid hp2
  have HE3 := hid hE
  have HA := hid hA
  have HC := hid hC
  clear hB hN hP hQ hp2 hE hA hC
  go_enter Tryz.func96, Tryz.ntmps96
  go_wp2_with fail
  refine Calls.mono HH.out ?_
  rintro e w1 ⟨rfl, h1, hb1⟩
  have HP1 := hid (HP.out g (ss ++ [stZ]) w1 h1 hbg (HN.out.below hb1 hbg) (by simp; omega))
  have HL1 := hid hb1
  rw [show (ss ++ [stZ]).length = ss.length + 1 from by simp] at HP1
  clear h1 hb1 HH HP
  go_wp2_with fail
  rw [hx.out]
  refine Calls.mono HP1.out ?_
  rintro e w2 ⟨rfl, h2, hb2⟩
  rw [← HA.out] at h2
  obtain ⟨L, HL⟩ : ∃ L, Hid (L = ss.length + 1 + A.length) := ⟨_, Eq.refl _⟩
  have hLe : (ss ++ [stZ] ++ A).length = L := by rw [HL.out]; simp; omega
  have hLb : L ≤ 500 := by have := HL.out; omega
  have HH2 := hid (hold_any g _ _ w2 h2 (by omega))
  rw [hLe] at HH2
  have HL2 := hid (HL1.out.trans hb2)
  clear h2 hb2 HL1 HP1
  go_wp2_with fail
  refine Calls.mono HH2.out ?_
  rintro e w3 ⟨rfl, h3, hb3⟩
  have HF := hid (fork_any g _ _ ss.length (ss.length + 1) (L + 1) w3 h3 (by first | (simp; done) | (simp; omega)))
  rw [show ss ++ [stZ] ++ A ++ [stZ] = ss ++ [stZ] ++ (A ++ [stZ]) from by simp, set_held] at HF
  have HL3 := hid (HL2.out.trans hb3)
  have hy : Hid (((ss.length : Nat) : Int) + 1 = ((ss.length + 1 : Nat) : Int)) := by show _ = _; omega
  have hz : Hid (((L : Nat) : Int) + 1 = ((L + 1 : Nat) : Int)) := by show _ = _; omega
  have hsl : ss.length ≤ 500 := by omega
  clear h3 hb3 HL2 HH2
  go_wp2_with fail
  rw [hy.out, hz.out]
  refine Calls.mono HF.out ?_
  rintro e w4 ⟨rfl, h4, hb4⟩
  have HL4 := hid (HL3.out.trans hb4)
  have HP4 := hid (HQ.out g _ w4 h4 hbg (HN.out.below HL4.out hbg) (by have := HL.out; simp; omega))
  rw [show (ss ++ stF (ss.length + 1) (L + 1) :: (A ++ [stZ])).length = p2 from by have := HL.out; have := HE2.out; simp; omega] at HP4
  clear h4 hb4 HL3 HF HQ
  go_wp2_with fail
  refine Calls.mono HP4.out ?_
  rintro e w5 ⟨rfl, h5, hb5⟩
  rw [← HC.out] at h5
  have hLp : L + 1 = p2 := by have := HL.out; have := HE2.out; omega
  obtain ⟨a', cap', d0, d1⟩ := h5.read
  have HS : Hid ((ss ++ stF (ss.length + 1) (L + 1) :: (A ++ [stZ]) ++ C).set L (stF E E) = ss ++ stF (ss.length + 1) p2 :: (A ++ stF E E :: C)) := by
    show _ = _
    rw [show ss ++ stF (ss.length + 1) (L + 1) :: (A ++ [stZ]) ++ C = (ss ++ stF (ss.length + 1) p2 :: A) ++ stZ :: C from by rw [hLp]; simp]
    have hL2 : L = (ss ++ stF (ss.length + 1) p2 :: A).length := by have := HL.out; simp; omega
    rw [hL2, set_mid]
    simp
  have HL5 := hid (HL4.out.trans hb5)
  have HF5 : Hid (∀ W, Below w5.heap.size w5 W → Calls Tryz.prog 122 #[.pointer (some ⟨g, 0, none⟩), .int .i64 (L : Int), .int .i64 (E : Int), .int .i64 (E : Int)] W fun e w' => e = .returned (.tuple #[]) ∧ BB w' g (.slice (some ⟨b, off, none⟩) ns.length cap) (ss ++ stF (ss.length + 1) p2 :: (A ++ stF E E :: C)) ∧ Below g w w') := by
    intro W hW
    have hf := fork_any g _ _ L E E W (h5.below hW) (by have := HL.out; simp; omega)
    rw [HS.out] at hf
    refine hf.mono ?_
    rintro e w' ⟨rfl, h6, hb6⟩
    exact ⟨rfl, h6, (HL5.out.trans (hW.mono (Nat.le_of_lt h5.lt))).trans hb6⟩
  rw [show (ss ++ stF (ss.length + 1) (L + 1) :: (A ++ [stZ]) ++ C).length = E from by have := HL.out; have := HE3.out; simp; omega] at d1
  clear h5 hb5 HL4 HP4 d0 HS hLp hLe HL5
  go_wp2_with fail
  go_region_with (go_at_call 122; refine Calls.mono (HF5.out _ (below_drewN' w5 1)) ?_; rintro e w6 ⟨rfl, h6, hb6⟩)
  all_goals have H6 := hid h6
  all_goals have HL6 := hid hb6
  all_goals clear h6 hb6 HF5
  all_goals go_wp2
  all_goals go_ret
  all_goals refine ⟨?_, H6.out, HL6.out⟩
  all_goals first | rfl | (congr 1; simp; done) | trace_state
end Go.Proofs.YtejbififfceamaaGreatDoor
namespace Go.Proofs.YtejbififfceamaaGreatDoor
set_option linter.unusedSimpArgs false
set_option linter.unusedVariables false
set_option maxRecDepth 100000
open Go.RowKit
set_option maxHeartbeats 4000000 in
theorem part_one (ns : List Nd) (hl : ns.length ≤ 60) (b off cap i : Nat) (n : Nd) (a : Rx) (hn : ns[i]? = some n) (hi : i < ns.length) (hop : n.op = 5 ∨ n.op = 6 ∨ n.op = 7) (hP : BPart ns b off cap a (i + 1)) : BPart ns b off cap (.one n a) i := by
  intro g ss w hB hbg hN hm
  have hml : ss.length ≤ 500 := by omega
  obtain ⟨c0, c1, c2, c3, c4⟩ := hN i n hn
  obtain ⟨x', cap', d0, d1⟩ := hB.read
  have i0 : (0 : Int) ≤ (i : Int) := by omega
  have i1 : (i : Int) < (ns.length : Int) := by omega
  have hfl : (Rx.one n a).flat.length = 1 + a.flat.length := by simp [Rx.flat]; omega
  have HL : Hid ((i + (Rx.one n a).flat.length : Nat) = i + 1 + a.flat.length) := by show _ = _; rw [hfl]; omega
  rw [HL.out]
  rcases hop with hop | hop | hop
  · have HC : Hid ((Rx.one n a).cod ss.length = stF (ss.length + 1) (ss.length + 1 + (a.cod (ss.length + 1)).length + 1) :: (a.cod (ss.length + 1) ++ [stF (ss.length + 1) (ss.length + 1 + (a.cod (ss.length + 1)).length + 1)])) := by show _ = _; simp [Rx.cod, hop]
    have HA := hid (star_any ns hl b off cap i (by omega) a hP g ss w hB hbg hN (by omega) _ rfl)
    rw [hop] at c0
    rw [HC.out]
    clear hN hB hP HC HL hfl
    go_enter Tryz.func70, Tryz.ntmps70
    go_wp2_with fail
    refine Calls.mono HA.out ?_
    rintro e w1 ⟨rfl, h1, hb1⟩
    have H1 := hid h1
    have HB1 := hid hb1
    clear h1 hb1 HA
    go_wp2
    go_ret
    exact ⟨rfl, H1.out, HB1.out⟩
  · have HC : Hid ((Rx.one n a).cod ss.length = a.cod ss.length ++ [stF ss.length (ss.length + (a.cod ss.length).length + 1)]) := by show _ = _; simp [Rx.cod, hop]
    have HA := hid (plus_any ns hl b off cap i (by omega) a hP g ss w hB hbg hN (by omega))
    rw [hop] at c0
    rw [HC.out]
    clear hN hB hP HC HL hfl
    go_enter Tryz.func70, Tryz.ntmps70
    go_wp2_with fail
    refine Calls.mono HA.out ?_
    rintro e w1 ⟨rfl, h1, hb1⟩
    have H1 := hid h1
    have HB1 := hid hb1
    clear h1 hb1 HA
    go_wp2
    go_ret
    exact ⟨rfl, H1.out, HB1.out⟩
  · have HC : Hid ((Rx.one n a).cod ss.length = stF (ss.length + 1) (ss.length + 1 + (a.cod (ss.length + 1)).length) :: a.cod (ss.length + 1)) := by show _ = _; simp [Rx.cod, hop]
    have HA := hid (opt_any ns hl b off cap i (by omega) a hP g ss w hB hbg hN (by omega) _ rfl)
    rw [hop] at c0
    rw [HC.out]
    clear hN hB hP HC HL hfl
    go_enter Tryz.func70, Tryz.ntmps70
    go_wp2_with fail
    refine Calls.mono HA.out ?_
    rintro e w1 ⟨rfl, h1, hb1⟩
    have H1 := hid h1
    have HB1 := hid hb1
    clear h1 hb1 HA
    go_wp2
    go_ret
    exact ⟨rfl, H1.out, HB1.out⟩
set_option maxHeartbeats 4000000 in
theorem part_or (ns : List Nd) (hl : ns.length ≤ 60) (b off cap i : Nat) (n : Nd) (a c : Rx) (hn : ns[i]? = some n) (hi : i < ns.length) (hop : n.op = 4) (hal : a.flat.length ≤ 60) (hP : BPart ns b off cap a (i + 1)) (hQ : BPart ns b off cap c (i + 1 + a.flat.length)) : BPart ns b off cap (.two n a c) i := by
  intro g ss w hB hbg hN hm
  have hml : ss.length ≤ 500 := by omega
  obtain ⟨c0, c1, c2, c3, c4⟩ := hN i n hn
  obtain ⟨x', cap', d0, d1⟩ := hB.read
  have i0 : (0 : Int) ≤ (i : Int) := by omega
  have i1 : (i : Int) < (ns.length : Int) := by omega
  have hfl : (Rx.two n a c).flat.length = 1 + a.flat.length + c.flat.length := by simp [Rx.flat]; omega
  have HL : Hid ((i + (Rx.two n a c).flat.length : Nat) = i + 1 + a.flat.length + c.flat.length) := by show _ = _; rw [hfl]; omega
  rw [HL.out]
  · have HA := hid (or_any ns hl b off cap i (by omega) a c hP hQ hal g ss w hB hbg hN (by omega) _ _ _ _ rfl rfl rfl rfl)
    have HC : Hid ((Rx.two n a c).cod ss.length = stF (ss.length + 1) (ss.length + 1 + (a.cod (ss.length + 1)).length + 1) :: (a.cod (ss.length + 1) ++ (stF (ss.length + 1 + (a.cod (ss.length + 1)).length + 1 + (c.cod (ss.length + 1 + (a.cod (ss.length + 1)).length + 1)).length) (ss.length + 1 + (a.cod (ss.length + 1)).length + 1 + (c.cod (ss.length + 1 + (a.cod (ss.length + 1)).length + 1)).length) :: c.cod (ss.length + 1 + (a.cod (ss.length + 1)).length + 1)))) := by show _ = _; simp [Rx.cod, hop]
    rw [hop] at c0
    rw [HC.out]
    clear hN hB hP hQ HC HL hfl
    go_enter Tryz.func70, Tryz.ntmps70
    go_wp2_with fail
    refine Calls.mono HA.out ?_
    rintro e w1 ⟨rfl, h1, hb1⟩
    have H1 := hid h1
    have HB1 := hid hb1
    clear h1 hb1 HA
    go_wp2
    go_ret
    exact ⟨rfl, H1.out, HB1.out⟩
set_option maxHeartbeats 4000000 in
theorem part_cat (ns : List Nd) (hl : ns.length ≤ 60) (b off cap i : Nat) (n : Nd) (a c : Rx) (hn : ns[i]? = some n) (hi : i < ns.length) (hop : n.op = 3) (hal : a.flat.length ≤ 60) (hP : BPart ns b off cap a (i + 1)) (hQ : BPart ns b off cap c (i + 1 + a.flat.length)) : BPart ns b off cap (.two n a c) i := by
  intro g ss w hB hbg hN hm
  have hml : ss.length ≤ 500 := by omega
  obtain ⟨c0, c1, c2, c3, c4⟩ := hN i n hn
  obtain ⟨x', cap', d0, d1⟩ := hB.read
  have i0 : (0 : Int) ≤ (i : Int) := by omega
  have i1 : (i : Int) < (ns.length : Int) := by omega
  have hfl : (Rx.two n a c).flat.length = 1 + a.flat.length + c.flat.length := by simp [Rx.flat]; omega
  have HL : Hid ((i + (Rx.two n a c).flat.length : Nat) = i + 1 + a.flat.length + c.flat.length) := by show _ = _; rw [hfl]; omega
  rw [HL.out]
  have hcl := a.cod_len ss.length
  have HA := hid (hP g ss w hB hbg hN (by omega))
  have HC : Hid ((Rx.two n a c).cod ss.length = a.cod ss.length ++ c.cod (ss.length + (a.cod ss.length).length)) := by show _ = _; simp [Rx.cod, hop]
  have hx : Hid ((i : Int) + 1 = ((i + 1 : Nat) : Int)) := by show _ = _; omega
  have HN := hid hN
  have HQ := hid hQ
  rw [hop] at c0
  rw [HC.out]
  clear hN hB hP hQ HC HL
  go_enter Tryz.func70, Tryz.ntmps70
  go_wp2_with fail
  rw [hx.out]
  refine Calls.mono HA.out ?_
  rintro e w1 ⟨rfl, h1, hb1⟩
  have HQ1 := hid (HQ.out g _ w1 h1 hbg (HN.out.below hb1 hbg) (by rw [List.length_append]; omega))
  rw [List.length_append, List.append_assoc] at HQ1
  have HB1 := hid hb1
  clear h1 hb1 HA HQ HN
  go_wp2_with fail
  refine Calls.mono HQ1.out ?_
  rintro e w2 ⟨rfl, h2, hb2⟩
  have H2 := hid h2
  have HB2 := hid (HB1.out.trans hb2)
  clear h2 hb2 HQ1 HB1
  go_wp2
  go_ret
  exact ⟨rfl, H2.out, HB2.out⟩
/-- Every part of a valid pattern is built. -/
theorem bpart_tree (b off cap : Nat) : ∀ (t : Rx), t.Ok → ∀ (p q : List Nd), (∀ n ∈ t.flat, 1 ≤ n.op ∧ n.op ≤ 9) → (p ++ t.flat ++ q).length ≤ 60 → BPart (p ++ t.flat ++ q) b off cap t p.length
  | .leaf n, h, p, q, ho, hl => by
    have hn : (p ++ (Rx.leaf n).flat ++ q)[p.length]? = some n := by simp [Rx.flat]
    have h1 := ho n (by simp [Rx.flat])
    refine part_leaf _ hl b off cap p.length n hn (by simp [Rx.flat]) ?_
    have h0 : prt n.op = 0 := h
    have h2 : ¬ prt n.op = 2 := by omega
    have h3 : ¬ prt n.op = 1 := by omega
    rw [prt_two] at h2
    rw [prt_one] at h3
    omega
  | .one n a, h, p, q, ho, hl => by
    have e : p ++ (Rx.one n a).flat ++ q = (p ++ [n]) ++ a.flat ++ q := by simp [Rx.flat]
    have ih := bpart_tree b off cap a h.2 (p ++ [n]) q (fun m hm => ho m (by simp [Rx.flat, hm])) (by rw [← e]; exact hl)
    rw [← e, show (p ++ [n]).length = p.length + 1 from by simp] at ih
    exact part_one _ hl b off cap p.length n a (by simp [Rx.flat]) (by simp [Rx.flat]) ((prt_one n.op).1 h.1) ih
  | .two n a c, h, p, q, ho, hl => by
    have e1 : p ++ (Rx.two n a c).flat ++ q = (p ++ [n]) ++ a.flat ++ (c.flat ++ q) := by simp [Rx.flat]
    have e2 : p ++ (Rx.two n a c).flat ++ q = (p ++ [n] ++ a.flat) ++ c.flat ++ q := by simp [Rx.flat]
    have ih1 := bpart_tree b off cap a h.2.1 (p ++ [n]) (c.flat ++ q) (fun m hm => ho m (by simp [Rx.flat, hm])) (by rw [← e1]; exact hl)
    have ih2 := bpart_tree b off cap c h.2.2 (p ++ [n] ++ a.flat) q (fun m hm => ho m (by simp [Rx.flat, hm])) (by rw [← e2]; exact hl)
    rw [← e1, show (p ++ [n]).length = p.length + 1 from by simp] at ih1
    rw [← e2, show (p ++ [n] ++ a.flat).length = p.length + 1 + a.flat.length from by simp; omega] at ih2
    have hal : a.flat.length ≤ 60 := by
      rw [e1] at hl
      simp at hl
      omega
    rcases (prt_two n.op).1 h.1 with hop | hop
    · exact part_cat _ hl b off cap p.length n a c (by simp [Rx.flat]) (by simp [Rx.flat]) hop hal ih1 ih2
    · exact part_or _ hl b off cap p.length n a c (by simp [Rx.flat]) (by simp [Rx.flat]) hop hal ih1 ih2
end Go.Proofs.YtejbififfceamaaGreatDoor
