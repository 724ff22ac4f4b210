/- Package sim: the closure that goes on to all that can be come to later. Package sim: Later. Package sim: Begin. -/
import Derived.Test.YteeamifjldoihaaDoorY07
import Derived.Test.YteeamifjldoihaaDoorY08
import Derived.Laws.EntriesVeiled
import Derived.Deep.RegionHeld3
namespace Go.Proofs.YteeamifjldoihaaDoor
set_option linter.unusedSimpArgs false
set_option linter.unusedVariables false
set_option maxRecDepth 100000
open Go.RowKit
/-- A program, and where the closure's variables lie. -/
structure Lc where
  ss : List St
  b : Nat
  off : Nat
  cap : Nat
  bf : Nat
  bw : Nat
  bv : Nat
structure Lc.Good (c : Lc) : Prop where
  fault : stepsF c.ss = 0
  fb : c.bf ≠ c.b
  fw : c.bf ≠ c.bw
  fv : c.bf ≠ c.bv
/-- The closure's value. -/
abbrev Lc.v (c : Lc) : Value := .func (.func 46) #[] #[.pointer (some ⟨c.bf, 0, none⟩), .pointer (some ⟨c.bw, 0, none⟩), .pointer (some ⟨c.bv, 0, none⟩)]
/-- In w the steps S have been come to. -/
structure Lc.At (c : Lc) (w : World) (S : List Nat) : Prop where
  steps : SsAt w c.b c.off c.ss
  r0 : w.cell? ⟨c.bw, 0, none⟩ = some (.slice (some ⟨c.b, c.off, none⟩) c.ss.length c.cap)
  v0 : w.cell? ⟨c.bv, 0, none⟩ = some c.v
  found : Hq w c.bf (fun j => decide (j ∈ S))
  nod : S.Nodup
  lt : ∀ x ∈ S, x < c.ss.length
  blt : c.b < w.heap.size
theorem Lc.At.len {c : Lc} {w : World} {S : List Nat} (h : c.At w S) : S.length ≤ c.ss.length := nodup_le _ _ h.nod h.lt
/-- Only the box of what is found is turned. -/
theorem Lc.At.turn {c : Lc} (hc : c.Good) {w w' : World} {S S' : List Nat} (h : c.At w S) (hg : w.grownBy w' (some c.bf)) (hf : Hq w' c.bf (fun j => decide (j ∈ S'))) (hn : S'.Nodup) (hl : ∀ x ∈ S', x < c.ss.length) : c.At w' S' := by
  have key : ∀ k o v, c.bf ≠ k → w.cell? ⟨k, o, none⟩ = some v → w'.cell? ⟨k, o, none⟩ = some v := fun k o v hk hv =>
    (World.cell?_of_block (a := ⟨k, o, none⟩) (hg.block k (cell_lt hv) (by intro e; injection e with e; exact hk e.symm))).trans hv
  exact ⟨h.steps.grown hg h.blt (by intro e; injection e with e; exact hc.fb e.symm), key _ _ _ hc.fw h.r0, key _ _ _ hc.fv h.v0, hf, hn, hl, Nat.lt_of_lt_of_le h.blt hg.size⟩
theorem Lc.At.below {c : Lc} {w w' : World} {S : List Nat} (h : c.At w S) (hb : Below w.heap.size w w') : c.At w' S where
  steps := h.steps.below hb h.blt
  r0 := (hb.cell (p := ⟨c.bw, 0, none⟩) (cell_lt h.r0)).trans h.r0
  v0 := (hb.cell (p := ⟨c.bv, 0, none⟩) (cell_lt h.v0)).trans h.v0
  found := h.found.below hb h.found.lt
  nod := h.nod
  lt := h.lt
  blt := Nat.lt_of_lt_of_le h.blt hb.size
/-- What it leaves, entered at k. -/
def LvP (c : Lc) (S : List Nat) (K : List Nat) (w : World) (e : Ending) (w' : World) : Prop := ∃ v S', e = .returned v ∧ c.At w' S' ∧ Vsg (Nx c.ss) S S' K ∧ w.grownBy w' (some c.bf)
/-- The closure keeps its word while so many steps are left. -/
def LvOk (c : Lc) (f : Nat) : Prop := ∀ (S : List Nat) (k : Nat) (w : World), c.ss.length ≤ S.length + f → k < c.ss.length → c.At w S → Calls Tryd.prog 46 #[.int .i64 (k : Int), .pointer (some ⟨c.bf, 0, none⟩), .pointer (some ⟨c.bw, 0, none⟩), .pointer (some ⟨c.bv, 0, none⟩)] w (LvP c S [k] w)
set_option maxHeartbeats 4000000 in
theorem lvisit_seen (c : Lc) (hc : c.Good) (S : List Nat) (k : Nat) (w : World) (hkl : k < c.ss.length) (h : c.At w S) (hk : k ∈ S) : Calls Tryd.prog 46 #[.int .i64 (k : Int), .pointer (some ⟨c.bf, 0, none⟩), .pointer (some ⟨c.bw, 0, none⟩), .pointer (some ⟨c.bv, 0, none⟩)] w (LvP c S [k] w) := by
  obtain ⟨h200, hpos, hst⟩ := stepsF_zero hc.fault
  obtain ⟨p, hp⟩ : ∃ p, p = fun j => decide (j ∈ S) := ⟨_, rfl⟩
  have hpk : p k = true := by rw [hp]; simp [hk]
  have hF := h.found
  rw [← hp] at hF
  have C1 := hid (shas_any p k (by omega) w)
  rw [hpk] at C1
  obtain ⟨c0, c1, c2, c3⟩ := hF.all
  have HP : Hid (∀ v w1, Below w.heap.size w w1 → LvP c S [k] w (.returned v) w1) := fun v w1 hb => ⟨v, S, rfl, h.below hb, Vsg.refl _ _ _ (fun x hx => by rw [List.mem_singleton.1 hx]; exact hk), gr_below hb _⟩
  unfold stV at C1
  clear h hst hF hp
  go_enter Tryd.func46, Tryd.ntmps46
  go_wp2_with fail
  refine Calls.mono C1.out ?_
  rintro e w1 ⟨rfl, hb⟩
  go_wp2
  first | go_end0 | go_ret
  exact HP.out _ _ hb
set_option maxHeartbeats 8000000 in
theorem lvisit_new (c : Lc) (hc : c.Good) (f : Nat) (ih : LvOk c f) (S : List Nat) (k : Nat) (w : World) (hfu : c.ss.length ≤ S.length + (f + 1)) (hkl : k < c.ss.length) (h : c.At w S) (hk : ¬ k ∈ S) : Calls Tryd.prog 46 #[.int .i64 (k : Int), .pointer (some ⟨c.bf, 0, none⟩), .pointer (some ⟨c.bw, 0, none⟩), .pointer (some ⟨c.bv, 0, none⟩)] w (LvP c S [k] w) := by
  obtain ⟨h200, hpos, hst⟩ := stepsF_zero hc.fault
  obtain ⟨n, hn⟩ : ∃ n, c.ss[k]? = some n := ⟨c.ss[k], List.getElem?_eq_getElem hkl⟩
  have HRG := hid (hst n (List.mem_of_getElem? hn)).1
  obtain ⟨p, hp⟩ : ∃ p, p = fun j => decide (j ∈ S) := ⟨_, rfl⟩
  have hpk : p k = false := by rw [hp]; simp [hk]
  have hF := h.found
  rw [← hp] at hF
  have C1 := hid (shas_any p k (by omega) w)
  rw [hpk] at C1
  have C2 := hid (fun w1 => swith_any p k (by omega) w1)
  obtain ⟨c0, c1, c2, c3⟩ := hF.all
  have HH := hid h
  have HF := hid hF
  have HN := hid hn
  have HIH := hid ih
  have HC := hid hc
  have HKK := hid hk
  have HPP := hid hp
  unfold stV at C1 C2
  clear h hst hF hp ih hc hk hn
  go_enter Tryd.func46, Tryd.ntmps46
  go_wp2_with fail
  refine Calls.mono C1.out ?_
  rintro e w1 ⟨rfl, hb1⟩
  have hF1 := HF.out.below hb1 HF.out.lt
  obtain ⟨d0, d1, d2, d3⟩ := hF1.all
  have HB1 := hid hb1
  have HF1 := hid hF1
  clear hb1 hF1 c0 c1 c2 c3 C1
  go_wp2_with fail
  refine Calls.mono (C2.out w1) ?_
  rintro e w2 ⟨rfl, hb2⟩
  have hF2 := HF1.out.below hb2 HF1.out.lt
  obtain ⟨c0, c1, c2, c3⟩ := hF2.all
  obtain ⟨f0, f1, f2, f3⟩ := hF2.frz
  have hb : Below w.heap.size w w2 := HB1.out.trans (hb2.mono HB1.out.size)
  have hA2 := HH.out.below hb
  obtain ⟨W4, hW4⟩ : ∃ W4, putS w2 c.bf (withP p k) = W4 := ⟨_, rfl⟩
  have hg4 : w.grownBy W4 (some c.bf) := by rw [← hW4]; exact (gr_below hb _).trans (grown_putS _ _ _)
  have hA4 : c.At W4 (S ++ [k]) := by
    refine hA2.turn HC.out (w' := W4) (by rw [← hW4]; exact grown_putS _ _ _) ?_ ?_ ?_
    · rw [← hW4, ← withP_snoc, ← HPP.out]
      exact hF2.putS _
    · rw [List.nodup_append]
      refine ⟨HH.out.nod, by simp, fun x hx y hy => ?_⟩
      rw [List.mem_singleton.1 hy]
      intro e
      exact HKK.out (e ▸ hx)
    · intro x hx
      rcases List.mem_append.1 hx with hx | hx
      · exact HH.out.lt x hx
      · rw [List.mem_singleton.1 hx]; exact hkl
  have r0 := hA4.r0
  obtain ⟨s0, s1, s2, s3, s4, s5, s6⟩ := hA4.steps k n HN.out
  have g0 : (0 : Int) ≤ (k : Int) := by omega
  have g1 : (k : Int) < (c.ss.length : Int) := by omega
  clear hF2 hb2 hb hA2 d0 d1 d2 d3 HB1 HF1 C2 HF
  obtain ⟨W5, hW5⟩ : ∃ W5, W4.alloc (.cells #[.int .i64 n.op, .int .u64 n.c.a, .int .u64 n.c.b, .int .u64 n.c.c, .int .u64 n.c.d, .int .i64 n.x, .int .i64 n.y] 85) = W5 := ⟨_, rfl⟩
  have hb5 : Below W4.heap.size W4 W5 := by rw [← hW5]; exact (Below.refl _ _).alloc (Nat.le_refl _) _
  have hA5 := hid (hA4.below hb5)
  have hg5 : Hid (w.grownBy W5 (some c.bf)) := hg4.trans (gr_below hb5 _)
  have hh5 : W5.heap[W4.heap.size]? = some (.cells #[.int .i64 n.op, .int .u64 n.c.a, .int .u64 n.c.b, .int .u64 n.c.c, .int .u64 n.c.d, .int .i64 n.x, .int .i64 n.y] 85 (0, 0)) := by rw [← hW5]; exact heap_alloc_new W4 _
  have hne5 : c.bf ≠ W4.heap.size := by have := hA4.found.lt; omega
  have d0 := Lib.cell_of_heap hh5 0
  have d1 := Lib.cell_of_heap hh5 1
  have d2 := Lib.cell_of_heap hh5 2
  have d3 := Lib.cell_of_heap hh5 3
  have d4 := Lib.cell_of_heap hh5 4
  have d5 := Lib.cell_of_heap hh5 5
  have d6 := Lib.cell_of_heap hh5 6
  simp only [List.getElem?_toArray, List.getElem?_cons_zero, List.getElem?_cons_succ] at d0 d1 d2 d3 d4 d5 d6
  have HM : Hid (∀ w', W5.grownBy w' (some c.bf) → w'.cell? ⟨W4.heap.size, 6, none⟩ = some (.int .i64 n.y)) := fun w' hg => by
    have h1 := (hg.block W4.heap.size (heap_lt hh5) (by intro e; injection e with e; exact hne5 e.symm)).trans hh5
    exact (Lib.cell_of_heap h1 6).trans rfl
  have HM5 : Hid (∀ w', W5.grownBy w' (some c.bf) → w'.cell? ⟨W4.heap.size, 5, none⟩ = some (.int .i64 n.x)) := fun w' hg => by
    have h1 := (hg.block W4.heap.size (heap_lt hh5) (by intro e; injection e with e; exact hne5 e.symm)).trans hh5
    exact (Lib.cell_of_heap h1 5).trans rfl
  have HFU := hid hfu
  have q2 := hA5.out.v0
  clear hA4 hg4 hb5 hh5 hne5 hfu
  have HXX : Hid ((n.op = 2 ∨ cT n = true) → 0 ≤ n.x ∧ n.x < (c.ss.length : Int)) := fun h => by
    have := HRG.out
    unfold stRange at this
    have h12 : n.op = 1 ∨ n.op = 2 := by
      rcases h with h | h
      · exact Or.inr h
      · unfold cT at h
        rw [Bool.and_eq_true, beq_iff_eq] at h
        exact Or.inl h.1
    omega
  have HYY : Hid (n.op = 2 → 0 ≤ n.y ∧ n.y < (c.ss.length : Int)) := fun h => by
    have := HRG.out
    unfold stRange at this
    omega
  have goX : Hid ((n.op = 2 ∨ cT n = true) → ∃ x : Nat, n.x = (x : Int) ∧ n.x.toNat = x ∧ x < c.ss.length ∧ ∀ W, Below W5.heap.size W5 W → Calls Tryd.prog 46 #[.int .i64 (x : Int), .pointer (some ⟨c.bf, 0, none⟩), .pointer (some ⟨c.bw, 0, none⟩), .pointer (some ⟨c.bv, 0, none⟩)] W (LvP c (S ++ [k]) [x] W)) := fun h => by
    obtain ⟨h0, h1⟩ := HXX.out h
    refine ⟨n.x.toNat, by omega, rfl, by omega, fun W hb => HIH.out (S ++ [k]) n.x.toNat W ?_ (by omega) (hA5.out.below hb)⟩
    have := HFU.out
    simp
    omega
  by_cases h1 : n.op = 2
  · -- a fork
    obtain ⟨x, ex, exn, hxl, CX⟩ := goX.out (Or.inl h1)
    obtain ⟨y, eyn⟩ : ∃ y : Nat, n.y = (y : Int) := ⟨n.y.toNat, by have := HYY.out h1; omega⟩
    have hyl : y < c.ss.length := by have := HYY.out h1; omega
    have HYN : Hid (n.y.toNat = y) := by show _ = _; omega
    have HOP := hid h1
    have HXN := hid exn
    have CX := hid (CX W5 (Below.refl _ _))
    have HCT : Hid (cT n = false) := by
      show _ = _
      unfold cT
      rw [h1]
      rfl
    rw [h1] at s0 d0 hW5
    rw [ex] at s5 d5 hW5
    rw [eyn] at s6 d6 hW5 HM
    clear goX HXX HYY HRG HH HC HKK HPP exn h1 HM5 hA5
    go_wp2_with fail
    refine Calls.mono CX.out ?_
    rintro e W6 ⟨vv, S1, rfl, hA6, hV6, hg6⟩
    have e6 := HM.out W6 hg6
    have v6 := hA6.v0
    have HA6 := hid hA6
    have HV6 := hid hV6
    have HG6 := hid (hg5.out.trans hg6)
    have HF6 : Hid (c.ss.length ≤ S1.length + f) := by
      obtain ⟨m, hm⟩ := hV6.pre
      have := HFU.out
      show _ ≤ _
      rw [hm]
      simp
      omega
    clear hA6 hV6 hg6 q2 d0 d1 d2 d3 d4 d5 d6 HM
    go_wp2_with fail
    refine Calls.mono (HIH.out S1 y W6 HF6.out hyl HA6.out) ?_
    rintro e W7 ⟨vv2, S2, rfl, hA7, hV7, hg7⟩
    have HP : Hid (∀ v, LvP c S [k] w (.returned v) W7) := fun v => ⟨v, S2, rfl, hA7, (HV6.out.comp hV7).enter (fun z => by
      rw [nx_eq HN.out]
      have a1 := HOP.out
      have a2 := HXN.out
      have a3 := HYN.out
      rw [HCT.out]
      simp
      constructor <;> intro hh <;> omega), HG6.out.trans hg7⟩
    clear hA7 hV7 hg7 v6 e6
    go_wp2
    first | go_end0 | go_ret
    exact HP.out _
  · have h1' : (n.op == 2) = false := by rw [beq_eq_false_iff_ne]; exact h1
    have CT := hid (canT_any n W5)
    unfold stpV at CT
    have HNO := hid h1
    cases hct : cT n with
    | false =>
      rw [hct] at CT
      have HP : Hid (∀ v W6, Below W5.heap.size W5 W6 → LvP c S [k] w (.returned v) W6) := fun v W6 hb6 => ⟨v, S ++ [k], rfl, hA5.out.below hb6, (Vsg.refl _ _ [] (by simp)).enter (fun y => by
        rw [nx_eq HN.out, hct]
        have := HNO.out
        simp
        intro h
        omega), hg5.out.trans (gr_below hb6 _)⟩
      clear goX HXX HYY HFU HRG HH HN HIH HC HKK HPP hg5 hA5 HM HM5 h1 hct
      go_wp2_with fail
      refine Calls.mono CT.out ?_
      rintro e W6 ⟨rfl, hb6⟩
      have HPP := hid (fun v => HP.out v W6 hb6)
      clear hb6
      go_wp2
      first | go_end0 | go_ret
      exact HPP.out _
    | true =>
      obtain ⟨x, ex, exn, hxl, CX⟩ := goX.out (Or.inr hct)
      rw [hct] at CT
      have HP : Hid (∀ v e W6 W7, Below W5.heap.size W5 W6 → LvP c (S ++ [k]) [x] W6 e W7 → LvP c S [k] w (.returned v) W7) := fun v e W6 W7 hb6 hp => by
        obtain ⟨v', S', _, hA7, hV7, hg7⟩ := hp
        refine ⟨v, S', rfl, hA7, hV7.enter (fun y => ?_), (hg5.out.trans (gr_below hb6 _)).trans hg7⟩
        rw [nx_eq HN.out, hct, exn]
        have := HNO.out
        simp
        intro h
        omega
      have HV5 := hid (fun W6 (hb6 : Below W5.heap.size W5 W6) => (hA5.out.below hb6).v0)
      have CX := hid CX
      rw [ex] at s5 d5 hW5 CT HM5
      clear goX HXX HYY HFU HRG HH HN HIH HC HKK HPP hg5 hA5 HM h1 hct exn
      go_wp2_with fail
      refine Calls.mono CT.out ?_
      rintro e W6 ⟨rfl, hb6⟩
      have e5 := HM5.out W6 (gr_below hb6 _)
      have v6 := HV5.out W6 hb6
      have HB6 := hid hb6
      clear hb6 d0 d1 d2 d3 d4 d5 d6
      go_wp2_with fail
      refine Calls.mono (CX.out W6 HB6.out) ?_
      intro e W7 hp7
      obtain ⟨v7, _, rfl, _⟩ := id hp7
      have HP7 := hid (fun v => HP.out v _ W6 W7 HB6.out hp7)
      clear hp7
      go_wp2
      first | go_end0 | go_ret
      exact HP7.out _
theorem lvisit_any (c : Lc) (hc : c.Good) : ∀ f, LvOk c f
  | 0 => by
    intro S k w hfu hkl h
    have hS := h.len
    refine lvisit_seen c hc S k w hkl h ?_
    refine Classical.byContradiction fun hk => ?_
    have := nodup_le c.ss.length (k :: S) (List.nodup_cons.2 ⟨hk, h.nod⟩) (fun x hx => by
      rcases List.mem_cons.1 hx with rfl | hx
      · exact hkl
      · exact h.lt x hx)
    simp at this
    omega
  | f + 1 => by
    intro S k w hfu hkl h
    by_cases hk : k ∈ S
    · exact lvisit_seen c hc S k w hkl h hk
    · exact lvisit_new c hc f (lvisit_any c hc f) S k w hfu hkl h hk
end Go.Proofs.YteeamifjldoihaaDoor
namespace Go.Proofs.YteeamifjldoihaaDoor
set_option linter.unusedSimpArgs false
set_option linter.unusedVariables false
set_option maxRecDepth 100000
open Go.RowKit Go.Shelf
attribute [local go_sem] Oper.semAt_some
/-- Where it lays its variables. -/
def lcAt (ss : List St) (b off cap : Nat) (z : Nat) : Lc := ⟨ss, b, off, cap, z + 1 + 1 + 1, z, z + 1 + 1 + 1 + 1⟩
theorem lcAt_good (ss : List St) (b off cap : Nat) (z : Nat) (hf : stepsF ss = 0) (hb : b < z) : (lcAt ss b off cap z).Good := by
  constructor <;> first | assumption | (simp only [lcAt]; omega)
theorem heap_at5 (w : World) (o0 o1 o2 o3 o4 : Obj) (W : World) (h : W = ((((w.alloc o0).alloc o1).alloc o2).alloc o3).alloc o4) : W.heap[w.heap.size]? = some o0 ∧ W.heap[w.heap.size + 1]? = some o1 ∧ W.heap[w.heap.size + 1 + 1]? = some o2 ∧ W.heap[w.heap.size + 1 + 1 + 1]? = some o3 ∧ W.heap[w.heap.size + 1 + 1 + 1 + 1]? = some o4 ∧ Below w.heap.size w W ∧ W.heap.size = w.heap.size + 5 := by
  subst h
  have key : ∀ (W : World) (o : Obj) (k : Nat) (x : Obj), W.heap[k]? = some x → (W.alloc o).heap[k]? = some x := fun W o k x h => (Below.heap_alloc W o k (heap_lt h)).trans h
  have new : ∀ (W : World) (o : Obj) (k : Nat), k = W.heap.size → (W.alloc o).heap[k]? = some o := fun W o k e => e ▸ World.alloc_heap_new W o
  exact ⟨key _ _ _ _ (key _ _ _ _ (key _ _ _ _ (key _ _ _ _ (new _ _ _ rfl)))), key _ _ _ _ (key _ _ _ _ (key _ _ _ _ (new _ _ _ (by simp)))), key _ _ _ _ (key _ _ _ _ (new _ _ _ (by simp))), key _ _ _ _ (new _ _ _ (by simp)), new _ _ _ (by simp),
    ((((((Below.refl _ _).alloc (Nat.le_refl _) _).alloc (by simp) _).alloc (by simp; omega) _).alloc (by simp; omega) _).alloc (by simp; omega) _), by simp⟩
/-- Between two rounds. -/
def LcR (c : Lc) (z : Nat) (w : World) (pre : List Nat) (W : World) : Prop := ∃ S, c.At W S ∧ Vsg (Nx c.ss) [] S (tgt c.ss pre) ∧ Hq W z noP ∧ Below w.heap.size w W
theorem lcR_own (c : Lc) (z : Nat) (w : World) (B : Nat) (hB : w.heap.size ≤ B) : OwnFrom B (LcR c z w) := fun pre X Y row hs hg hr => by
  obtain ⟨S, hA, hV, hq, hb⟩ := hs
  have hr2 := fun r e => (hr r e).2
  refine ⟨S, ⟨hA.steps.keep hg hr2, cells_keepc hg hr2 hA.r0, cells_keepc hg hr2 hA.v0, hA.found.keep hg hr2, hA.nod, hA.lt, Nat.lt_of_lt_of_le hA.blt hg.size⟩, hV, hq.keep hg hr2, ?_⟩
  exact hb.grown hg hb.size (fun k e => Nat.le_trans hB (hr k e).1)
set_option maxHeartbeats 8000000 in
theorem slater_in (ss : List St) (hf : stepsF ss = 0) (b off cap : Nat) (p : Nat → Bool) (hp : Sub ss p) (w : World) (hT : Tab w) (hlt : b < w.heap.size) (hN : SsAt w b off ss) :
    CallsIn Fence.wide 3 Tryd.prog 24 #[wyV b off ss.length cap, stV p] w fun e w' => e = .returned (stV (latF ss p)) ∧ Below w.heap.size w w' := by
  have HG := hid (lcAt_good ss b off cap w.heap.size hf hlt)
  have HV := hid (lvisit_any _ HG.out)
  obtain ⟨h200, _, hst⟩ := stepsF_zero hf
  obtain ⟨W0, hW0⟩ : ∃ W0, W0 = ((((w.alloc (.cells #[.slice (some ⟨b, off, none⟩) ss.length cap] 53)).alloc (.cells #[.int .u64 (wd p 0), .int .u64 (wd p 1), .int .u64 (wd p 2), .int .u64 (wd p 3)] 57)).alloc (.cells #[.int .u64 0, .int .u64 0, .int .u64 0, .int .u64 0] 57)).alloc (.cells #[.int .u64 0, .int .u64 0, .int .u64 0, .int .u64 0] 57)).alloc (.cells #[.nilFunc] 96) := ⟨_, rfl⟩
  obtain ⟨k0, k1, k2, k3, k4, hB0, hs0⟩ := heap_at5 w _ _ _ _ _ W0 hW0
  have u5 : W0.cell? ⟨w.heap.size + 1 + 1 + 1 + 1, 0, none⟩ = some .nilFunc := (Lib.cell_of_heap k4 0).trans rfl
  have z5 := Lib.frozen_of_heap k4 0
  obtain ⟨W1, hW1⟩ : ∃ W1, W0.setCell ⟨w.heap.size + 1 + 1 + 1 + 1, 0, none⟩ (lcAt ss b off cap w.heap.size).v = W1 := ⟨_, rfl⟩
  have hg1 : W0.grownBy W1 (some (w.heap.size + 1 + 1 + 1 + 1)) := by rw [← hW1]; exact grown_setS _ _ _ _
  have hB1 : Below w.heap.size w W1 := by rw [← hW1]; exact hB0.setCell (p := ⟨w.heap.size + 1 + 1 + 1 + 1, 0, none⟩) (by simp only; omega) _
  have hs1 : W1.heap.size = w.heap.size + 5 := by rw [← hW1]; simpa using hs0
  have kk : ∀ j o, j ≠ w.heap.size + 1 + 1 + 1 + 1 → W0.heap[j]? = some o → W1.heap[j]? = some o := fun j o hj h => (hg1.block j (heap_lt h) (by intro e; injection e with e; exact hj e)).trans h
  have m0 := kk _ _ (by omega) k0
  have m1 : Hq W1 (w.heap.size + 1) p := kk _ _ (by omega) k1
  have m3 : Hq W1 (w.heap.size + 1 + 1) noP := by
    have := kk _ _ (by omega) k2
    unfold Hq
    rw [wd_no, wd_no, wd_no, wd_no]
    exact this
  have m4 : Hq W1 (w.heap.size + 1 + 1 + 1) (fun j => decide (j ∈ ([] : List Nat))) := by
    have := kk _ _ (by omega) k3
    have e : (fun j => decide (j ∈ ([] : List Nat))) = noP := by funext j; simp [noP]
    rw [e]
    unfold Hq
    rw [wd_no, wd_no, wd_no, wd_no]
    exact this
  have m5 : W1.heap[w.heap.size + 1 + 1 + 1 + 1]? = some (.cells #[(lcAt ss b off cap w.heap.size).v] 96 (0, 0)) := by
    rw [← hW1]
    simp [World.setCell, Array.getElem?_modify, k4]
  have hA1 : (lcAt ss b off cap w.heap.size).At W1 [] := ⟨hN.below hB1 hlt, (Lib.cell_of_heap m0 0).trans rfl, (Lib.cell_of_heap m5 0).trans rfl, m4, by simp, by simp, Nat.lt_of_lt_of_le hlt hB1.size⟩
  obtain ⟨j0, j1, j2, j3⟩ := m1.all
  have HR1 : Hid (LcR (lcAt ss b off cap w.heap.size) (w.heap.size + 1 + 1) w [] W1) := ⟨[], hA1, Vsg.refl _ _ _ (by simp [tgt_nil]), m3, hB1⟩
  have HX : Hid (∀ x n, ss[x]? = some n → cT n = true → 0 ≤ n.x ∧ n.x.toNat < ss.length) := fun x n hn h1 => by
    have := (hst n (List.mem_of_getElem? hn)).1
    unfold cT at h1
    rw [Bool.and_eq_true, beq_iff_eq] at h1
    unfold stRange at this
    omega
  unfold Lc.v lcAt at hW1
  replace hW0 := hW0.symm
  clear k0 k1 k2 k3 k4 m0 m1 m3 m4 m5 kk hg1 hA1 hB0 hB1 hst
  refine callsIn_of_wp_marks Tryd.func24 rfl trivial ?_ rfl
  simp only [Tryd.ntmps24, List.size_toArray, List.length_cons, List.length_nil, Nat.reduceAdd, Nat.reduceSub, Array.replicate_succ, Array.replicate_zero, List.push_toArray, List.append_toArray, List.nil_append, List.cons_append]
  unfold stV
  gi_wp2_with fail
  refine wpIn_runsTo rfl (by omega) 39 #[stV p] rfl trivial enters_srising (fun x : Nat => Value.int .i64 (x : Int)) Tab (el p 256) (srises (3 - 1) (by omega) p) rfl
    (LcR (lcAt ss b off cap w.heap.size) (w.heap.size + 1 + 1) w) (fun _ _ => False)
    (lcR_own _ _ _ _ (by omega)) (ownFrom_pure _ (fun _ => False))
    (fun pre W h => by obtain ⟨_, _, _, _, hb⟩ := h; exact hT.below hb (Nat.le_refl _))
    HR1.out
    (fun x => { tmps := #[wyV b off ss.length cap, stV p, .pointer (some ⟨w.heap.size, 0, none⟩), .pointer (some ⟨w.heap.size + 1, 0, none⟩), .pointer (some ⟨w.heap.size + 1 + 1, 0, none⟩), .pointer (some ⟨w.heap.size + 1 + 1 + 1, 0, none⟩), .pointer (some ⟨w.heap.size + 1 + 1 + 1 + 1, 0, none⟩), .int .i64 (x : Int), undef, (lcAt ss b off cap w.heap.size).v, stV p, .func (.func 39) #[stV p] #[], .int .i64 (x : Int), undef, undef, undef, undef, undef, undef, undef, undef, undef, undef, undef, undef], defers := [] }) ?assign ?body ?done ?stop
  case assign =>
    intro l x W K hK
    gi_wp2
    exact hK
  case body =>
    rintro l pre x rest W hx ⟨S, hA, hV, hq, hB⟩
    obtain ⟨hpx, hxl⟩ := el_one hp hx
    obtain ⟨n, hn⟩ : ∃ n, ss[x]? = some n := ⟨ss[x], List.getElem?_eq_getElem hxl⟩
    have r0 : W.cell? ⟨w.heap.size, 0, none⟩ = some (.slice (some ⟨b, off, none⟩) ss.length cap) := hA.r0
    have q0 : W.cell? ⟨w.heap.size + 1 + 1 + 1 + 1, 0, none⟩ = some (.func (.func 46) #[] #[.pointer (some ⟨w.heap.size + 1 + 1 + 1, 0, none⟩), .pointer (some ⟨w.heap.size, 0, none⟩), .pointer (some ⟨w.heap.size + 1 + 1 + 1 + 1, 0, none⟩)]) := hA.v0
    obtain ⟨d0, d1, d2, d3, d4, d5, d6⟩ := (hN.below hB hlt) x n hn
    have g0 : (0 : Int) ≤ (x : Int) := by omega
    have g1 : (x : Int) < (ss.length : Int) := by omega
    have hBs := hB.size
    obtain ⟨W5, hW5⟩ : ∃ W5, W.alloc (.cells #[.int .i64 n.op, .int .u64 n.c.a, .int .u64 n.c.b, .int .u64 n.c.c, .int .u64 n.c.d, .int .i64 n.x, .int .i64 n.y] 85) = W5 := ⟨_, rfl⟩
    have hh5 : W5.heap[W.heap.size]? = some (.cells #[.int .i64 n.op, .int .u64 n.c.a, .int .u64 n.c.b, .int .u64 n.c.c, .int .u64 n.c.d, .int .i64 n.x, .int .i64 n.y] 85 (0, 0)) := by rw [← hW5]; exact heap_alloc_new W _
    have hb5 : Below W.heap.size W W5 := by rw [← hW5]; exact (Below.refl _ _).alloc (Nat.le_refl _) _
    have e0 := Lib.cell_of_heap hh5 0
    have e1 := Lib.cell_of_heap hh5 1
    have e2 := Lib.cell_of_heap hh5 2
    have e3 := Lib.cell_of_heap hh5 3
    have e4 := Lib.cell_of_heap hh5 4
    have e5 := Lib.cell_of_heap hh5 5
    have e6 := Lib.cell_of_heap hh5 6
    simp only [List.getElem?_toArray, List.getElem?_cons_zero, List.getElem?_cons_succ] at e0 e1 e2 e3 e4 e5 e6
    have CT := hid (canT_any n W5)
    unfold stpV at CT
    have HH5 := hid hh5
    have HB5 := hid hb5
    have HA := hid hA
    have HVS := hid hV
    have HB := hid hB
    have HQ := hid hq
    have HN := hid hn
    have H0 := hid (fun W6 (h : Below W.heap.size W W6) => (h.cell (p := ⟨w.heap.size + 1 + 1 + 1 + 1, 0, none⟩) (cell_lt q0)).trans q0)
    clear hA hV hB hq hx hn hh5 hb5 hW0 hW1 u5 z5 j0 j1 j2 j3 HR1 q0
    cases hct : cT n with
    | false =>
      rw [hct] at CT
      have HP : Hid (∀ W6, Below W5.heap.size W5 W6 → KeepsFrom W1.heap.size W W6 ∧ LcR (lcAt ss b off cap w.heap.size) (w.heap.size + 1 + 1) w (pre ++ [x]) W6) := fun W6 hb6 => by
        have hb := HB5.out.trans (hb6.mono HB5.out.size)
        refine ⟨KeepsFrom.of_grownBy (gr_below hb none) (fun j e => by cases e), S, HA.out.below hb, ?_, HQ.out.below hb HQ.out.lt, HB.out.trans (hb.mono HB.out.size)⟩
        rw [show tgt (lcAt ss b off cap w.heap.size).ss (pre ++ [x]) = tgt (lcAt ss b off cap w.heap.size).ss pre from tgt_no HN.out hct]
        exact HVS.out
      gi_wp2_with fail
      refine ⟨trivial, (callsIn_wide.2 CT.out).mono ?_⟩
      rintro e W6 ⟨rfl, hb6⟩
      have HPP := hid (HP.out W6 hb6)
      clear hb6
      gi_wp2
      first | exact HPP.out | (refine ⟨trivial, ?_⟩; gi_wp2; exact HPP.out)
    | true =>
      rw [hct] at CT
      obtain ⟨hx0, hxl2⟩ := HX.out x n HN.out hct
      obtain ⟨y, hy, hyn⟩ : ∃ y : Nat, n.x = (y : Int) ∧ n.x.toNat = y := ⟨n.x.toNat, by omega, rfl⟩
      have CV : Hid (∀ W6, Below W.heap.size W W6 → Calls Tryd.prog 46 #[.int .i64 (y : Int), .pointer (some ⟨w.heap.size + 1 + 1 + 1, 0, none⟩), .pointer (some ⟨w.heap.size, 0, none⟩), .pointer (some ⟨w.heap.size + 1 + 1 + 1 + 1, 0, none⟩)] W6 (LvP (lcAt ss b off cap w.heap.size) S [y] W6)) := fun W6 hb => HV.out ss.length S y W6 (by show ss.length ≤ _; omega) (by show y < ss.length; omega) (HA.out.below hb)
      have HP : Hid (∀ W6 W7 e, Below W.heap.size W W6 → LvP (lcAt ss b off cap w.heap.size) S [y] W6 e W7 → KeepsFrom W1.heap.size W W7 ∧ LcR (lcAt ss b off cap w.heap.size) (w.heap.size + 1 + 1) w (pre ++ [x]) W7) := fun W6 W7 e hb hp => by
        obtain ⟨vv, S1, _, hA7, hV7, hg7⟩ := hp
        have hg7' : W6.grownBy W7 (some (w.heap.size + 1 + 1 + 1)) := hg7
        have hg : W.grownBy W7 (some (w.heap.size + 1 + 1 + 1)) := (gr_below hb _).trans hg7'
        refine ⟨?_, S1, hA7, ?_, HQ.out.grown hg (by intro e; injection e with e; omega), HB.out.grown hg HB.out.size (fun k e => by injection e with e; omega)⟩
        · refine ⟨hg.size, fun k o hk ho _ => ?_⟩
          exact (hg.block k (heap_lt ho) (by intro e; injection e with e; omega)).trans ho
        · rw [show tgt (lcAt ss b off cap w.heap.size).ss (pre ++ [x]) = tgt (lcAt ss b off cap w.heap.size).ss pre ++ [n.x.toNat] from tgt_yes HN.out hct, hyn]
          exact HVS.out.comp hV7
      have HM5 : Hid (∀ W6, Below W5.heap.size W5 W6 → W6.cell? ⟨W.heap.size, 5, none⟩ = some (.int .i64 (y : Int))) := fun W6 hb6 => by
        have h1 := (hb6.block W.heap.size (heap_lt HH5.out)).trans HH5.out
        rw [← hy]
        exact (Lib.cell_of_heap h1 5).trans rfl
      rw [hy] at d5 hW5 e5 CT
      clear hct hy hyn hx0 hxl2 HX
      gi_wp2_with fail
      refine ⟨trivial, (callsIn_wide.2 CT.out).mono ?_⟩
      rintro e W6 ⟨rfl, hb6⟩
      have v6 := H0.out W6 (HB5.out.trans (hb6.mono HB5.out.size))
      have m6 := HM5.out W6 hb6
      have HB6 := hid (HB5.out.trans (hb6.mono HB5.out.size))
      clear hb6 e0 e1 e2 e3 e4 e5 e6 d0 d1 d2 d3 d4 d5 d6 r0
      gi_wp2_with fail
      refine ⟨trivial, (callsIn_wide.2 (CV.out W6 HB6.out)).mono ?_⟩
      intro e W7 hp7
      have HPP := hid (HP.out W6 W7 e HB6.out hp7)
      obtain ⟨v7, _, rfl, _⟩ := id hp7
      clear hp7
      gi_wp2
      first | exact HPP.out | (refine ⟨trivial, ?_⟩; gi_wp2; exact HPP.out)
  case done =>
    rintro D W hD ⟨S, hA, hV, hq, hB⟩ hK
    have hcl : (fun j => decide (j ∈ S)) = latF ss p := lat_list h200 hp hV
    have hF : Hq W (w.heap.size + 1 + 1 + 1) (latF ss p) := by rw [← hcl]; exact hA.found
    obtain ⟨c0, c1, c2, c3⟩ := hF.all
    obtain ⟨d0, d1, d2, d3⟩ := hq.all
    obtain ⟨f0, f1, f2, f3⟩ := hq.frz
    have HF := hid hF
    have HQ := hid hq
    have HB := hid hB
    clear hF hq hB hA hV hcl hW0 hW1 u5 z5 j0 j1 j2 j3 HR1
    gi_wp2
    have hKD := hq_def HQ.out (latF ss p) hK
    have hq2 := (HQ.out.putS (latF ss p)).putK hKD (.deferred none)
    obtain ⟨e0, e1, e2, e3⟩ := hq2.all
    refine ⟨by simp, .inl ⟨_, _, rfl, run_takeDeferred hKD, ?_⟩⟩
    refine ⟨stV (latF ss p), by simp [results, Tryd.results24, go_sem, stV, e0, e1, e2, e3], rfl, ?_⟩
    exact (below_putS HB.out (by omega) _).trans (belowK_b (w := w) (Nat.le_refl _) _ D _ _ (by omega) hKD rfl rfl)
  case stop =>
    intro D pre W _ h
    exact h.elim
theorem slater_any (ss : List St) (hf : stepsF ss = 0) (b off cap : Nat) (p : Nat → Bool) (hp : Sub ss p) (w : World) (hT : Tab w) (hlt : b < w.heap.size) (hN : SsAt w b off ss) :
    Calls Tryd.prog 24 #[wyV b off ss.length cap, stV p] w fun e w' => e = .returned (stV (latF ss p)) ∧ Below w.heap.size w w' := callsIn_wide.1 (slater_in ss hf b off cap p hp w hT hlt hN)
end Go.Proofs.YteeamifjldoihaaDoor
namespace Go.Proofs.YteeamifjldoihaaDoor
set_option linter.unusedSimpArgs false
set_option linter.unusedVariables false
set_option maxRecDepth 100000
open Go.RowKit Go.Shelf
attribute [local go_sem] Oper.semAt_some
theorem heap_at3 (w : World) (o0 o1 o2 : Obj) (W : World) (h : W = ((w.alloc o0).alloc o1).alloc o2) : W.heap[w.heap.size]? = some o0 ∧ W.heap[w.heap.size + 1]? = some o1 ∧ W.heap[w.heap.size + 1 + 1]? = some o2 ∧ Below w.heap.size w W ∧ W.heap.size = w.heap.size + 3 := by
  subst h
  have key : ∀ (W : World) (o : Obj) (k : Nat) (x : Obj), W.heap[k]? = some x → (W.alloc o).heap[k]? = some x := fun W o k x h => (Below.heap_alloc W o k (heap_lt h)).trans h
  have new : ∀ (W : World) (o : Obj) (k : Nat), k = W.heap.size → (W.alloc o).heap[k]? = some o := fun W o k e => e ▸ World.alloc_heap_new W o
  exact ⟨key _ _ _ _ (key _ _ _ _ (new _ _ _ rfl)), key _ _ _ _ (new _ _ _ (by simp)), new _ _ _ (by simp), (((Below.refl _ _).alloc (Nat.le_refl _) _).alloc (by simp) _).alloc (by simp; omega) _, by simp⟩
set_option maxHeartbeats 4000000 in
theorem sbegin_any (ss : List St) (hf : stepsF ss = 0) (b off cap : Nat) (fi la : Bool) (w : World) (hT : Tab w) (hlt : b < w.heap.size) (hN : SsAt w b off ss) :
    Calls Tryd.prog 30 #[wyV b off ss.length cap, pcV fi la] w fun e w' => e = .returned (stV (begS ss fi la)) ∧ Below w.heap.size w w' := by
  obtain ⟨w0, hw0⟩ : ∃ w0, w0 = (((w.alloc (.cells #[.slice (some ⟨b, off, none⟩) ss.length cap] 53)).alloc (.cells #[.bool fi, .bool la] 63)).alloc (.cells #[.int .u64 0, .int .u64 0, .int .u64 0, .int .u64 0] 57)) := ⟨_, rfl⟩
  obtain ⟨k0, k1, k2, hB0, hs0⟩ := heap_at3 w _ _ _ w0 hw0
  have hK : Hid (∀ w', Below w0.drew.heap.size w0.drew w' → w'.cell? ⟨w.heap.size, 0, none⟩ = some (.slice (some ⟨b, off, none⟩) ss.length cap) ∧ w'.cell? ⟨w.heap.size + 1, 0, none⟩ = some (.bool fi) ∧ w'.cell? ⟨w.heap.size + 1, 1, none⟩ = some (.bool la) ∧ Hq w' (w.heap.size + 1 + 1) noP ∧ Tab w' ∧ b < w'.heap.size ∧ SsAt w' b off ss ∧ Below w.heap.size w w') := fun w' hb => by
    have hb2 := hB0.drew.trans (hb.mono (by show _ ≤ w0.heap.size; omega))
    refine ⟨(Lib.cell_of_heap ((hb.block _ (heap_lt k0)).trans k0) 0).trans rfl, (Lib.cell_of_heap ((hb.block _ (heap_lt k1)).trans k1) 0).trans rfl, (Lib.cell_of_heap ((hb.block _ (heap_lt k1)).trans k1) 1).trans rfl, ?_, hT.below hb2 (Nat.le_refl _), Nat.lt_of_lt_of_le hlt hb2.size, hN.below hb2 hlt, hb2⟩
    unfold Hq
    rw [wd_no, wd_no, wd_no, wd_no]
    exact (hb.block _ (heap_lt k2)).trans k2
  obtain ⟨c0, p0, p1, hZ, _⟩ := hK.out w0.drew (Below.refl _ _)
  replace c0 : w0.cell? ⟨w.heap.size, 0, none⟩ = _ := c0
  replace p0 : w0.cell? ⟨w.heap.size + 1, 0, none⟩ = _ := p0
  replace p1 : w0.cell? ⟨w.heap.size + 1, 1, none⟩ = _ := p1
  replace hZ : Hq w0 _ noP := hZ
  obtain ⟨f0, f1, f2, f3⟩ := hZ.frz
  have CW := hid (fun w => swith_any noP 0 (by omega) w)
  have CR := hid (fun w' (hT : Tab w') hlt hN => sreached_any ss hf b off cap (withP noP 0) (zero_sub (stepsF_zero hf).2.1) fi la w' hT hlt hN)
  rw [stV_no] at CW
  clear k0 k1 k2 hB0 hs0 hT hlt hN hZ
  go_enter Tryd.func30, Tryd.ntmps30
  go_wp2_with fail
  rw [← hw0]
  clear hw0
  go_region_with (first
    | (go_at_call 41; refine (CW.out _).mono ?_; rintro e w1 ⟨rfl, hb1⟩; obtain ⟨c0', p0', p1', hZ', hT', hl', hN', _⟩ := hK.out w1 hb1; obtain ⟨g0, g1, g2, g3⟩ := hZ'.frz)
    | (go_at_call 42; refine (CR.out w1 hT' hl' hN').mono ?_; rintro e w2 ⟨rfl, hb2⟩; obtain ⟨_, _, _, hZ2, _, _, _, hB2⟩ := hK.out w2 (hb1.trans (hb2.mono hb1.size)); obtain ⟨q0, q1, q2, q3⟩ := hZ2.frz; obtain ⟨d0, d1, d2, d3⟩ := hZ2.all; unfold stV))
  all_goals go_wp2
  all_goals
    have hq := hZ2.putS (cloF ss fi la (withP noP 0))
    obtain ⟨e0, e1, e2, e3⟩ := hq.all
    refine bodyPost_ret (v := stV (cloF ss fi la (withP noP 0))) (by simp [results, Tryd.results30, go_sem, stV, e0, e1, e2, e3]) rfl ⟨rfl, ?_⟩
    exact below_putS hB2 (by omega) _
end Go.Proofs.YteeamifjldoihaaDoor
