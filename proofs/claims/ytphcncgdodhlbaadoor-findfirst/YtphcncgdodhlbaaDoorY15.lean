/- Package sim: the closure that goes all ways at a place. Package sim: all steps that are come to at a place, from some of them on. Package sim: Begin. -/
import Derived.Test.YtphcncgdodhlbaaDoorY14
import Derived.Laws.EntriesVeiled
import Derived.Deep.RegionHeld3
namespace Go.Proofs.YtphcncgdodhlbaaDoor
set_option linter.unusedSimpArgs false
set_option linter.unusedVariables false
set_option maxRecDepth 100000
open Go.RowKit
/-- A program and a place, and where the closure's variables lie. -/
structure Yc where
  ss : List St
  b : Nat
  off : Nat
  cap : Nat
  fi : Bool
  la : Bool
  bf : Nat
  bw : Nat
  bv : Nat
  ba : Nat
structure Yc.Good (c : Yc) : Prop where
  fault : stepsF c.ss = 0
  fb : c.bf ≠ c.b
  fw : c.bf ≠ c.bw
  fv : c.bf ≠ c.bv
  fa : c.bf ≠ c.ba
/-- The closure's value. -/
abbrev Yc.v (c : Yc) : Value := .func (.func 91) #[] #[.pointer (some ⟨c.bf, 0, none⟩), .pointer (some ⟨c.bw, 0, none⟩), .pointer (some ⟨c.bv, 0, none⟩), .pointer (some ⟨c.ba, 0, none⟩)]
/-- In w the steps S have been come to. -/
structure Yc.At (c : Yc) (w : World) (S : List Nat) : Prop where
  steps : SsAt w c.b c.off c.ss
  r0 : w.cell? ⟨c.bw, 0, none⟩ = some (.slice (some ⟨c.b, c.off, none⟩) c.ss.length c.cap)
  a0 : w.cell? ⟨c.ba, 0, none⟩ = some (.bool c.fi)
  a1 : w.cell? ⟨c.ba, 1, none⟩ = some (.bool c.la)
  v0 : w.cell? ⟨c.bv, 0, none⟩ = some c.v
  found : Hq w c.bf (fun j => decide (j ∈ S))
  nod : S.Nodup
  lt : ∀ x ∈ S, x < c.ss.length
  blt : c.b < w.heap.size
theorem Yc.At.len {c : Yc} {w : World} {S : List Nat} (h : c.At w S) : S.length ≤ c.ss.length := nodup_le _ _ h.nod h.lt
theorem SsAt.grown {w w' : World} {b off : Nat} {ss : List St} {row : Option Nat} (h : SsAt w b off ss) (hg : w.grownBy w' row) (hlt : b < w.heap.size) (hne : some b ≠ row) : SsAt w' b off ss := fun i n hi => by
  obtain ⟨h0, h1, h2, h3, h4, h5, h6⟩ := h i n hi
  have key : ∀ o, w'.cell? ⟨b, o, none⟩ = w.cell? ⟨b, o, none⟩ := fun o => World.cell?_of_block (a := ⟨b, o, none⟩) (hg.block b hlt hne)
  exact ⟨(key _).trans h0, (key _).trans h1, (key _).trans h2, (key _).trans h3, (key _).trans h4, (key _).trans h5, (key _).trans h6⟩
/-- Only the box of what is found is turned. -/
theorem Yc.At.turn {c : Yc} (hc : c.Good) {w w' : World} {S S' : List Nat} (h : c.At w S) (hg : w.grownBy w' (some c.bf)) (hf : Hq w' c.bf (fun j => decide (j ∈ S'))) (hn : S'.Nodup) (hl : ∀ x ∈ S', x < c.ss.length) : c.At w' S' := by
  have key : ∀ k o v, c.bf ≠ k → w.cell? ⟨k, o, none⟩ = some v → w'.cell? ⟨k, o, none⟩ = some v := fun k o v hk hv =>
    (World.cell?_of_block (a := ⟨k, o, none⟩) (hg.block k (cell_lt hv) (by intro e; injection e with e; exact hk e.symm))).trans hv
  exact ⟨h.steps.grown hg h.blt (by intro e; injection e with e; exact hc.fb e.symm), key _ _ _ hc.fw h.r0, key _ _ _ hc.fa h.a0, key _ _ _ hc.fa h.a1, key _ _ _ hc.fv h.v0, hf, hn, hl, Nat.lt_of_lt_of_le h.blt hg.size⟩
theorem Yc.At.below {c : Yc} {w w' : World} {S : List Nat} (h : c.At w S) (hb : Below w.heap.size w w') : c.At w' S where
  steps := h.steps.below hb h.blt
  r0 := (hb.cell (p := ⟨c.bw, 0, none⟩) (cell_lt h.r0)).trans h.r0
  a0 := (hb.cell (p := ⟨c.ba, 0, none⟩) (cell_lt h.a0)).trans h.a0
  a1 := (hb.cell (p := ⟨c.ba, 1, none⟩) (cell_lt h.a0)).trans h.a1
  v0 := (hb.cell (p := ⟨c.bv, 0, none⟩) (cell_lt h.v0)).trans h.v0
  found := h.found.below hb h.found.lt
  nod := h.nod
  lt := h.lt
  blt := Nat.lt_of_lt_of_le h.blt hb.size
theorem withP_snoc (S : List Nat) (k : Nat) : withP (fun j => decide (j ∈ S)) k = fun j => decide (j ∈ S ++ [k]) := by
  funext j
  unfold withP
  by_cases h : j = k
  · subst h; simp
  · simp [h]
/-- What it leaves, entered at k. -/
def YvP (c : Yc) (S : List Nat) (K : List Nat) (w : World) (e : Ending) (w' : World) : Prop := ∃ v S', e = .returned v ∧ c.At w' S' ∧ Vst c.ss (tx c.fi c.la) (pc c.fi) S S' K ∧ w.grownBy w' (some c.bf)
/-- The closure keeps its word while so many steps are left. -/
def YvOk (c : Yc) (f : Nat) : Prop := ∀ (S : List Nat) (k : Nat) (w : World), c.ss.length ≤ S.length + f → k < c.ss.length → c.At w S → Calls Tryd.prog 91 #[.int .i64 (k : Int), .pointer (some ⟨c.bf, 0, none⟩), .pointer (some ⟨c.bw, 0, none⟩), .pointer (some ⟨c.bv, 0, none⟩), .pointer (some ⟨c.ba, 0, none⟩)] w (YvP c S [k] w)
set_option maxHeartbeats 4000000 in
theorem yvisit_seen (c : Yc) (hc : c.Good) (S : List Nat) (k : Nat) (w : World) (hkl : k < c.ss.length) (h : c.At w S) (hk : k ∈ S) : Calls Tryd.prog 91 #[.int .i64 (k : Int), .pointer (some ⟨c.bf, 0, none⟩), .pointer (some ⟨c.bw, 0, none⟩), .pointer (some ⟨c.bv, 0, none⟩), .pointer (some ⟨c.ba, 0, none⟩)] w (YvP c S [k] w) := by
  obtain ⟨h200, hpos, hst⟩ := stepsF_zero hc.fault
  obtain ⟨p, hp⟩ : ∃ p, p = fun j => decide (j ∈ S) := ⟨_, rfl⟩
  have hpk : p k = true := by rw [hp]; simp [hk]
  have hF := h.found
  rw [← hp] at hF
  have C1 := hid (shas_any p k (by omega) w)
  rw [hpk] at C1
  obtain ⟨c0, c1, c2, c3⟩ := hF.all
  have HP : Hid (∀ v w1, Below w.heap.size w w1 → YvP c S [k] w (.returned v) w1) := fun v w1 hb => ⟨v, S, rfl, h.below hb, Vst.refl _ _ _ _ _ (fun x hx => by rw [List.mem_singleton.1 hx]; exact hk), gr_below hb _⟩
  unfold stV at C1
  clear h hst hF hp
  go_enter Tryd.func91, Tryd.ntmps91
  go_wp2_with fail
  refine Calls.mono C1.out ?_
  rintro e w1 ⟨rfl, hb⟩
  go_wp2
  first | go_end0 | go_ret
  exact HP.out _ _ hb
set_option maxHeartbeats 8000000 in
theorem yvisit_new (c : Yc) (hc : c.Good) (f : Nat) (ih : YvOk c f) (S : List Nat) (k : Nat) (w : World) (hfu : c.ss.length ≤ S.length + (f + 1)) (hkl : k < c.ss.length) (h : c.At w S) (hk : ¬ k ∈ S) : Calls Tryd.prog 91 #[.int .i64 (k : Int), .pointer (some ⟨c.bf, 0, none⟩), .pointer (some ⟨c.bw, 0, none⟩), .pointer (some ⟨c.bv, 0, none⟩), .pointer (some ⟨c.ba, 0, none⟩)] w (YvP c S [k] w) := by
  obtain ⟨h200, hpos, hst⟩ := stepsF_zero hc.fault
  obtain ⟨n, hn⟩ : ∃ n, c.ss[k]? = some n := ⟨c.ss[k], List.getElem?_eq_getElem hkl⟩
  have HRG := hid (hst n (List.mem_of_getElem? hn)).1
  obtain ⟨p, hp⟩ : ∃ p, p = fun j => decide (j ∈ S) := ⟨_, rfl⟩
  have hpk : p k = false := by rw [hp]; simp [hk]
  have hF := h.found
  rw [← hp] at hF
  have C1 := hid (shas_any p k (by omega) w)
  rw [hpk] at C1
  have C2 := hid (fun w1 => swith_any p k (by omega) w1)
  obtain ⟨c0, c1, c2, c3⟩ := hF.all
  have HH := hid h
  have HF := hid hF
  have HN := hid hn
  have HIH := hid ih
  have HC := hid hc
  have HKK := hid hk
  have HPP := hid hp
  unfold stV at C1 C2
  clear h hst hF hp ih hc hk hn
  go_enter Tryd.func91, Tryd.ntmps91
  go_wp2_with fail
  refine Calls.mono C1.out ?_
  rintro e w1 ⟨rfl, hb1⟩
  have hF1 := HF.out.below hb1 HF.out.lt
  obtain ⟨d0, d1, d2, d3⟩ := hF1.all
  have HB1 := hid hb1
  have HF1 := hid hF1
  clear hb1 hF1 c0 c1 c2 c3 C1
  go_wp2_with fail
  refine Calls.mono (C2.out w1) ?_
  rintro e w2 ⟨rfl, hb2⟩
  have hF2 := HF1.out.below hb2 HF1.out.lt
  obtain ⟨c0, c1, c2, c3⟩ := hF2.all
  obtain ⟨f0, f1, f2, f3⟩ := hF2.frz
  have hb : Below w.heap.size w w2 := HB1.out.trans (hb2.mono HB1.out.size)
  have hA2 := HH.out.below hb
  obtain ⟨W4, hW4⟩ : ∃ W4, putS w2 c.bf (withP p k) = W4 := ⟨_, rfl⟩
  have hg4 : w.grownBy W4 (some c.bf) := by rw [← hW4]; exact (gr_below hb _).trans (grown_putS _ _ _)
  have hA4 : c.At W4 (S ++ [k]) := by
    refine hA2.turn HC.out (w' := W4) (by rw [← hW4]; exact grown_putS _ _ _) ?_ ?_ ?_
    · rw [← hW4, ← withP_snoc, ← HPP.out]
      exact hF2.putS _
    · rw [List.nodup_append]
      refine ⟨HH.out.nod, by simp, fun x hx y hy => ?_⟩
      rw [List.mem_singleton.1 hy]
      intro e
      exact HKK.out (e ▸ hx)
    · intro x hx
      rcases List.mem_append.1 hx with hx | hx
      · exact HH.out.lt x hx
      · rw [List.mem_singleton.1 hx]; exact hkl
  have r0 := hA4.r0
  obtain ⟨s0, s1, s2, s3, s4, s5, s6⟩ := hA4.steps k n HN.out
  have g0 : (0 : Int) ≤ (k : Int) := by omega
  have g1 : (k : Int) < (c.ss.length : Int) := by omega
  have hop : n.op = 1 ∨ n.op = 2 ∨ n.op = 3 ∨ n.op = 4 ∨ n.op = 5 := by
    have := HRG.out
    unfold stRange at this
    omega
  clear hF2 hb2 hb hA2 d0 d1 d2 d3 HB1 HF1 C2 HF
  obtain ⟨W5, hW5⟩ : ∃ W5, W4.alloc (.cells #[.int .i64 n.op, .int .u64 n.c.a, .int .u64 n.c.b, .int .u64 n.c.c, .int .u64 n.c.d, .int .i64 n.x, .int .i64 n.y] 103) = W5 := ⟨_, rfl⟩
  have hb5 : Below W4.heap.size W4 W5 := by rw [← hW5]; exact (Below.refl _ _).alloc (Nat.le_refl _) _
  have hA5 := hid (hA4.below hb5)
  have hg5 : Hid (w.grownBy W5 (some c.bf)) := hg4.trans (gr_below hb5 _)
  have hh5 : W5.heap[W4.heap.size]? = some (.cells #[.int .i64 n.op, .int .u64 n.c.a, .int .u64 n.c.b, .int .u64 n.c.c, .int .u64 n.c.d, .int .i64 n.x, .int .i64 n.y] 103 (0, 0)) := by rw [← hW5]; exact heap_alloc_new W4 _
  have hne5 : c.bf ≠ W4.heap.size := by have := hA4.found.lt; omega
  have d0 := Lib.cell_of_heap hh5 0
  have d2 := Lib.cell_of_heap hh5 5
  have d3 := Lib.cell_of_heap hh5 6
  simp only [List.getElem?_toArray, List.getElem?_cons_zero, List.getElem?_cons_succ] at d0 d2 d3
  have HM : Hid (∀ w', W5.grownBy w' (some c.bf) → w'.cell? ⟨W4.heap.size, 6, none⟩ = some (.int .i64 n.y)) := fun w' hg => by
    have h1 := (hg.block W4.heap.size (heap_lt hh5) (by intro e; injection e with e; exact hne5 e.symm)).trans hh5
    exact (Lib.cell_of_heap h1 6).trans rfl
  have HFU := hid hfu
  have q0 := hA5.out.a0
  have q1 := hA5.out.a1
  have q2 := hA5.out.v0
  clear hA4 hg4 hb5 hh5 hne5 hfu
  have HXX : Hid ((n.op = 1 ∨ n.op = 2 ∨ n.op = 3 ∨ n.op = 4) → 0 ≤ n.x ∧ n.x < (c.ss.length : Int)) := fun h => by
    have := HRG.out
    unfold stRange at this
    omega
  have HYY : Hid (n.op = 2 → 0 ≤ n.y ∧ n.y < (c.ss.length : Int)) := fun h => by
    have := HRG.out
    unfold stRange at this
    omega
  -- nothing more
  have idle : Hid ((∀ y, ¬ Stp c.ss (tx c.fi c.la) k (pc c.fi) y (pc c.fi)) → ∀ v, YvP c S [k] w (.returned v) W5) := fun hno v =>
    ⟨v, S ++ [k], rfl, hA5.out, (Vst.refl _ _ _ _ [] (by simp)).enter (fun y => ⟨fun h => absurd h (hno y), fun h => by simp at h⟩), hg5.out⟩
  have goX : Hid ((n.op = 1 ∨ n.op = 2 ∨ n.op = 3 ∨ n.op = 4) → ∃ x : Nat, n.x = (x : Int) ∧ n.x.toNat = x ∧ x < c.ss.length ∧ Calls Tryd.prog 91 #[.int .i64 (x : Int), .pointer (some ⟨c.bf, 0, none⟩), .pointer (some ⟨c.bw, 0, none⟩), .pointer (some ⟨c.bv, 0, none⟩), .pointer (some ⟨c.ba, 0, none⟩)] W5 (YvP c (S ++ [k]) [x] W5)) := fun h => by
    obtain ⟨h0, h1⟩ := HXX.out h
    refine ⟨n.x.toNat, by omega, rfl, by omega, HIH.out (S ++ [k]) n.x.toNat W5 ?_ (by omega) hA5.out⟩
    have := HFU.out
    simp
    omega
  have one : Hid (∀ x, n.x.toNat = x → (∀ y, Stp c.ss (tx c.fi c.la) k (pc c.fi) y (pc c.fi) ↔ y = x) → ∀ v e W6, YvP c (S ++ [k]) [x] W5 e W6 → YvP c S [k] w (.returned v) W6) := fun x _ hx v e W6 hp => by
    obtain ⟨v', S', _, hA6, hV6, hg6⟩ := hp
    exact ⟨v, S', rfl, hA6, hV6.enter (fun y => by rw [hx y]; simp), hg5.out.trans hg6⟩
  clear HXX hA5
  rcases hop with h1 | h1 | h1 | h1 | h1
  · -- a byte
    have HP : Hid (∀ v, YvP c S [k] w (.returned v) W5) := idle.out (fun y hy => by rw [stp_stay HN.out] at hy; omega)
    rw [h1] at s0 d0 hW5
    clear idle goX one HM HYY HFU HRG HH HN HIH HC HKK HPP hg5
    go_wp2
    first | go_end0 | go_ret
    exact HP.out _
  · -- a fork
    obtain ⟨x, ex, exn, hxl, CX⟩ := goX.out (Or.inr (Or.inl h1))
    obtain ⟨y, eyn⟩ : ∃ y : Nat, n.y = (y : Int) := ⟨n.y.toNat, by have := HYY.out h1; omega⟩
    have hyl : y < c.ss.length := by have := HYY.out h1; omega
    have HYN : Hid (n.y.toNat = y) := by show _ = _; omega
    have HOP := hid h1
    have HXN := hid exn
    have CX := hid CX
    rw [h1] at s0 d0 hW5
    rw [ex] at s5 d2 hW5
    rw [eyn] at s6 d3 hW5 HM
    clear idle goX one HYY HRG HH HC HKK HPP exn h1
    go_wp2_with fail
    refine Calls.mono CX.out ?_
    rintro e W6 ⟨vv, S1, rfl, hA6, hV6, hg6⟩
    have e6 := HM.out W6 hg6
    have v6 := hA6.v0
    have HA6 := hid hA6
    have HV6 := hid hV6
    have HG6 := hid (hg5.out.trans hg6)
    have HF6 : Hid (c.ss.length ≤ S1.length + f) := by
      obtain ⟨m, hm⟩ := hV6.pre
      have := HFU.out
      show _ ≤ _
      rw [hm]
      simp
      omega
    clear hA6 hV6 hg6 q0 q1 q2 d0 d2 d3 HM
    go_wp2_with fail
    refine Calls.mono (HIH.out S1 y W6 HF6.out hyl HA6.out) ?_
    rintro e W7 ⟨vv2, S2, rfl, hA7, hV7, hg7⟩
    have HP : Hid (∀ v, YvP c S [k] w (.returned v) W7) := fun v => ⟨v, S2, rfl, hA7, (HV6.out.comp hV7).enter (fun z => by
      rw [stp_stay HN.out]
      have a1 := HOP.out
      have a2 := HXN.out
      have a3 := HYN.out
      simp
      constructor <;> intro hh <;> omega), HG6.out.trans hg7⟩
    clear hA7 hV7 hg7 v6 e6
    go_wp2
    first | go_end0 | go_ret
    exact HP.out _
  · -- the text's beginning
    cases hfi : c.fi with
    | true =>
      obtain ⟨x, ex, exn, hxl, CX⟩ := goX.out (Or.inr (Or.inr (Or.inl h1)))
      have HP : Hid (∀ v e W6, YvP c (S ++ [k]) [x] W5 e W6 → YvP c S [k] w (.returned v) W6) := one.out x exn (fun y => by
        rw [stp_stay HN.out]
        have := (tx_first c.fi).2 hfi
        constructor <;> intro hh <;> omega)
      have CX := hid CX
      rw [h1] at s0 d0 hW5
      rw [ex] at s5 d2 hW5
      rw [hfi] at q0
      clear idle goX one HYY HRG HH HC HKK HPP exn h1 HM HFU HIH HN hg5
      go_wp2_with fail
      refine Calls.mono CX.out ?_
      intro e W6 hp6
      obtain ⟨v6, _, rfl, _⟩ := id hp6
      go_wp2
      first | go_end0 | go_ret
      exact HP.out _ _ _ hp6
    | false =>
      have HP : Hid (∀ v, YvP c S [k] w (.returned v) W5) := idle.out (fun y hy => by
        rw [stp_stay HN.out] at hy
        have : ¬ pc c.fi = 0 := fun e => by have := (tx_first c.fi).1 e; rw [hfi] at this; cases this
        omega)
      rw [h1] at s0 d0 hW5
      rw [hfi] at q0
      clear idle goX one HM HYY HFU HRG HH HN HIH HC HKK HPP hg5
      go_wp2
      first | go_end0 | go_ret
      exact HP.out _
  · -- the text's end
    cases hla : c.la with
    | true =>
      obtain ⟨x, ex, exn, hxl, CX⟩ := goX.out (Or.inr (Or.inr (Or.inr h1)))
      have HP : Hid (∀ v e W6, YvP c (S ++ [k]) [x] W5 e W6 → YvP c S [k] w (.returned v) W6) := one.out x exn (fun y => by
        rw [stp_stay HN.out]
        have := (tx_last c.fi c.la).2 hla
        constructor <;> intro hh <;> omega)
      have CX := hid CX
      rw [h1] at s0 d0 hW5
      rw [ex] at s5 d2 hW5
      rw [hla] at q1
      clear idle goX one HYY HRG HH HC HKK HPP exn h1 HM HFU HIH HN hg5
      go_wp2_with fail
      refine Calls.mono CX.out ?_
      intro e W6 hp6
      obtain ⟨v6, _, rfl, _⟩ := id hp6
      go_wp2
      first | go_end0 | go_ret
      exact HP.out _ _ _ hp6
    | false =>
      have HP : Hid (∀ v, YvP c S [k] w (.returned v) W5) := idle.out (fun y hy => by
        rw [stp_stay HN.out] at hy
        have : ¬ pc c.fi = (tx c.fi c.la).length := fun e => by have := (tx_last c.fi c.la).1 e; rw [hla] at this; cases this
        omega)
      rw [h1] at s0 d0 hW5
      rw [hla] at q1
      clear idle goX one HM HYY HFU HRG HH HN HIH HC HKK HPP hg5
      go_wp2
      first | go_end0 | go_ret
      exact HP.out _
  · -- the program's end
    have HP : Hid (∀ v, YvP c S [k] w (.returned v) W5) := idle.out (fun y hy => by rw [stp_stay HN.out] at hy; omega)
    rw [h1] at s0 d0 hW5
    clear idle goX one HM HYY HFU HRG HH HN HIH HC HKK HPP hg5
    go_wp2
    first | go_end0 | go_ret
    exact HP.out _
theorem yvisit_any (c : Yc) (hc : c.Good) : ∀ f, YvOk c f
  | 0 => by
    intro S k w hfu hkl h
    have hS := h.len
    refine yvisit_seen c hc S k w hkl h ?_
    refine Classical.byContradiction fun hk => ?_
    have := nodup_le c.ss.length (k :: S) (List.nodup_cons.2 ⟨hk, h.nod⟩) (fun x hx => by
      rcases List.mem_cons.1 hx with rfl | hx
      · exact hkl
      · exact h.lt x hx)
    simp at this
    omega
  | f + 1 => by
    intro S k w hfu hkl h
    by_cases hk : k ∈ S
    · exact yvisit_seen c hc S k w hkl h hk
    · exact yvisit_new c hc f (yvisit_any c hc f) S k w hfu hkl h hk
end Go.Proofs.YtphcncgdodhlbaaDoor
namespace Go.Proofs.YtphcncgdodhlbaaDoor
set_option linter.unusedSimpArgs false
set_option linter.unusedVariables false
set_option maxRecDepth 100000
open Go.RowKit Go.Shelf
attribute [local go_sem] Oper.semAt_some
/-- Where it lays its variables. -/
def ycAt (ss : List St) (b off cap : Nat) (fi la : Bool) (z : Nat) : Yc := ⟨ss, b, off, cap, fi, la, z + 1 + 1 + 1 + 1, z, z + 1 + 1 + 1 + 1 + 1, z + 1 + 1⟩
theorem ycAt_good (ss : List St) (b off cap : Nat) (fi la : Bool) (z : Nat) (hf : stepsF ss = 0) (hb : b < z) : (ycAt ss b off cap fi la z).Good := by
  constructor <;> first | assumption | (simp only [ycAt]; omega)
theorem heap_at6 (w : World) (o0 o1 o2 o3 o4 o5 : Obj) (W : World) (h : W = (((((w.alloc o0).alloc o1).alloc o2).alloc o3).alloc o4).alloc o5) : W.heap[w.heap.size]? = some o0 ∧ W.heap[w.heap.size + 1]? = some o1 ∧ W.heap[w.heap.size + 1 + 1]? = some o2 ∧ W.heap[w.heap.size + 1 + 1 + 1]? = some o3 ∧ W.heap[w.heap.size + 1 + 1 + 1 + 1]? = some o4 ∧ W.heap[w.heap.size + 1 + 1 + 1 + 1 + 1]? = some o5 ∧ Below w.heap.size w W ∧ W.heap.size = w.heap.size + 6 := by
  subst h
  have key : ∀ (W : World) (o : Obj) (k : Nat) (x : Obj), W.heap[k]? = some x → (W.alloc o).heap[k]? = some x := fun W o k x h => (Below.heap_alloc W o k (heap_lt h)).trans h
  have new : ∀ (W : World) (o : Obj) (k : Nat), k = W.heap.size → (W.alloc o).heap[k]? = some o := fun W o k e => e ▸ World.alloc_heap_new W o
  exact ⟨key _ _ _ _ (key _ _ _ _ (key _ _ _ _ (key _ _ _ _ (key _ _ _ _ (new _ _ _ rfl))))), key _ _ _ _ (key _ _ _ _ (key _ _ _ _ (key _ _ _ _ (new _ _ _ (by simp))))), key _ _ _ _ (key _ _ _ _ (key _ _ _ _ (new _ _ _ (by simp)))), key _ _ _ _ (key _ _ _ _ (new _ _ _ (by simp))), key _ _ _ _ (new _ _ _ (by simp)), new _ _ _ (by simp),
    (((((((Below.refl _ _).alloc (Nat.le_refl _) _).alloc (by simp) _).alloc (by simp; omega) _).alloc (by simp; omega) _).alloc (by simp; omega) _).alloc (by simp; omega) _), by simp⟩
/-- A block of cells is none that the loop keeps. -/
theorem cells_keep {X Y : World} {row : Option Nat} (hg : X.grownBy Y row) (hr : ∀ r, row = some r → ∃ o : Obj, X.heap[r]? = some o ∧ o.isCells = false) {k : Nat} {o : Obj} (h : X.heap[k]? = some o) (ho : o.isCells = true) : Y.heap[k]? = some o := by
  refine (hg.block k (heap_lt h) (fun e => ?_)).trans h
  obtain ⟨o', h', hc⟩ := hr k e.symm
  rw [h] at h'
  obtain rfl := Option.some.inj h'
  rw [ho] at hc
  cases hc
theorem cells_keepc {X Y : World} {row : Option Nat} (hg : X.grownBy Y row) (hr : ∀ r, row = some r → ∃ o : Obj, X.heap[r]? = some o ∧ o.isCells = false) {k i : Nat} {v : Value} (h : X.cell? ⟨k, i, none⟩ = some v) : Y.cell? ⟨k, i, none⟩ = some v := by
  obtain ⟨ob, h1, h2⟩ := cell_block h
  rw [cell_of_block h1 (cells_keep hg hr h1 h2), h]
theorem SsAt.keep {X Y : World} {row : Option Nat} (hg : X.grownBy Y row) (hr : ∀ r, row = some r → ∃ o : Obj, X.heap[r]? = some o ∧ o.isCells = false) {b off : Nat} {ss : List St} (h : SsAt X b off ss) : SsAt Y b off ss := fun i n hi => by
  obtain ⟨h0, h1, h2, h3, h4, h5, h6⟩ := h i n hi
  exact ⟨cells_keepc hg hr h0, cells_keepc hg hr h1, cells_keepc hg hr h2, cells_keepc hg hr h3, cells_keepc hg hr h4, cells_keepc hg hr h5, cells_keepc hg hr h6⟩
theorem Hq.keep {X Y : World} {row : Option Nat} (hg : X.grownBy Y row) (hr : ∀ r, row = some r → ∃ o : Obj, X.heap[r]? = some o ∧ o.isCells = false) {b : Nat} {p : Nat → Bool} (h : Hq X b p) : Hq Y b p := cells_keep hg hr h rfl
theorem hq_own {β : Type} (B b : Nat) (f : β → Nat → Bool) : OwnFrom B (fun s W => Hq W b (f s)) := fun s X Y row hs hg hr => hs.keep hg (fun r e => (hr r e).2)
/-- Between two rounds. -/
def YcR (c : Yc) (z : Nat) (w : World) (pre : List Nat) (W : World) : Prop := ∃ S, c.At W S ∧ Vst c.ss (tx c.fi c.la) (pc c.fi) [] S pre ∧ Hq W z noP ∧ Below w.heap.size w W
theorem ycR_own (c : Yc) (z : Nat) (w : World) (B : Nat) (hB : w.heap.size ≤ B) : OwnFrom B (YcR c z w) := fun pre X Y row hs hg hr => by
  obtain ⟨S, hA, hV, hq, hb⟩ := hs
  have hr2 := fun r e => (hr r e).2
  refine ⟨S, ⟨hA.steps.keep hg hr2, cells_keepc hg hr2 hA.r0, cells_keepc hg hr2 hA.a0, cells_keepc hg hr2 hA.a1, cells_keepc hg hr2 hA.v0, hA.found.keep hg hr2, hA.nod, hA.lt, Nat.lt_of_lt_of_le hA.blt hg.size⟩, hV, hq.keep hg hr2, ?_⟩
  exact hb.grown hg hb.size (fun k e => Nat.le_trans hB (hr k e).1)
theorem Hq.putK {W : World} {b D : Nat} {p : Nat → Bool} (h : Hq W b p) (hK : W.heap[D]? = some (.deferred (some []))) (o : Obj) : Hq (W.putObj D o) b p := by
  have hne : b ≠ D := fun e => by
    rw [← e, show W.heap[b]? = _ from h] at hK
    cases hK
  exact (World.putObj_heap_other hne).trans h
theorem hq_def {W : World} {b D : Nat} {p : Nat → Bool} (h : Hq W b p) (q : Nat → Bool) (hK : W.heap[D]? = some (.deferred (some []))) : (putS W b q).heap[D]? = some (.deferred (some [])) := by
  have hne : D ≠ b := fun e => by
    rw [e, show W.heap[b]? = _ from h] at hK
    cases hK
  exact ((grown_putS W b q).block D (heap_lt hK) (by intro e; injection e with e; exact hne e)).trans hK
set_option maxHeartbeats 4000000 in
theorem sreached_in (ss : List St) (hf : stepsF ss = 0) (b off cap : Nat) (p : Nat → Bool) (hp : Sub ss p) (fi la : Bool) (w : World) (hT : Tab w) (hlt : b < w.heap.size) (hN : SsAt w b off ss) :
    CallsIn Fence.wide 3 Tryd.prog 87 #[wyV b off ss.length cap, stV p, pcV fi la] w fun e w' => e = .returned (stV (cloF ss fi la p)) ∧ Below w.heap.size w w' := by
  have HG := hid (ycAt_good ss b off cap fi la w.heap.size hf hlt)
  have HV := hid (yvisit_any _ HG.out)
  have h200 := (stepsF_zero hf).1
  obtain ⟨W0, hW0⟩ : ∃ W0, W0 = (((((w.alloc (.cells #[.slice (some ⟨b, off, none⟩) ss.length cap] 105)).alloc (.cells #[.int .u64 (wd p 0), .int .u64 (wd p 1), .int .u64 (wd p 2), .int .u64 (wd p 3)] 119)).alloc (.cells #[.bool fi, .bool la] 116)).alloc (.cells #[.int .u64 0, .int .u64 0, .int .u64 0, .int .u64 0] 119)).alloc (.cells #[.int .u64 0, .int .u64 0, .int .u64 0, .int .u64 0] 119)).alloc (.cells #[.nilFunc] 182) := ⟨_, rfl⟩
  obtain ⟨k0, k1, k2, k3, k4, k5, hB0, hs0⟩ := heap_at6 w _ _ _ _ _ _ W0 hW0
  have u5 : W0.cell? ⟨w.heap.size + 1 + 1 + 1 + 1 + 1, 0, none⟩ = some .nilFunc := (Lib.cell_of_heap k5 0).trans rfl
  have z5 := Lib.frozen_of_heap k5 0
  obtain ⟨W1, hW1⟩ : ∃ W1, W0.setCell ⟨w.heap.size + 1 + 1 + 1 + 1 + 1, 0, none⟩ (ycAt ss b off cap fi la w.heap.size).v = W1 := ⟨_, rfl⟩
  have hg1 : W0.grownBy W1 (some (w.heap.size + 1 + 1 + 1 + 1 + 1)) := by rw [← hW1]; exact grown_setS _ _ _ _
  have hB1 : Below w.heap.size w W1 := by rw [← hW1]; exact hB0.setCell (p := ⟨w.heap.size + 1 + 1 + 1 + 1 + 1, 0, none⟩) (by simp only; omega) _
  have hs1 : W1.heap.size = w.heap.size + 6 := by rw [← hW1]; simpa using hs0
  have kk : ∀ j o, j ≠ w.heap.size + 1 + 1 + 1 + 1 + 1 → W0.heap[j]? = some o → W1.heap[j]? = some o := fun j o hj h => (hg1.block j (heap_lt h) (by intro e; injection e with e; exact hj e)).trans h
  have m0 := kk _ _ (by omega) k0
  have m1 : Hq W1 (w.heap.size + 1) p := kk _ _ (by omega) k1
  have m2 := kk _ _ (by omega) k2
  have m3 : Hq W1 (w.heap.size + 1 + 1 + 1) noP := by
    have := kk _ _ (by omega) k3
    unfold Hq
    rw [wd_no, wd_no, wd_no, wd_no]
    exact this
  have m4 : Hq W1 (w.heap.size + 1 + 1 + 1 + 1) (fun j => decide (j ∈ ([] : List Nat))) := by
    have := kk _ _ (by omega) k4
    have e : (fun j => decide (j ∈ ([] : List Nat))) = noP := by funext j; simp [noP]
    rw [e]
    unfold Hq
    rw [wd_no, wd_no, wd_no, wd_no]
    exact this
  have m5 : W1.heap[w.heap.size + 1 + 1 + 1 + 1 + 1]? = some (.cells #[(ycAt ss b off cap fi la w.heap.size).v] 182 (0, 0)) := by
    rw [← hW1]
    simp [World.setCell, Array.getElem?_modify, k5]
  have hA1 : (ycAt ss b off cap fi la w.heap.size).At W1 [] := ⟨hN.below hB1 hlt, (Lib.cell_of_heap m0 0).trans rfl, (Lib.cell_of_heap m2 0).trans rfl, (Lib.cell_of_heap m2 1).trans rfl, (Lib.cell_of_heap m5 0).trans rfl, m4, by simp, by simp, Nat.lt_of_lt_of_le hlt hB1.size⟩
  obtain ⟨j0, j1, j2, j3⟩ := m1.all
  have HR1 : Hid (YcR (ycAt ss b off cap fi la w.heap.size) (w.heap.size + 1 + 1 + 1) w [] W1) := ⟨[], hA1, Vst.refl _ _ _ _ _ (by simp), m3, hB1⟩
  unfold Yc.v ycAt at hW1
  replace hW0 := hW0.symm
  clear k0 k1 k2 k3 k4 k5 m0 m1 m2 m3 m4 m5 kk hg1 hA1 hB0 hB1
  refine callsIn_of_wp_marks Tryd.func87 rfl trivial ?_ rfl
  simp only [Tryd.ntmps87, List.size_toArray, List.length_cons, List.length_nil, Nat.reduceAdd, Nat.reduceSub, Array.replicate_succ, Array.replicate_zero, List.push_toArray, List.append_toArray, List.nil_append, List.cons_append]
  unfold stV
  gi_wp2_with fail
  refine wpIn_runsTo rfl (by omega) 89 #[stV p] rfl trivial enters_srising (fun x : Nat => Value.int .i64 (x : Int)) Tab (el p 256) (srises (3 - 1) (by omega) p) rfl
    (YcR (ycAt ss b off cap fi la w.heap.size) (w.heap.size + 1 + 1 + 1) w) (fun _ _ => False)
    (ycR_own _ _ _ _ (by omega)) (ownFrom_pure _ (fun _ => False))
    (fun pre W h => by obtain ⟨_, _, _, _, hb⟩ := h; exact hT.below hb (Nat.le_refl _))
    HR1.out
    (fun x => { tmps := #[wyV b off ss.length cap, stV p, pcV fi la, .pointer (some ⟨w.heap.size, 0, none⟩), .pointer (some ⟨w.heap.size + 1, 0, none⟩), .pointer (some ⟨w.heap.size + 1 + 1, 0, none⟩), .pointer (some ⟨w.heap.size + 1 + 1 + 1, 0, none⟩), .pointer (some ⟨w.heap.size + 1 + 1 + 1 + 1, 0, none⟩), .pointer (some ⟨w.heap.size + 1 + 1 + 1 + 1 + 1, 0, none⟩), .int .i64 (x : Int), (ycAt ss b off cap fi la w.heap.size).v, stV p, .func (.func 89) #[stV p] #[], .int .i64 (x : Int), undef, undef, undef, undef], defers := [] }) ?assign ?body ?done ?stop
  case assign =>
    intro l x W K hK
    gi_wp2
    exact hK
  case body =>
    rintro l pre x rest W hx ⟨S, hA, hV, hq, hB⟩
    obtain ⟨hpx, hxl⟩ := el_one hp hx
    have v0 : W.cell? ⟨w.heap.size + 1 + 1 + 1 + 1 + 1, 0, none⟩ = some (.func (.func 91) #[] #[.pointer (some ⟨w.heap.size + 1 + 1 + 1 + 1, 0, none⟩), .pointer (some ⟨w.heap.size, 0, none⟩), .pointer (some ⟨w.heap.size + 1 + 1 + 1 + 1 + 1, 0, none⟩), .pointer (some ⟨w.heap.size + 1 + 1, 0, none⟩)]) := hA.v0
    have C := hid (HV.out ss.length S x W (by show ss.length ≤ _; omega) hxl hA)
    have HA := hid hA
    have HVS := hid hV
    have HB := hid hB
    have HQ := hid hq
    clear hA hV hB hq hx hW0 hW1 u5 z5 j0 j1 j2 j3 HR1
    gi_wp2_with fail
    refine ⟨trivial, (callsIn_wide.2 C.out).mono ?_⟩
    rintro e W6 ⟨vv, S1, rfl, hA6, hV6, hg6⟩
    gi_wp2
    have hg6' : W.grownBy W6 (some (w.heap.size + 1 + 1 + 1 + 1)) := hg6
    refine ⟨⟨hg6'.size, fun k o hk ho _ => ?_⟩, S1, hA6, HVS.out.comp hV6, HQ.out.grown hg6' (by intro e; injection e with e; omega), HB.out.grown hg6' HB.out.size (fun k e => by injection e with e; omega)⟩
    exact (hg6'.block k (heap_lt ho) (by intro e; injection e with e; omega)).trans ho
  case done =>
    rintro D W hD ⟨S, hA, hV, hq, hB⟩ hK
    have hcl : (fun j => decide (j ∈ S)) = cloF ss fi la p := clo_list h200 hp hV
    have hF : Hq W (w.heap.size + 1 + 1 + 1 + 1) (cloF ss fi la p) := by rw [← hcl]; exact hA.found
    obtain ⟨c0, c1, c2, c3⟩ := hF.all
    obtain ⟨d0, d1, d2, d3⟩ := hq.all
    obtain ⟨f0, f1, f2, f3⟩ := hq.frz
    have HF := hid hF
    have HQ := hid hq
    have HB := hid hB
    clear hF hq hB hA hV hcl hW0 hW1 u5 z5 j0 j1 j2 j3 HR1
    gi_wp2
    have hKD := hq_def HQ.out (cloF ss fi la p) hK
    have hq2 := (HQ.out.putS (cloF ss fi la p)).putK hKD (.deferred none)
    obtain ⟨e0, e1, e2, e3⟩ := hq2.all
    refine ⟨by simp, .inl ⟨_, _, rfl, run_takeDeferred hKD, ?_⟩⟩
    refine ⟨stV (cloF ss fi la p), by simp [results, Tryd.results87, go_sem, stV, e0, e1, e2, e3], rfl, ?_⟩
    exact (below_putS HB.out (by omega) _).trans (belowK_b (w := w) (Nat.le_refl _) _ D _ _ (by omega) hKD rfl rfl)
  case stop =>
    intro D pre W _ h
    exact h.elim
theorem sreached_any (ss : List St) (hf : stepsF ss = 0) (b off cap : Nat) (p : Nat → Bool) (hp : Sub ss p) (fi la : Bool) (w : World) (hT : Tab w) (hlt : b < w.heap.size) (hN : SsAt w b off ss) :
    Calls Tryd.prog 87 #[wyV b off ss.length cap, stV p, pcV fi la] w fun e w' => e = .returned (stV (cloF ss fi la p)) ∧ Below w.heap.size w w' := callsIn_wide.1 (sreached_in ss hf b off cap p hp fi la w hT hlt hN)
end Go.Proofs.YtphcncgdodhlbaaDoor
namespace Go.Proofs.YtphcncgdodhlbaaDoor
set_option linter.unusedSimpArgs false
set_option linter.unusedVariables false
set_option maxRecDepth 100000
open Go.RowKit Go.Shelf
attribute [local go_sem] Oper.semAt_some
theorem heap_at3 (w : World) (o0 o1 o2 : Obj) (W : World) (h : W = ((w.alloc o0).alloc o1).alloc o2) : W.heap[w.heap.size]? = some o0 ∧ W.heap[w.heap.size + 1]? = some o1 ∧ W.heap[w.heap.size + 1 + 1]? = some o2 ∧ Below w.heap.size w W ∧ W.heap.size = w.heap.size + 3 := by
  subst h
  have key : ∀ (W : World) (o : Obj) (k : Nat) (x : Obj), W.heap[k]? = some x → (W.alloc o).heap[k]? = some x := fun W o k x h => (Below.heap_alloc W o k (heap_lt h)).trans h
  have new : ∀ (W : World) (o : Obj) (k : Nat), k = W.heap.size → (W.alloc o).heap[k]? = some o := fun W o k e => e ▸ World.alloc_heap_new W o
  exact ⟨key _ _ _ _ (key _ _ _ _ (new _ _ _ rfl)), key _ _ _ _ (new _ _ _ (by simp)), new _ _ _ (by simp), (((Below.refl _ _).alloc (Nat.le_refl _) _).alloc (by simp) _).alloc (by simp; omega) _, by simp⟩
set_option maxHeartbeats 4000000 in
theorem sbegin_any (ss : List St) (hf : stepsF ss = 0) (b off cap : Nat) (fi la : Bool) (w : World) (hT : Tab w) (hlt : b < w.heap.size) (hN : SsAt w b off ss) :
    Calls Tryd.prog 75 #[wyV b off ss.length cap, pcV fi la] w fun e w' => e = .returned (stV (begS ss fi la)) ∧ Below w.heap.size w w' := by
  obtain ⟨w0, hw0⟩ : ∃ w0, w0 = (((w.alloc (.cells #[.slice (some ⟨b, off, none⟩) ss.length cap] 105)).alloc (.cells #[.bool fi, .bool la] 116)).alloc (.cells #[.int .u64 0, .int .u64 0, .int .u64 0, .int .u64 0] 119)) := ⟨_, rfl⟩
  obtain ⟨k0, k1, k2, hB0, hs0⟩ := heap_at3 w _ _ _ w0 hw0
  have hK : Hid (∀ w', Below w0.drew.heap.size w0.drew w' → w'.cell? ⟨w.heap.size, 0, none⟩ = some (.slice (some ⟨b, off, none⟩) ss.length cap) ∧ w'.cell? ⟨w.heap.size + 1, 0, none⟩ = some (.bool fi) ∧ w'.cell? ⟨w.heap.size + 1, 1, none⟩ = some (.bool la) ∧ Hq w' (w.heap.size + 1 + 1) noP ∧ Tab w' ∧ b < w'.heap.size ∧ SsAt w' b off ss ∧ Below w.heap.size w w') := fun w' hb => by
    have hb2 := hB0.drew.trans (hb.mono (by show _ ≤ w0.heap.size; omega))
    refine ⟨(Lib.cell_of_heap ((hb.block _ (heap_lt k0)).trans k0) 0).trans rfl, (Lib.cell_of_heap ((hb.block _ (heap_lt k1)).trans k1) 0).trans rfl, (Lib.cell_of_heap ((hb.block _ (heap_lt k1)).trans k1) 1).trans rfl, ?_, hT.below hb2 (Nat.le_refl _), Nat.lt_of_lt_of_le hlt hb2.size, hN.below hb2 hlt, hb2⟩
    unfold Hq
    rw [wd_no, wd_no, wd_no, wd_no]
    exact (hb.block _ (heap_lt k2)).trans k2
  obtain ⟨c0, p0, p1, hZ, _⟩ := hK.out w0.drew (Below.refl _ _)
  replace c0 : w0.cell? ⟨w.heap.size, 0, none⟩ = _ := c0
  replace p0 : w0.cell? ⟨w.heap.size + 1, 0, none⟩ = _ := p0
  replace p1 : w0.cell? ⟨w.heap.size + 1, 1, none⟩ = _ := p1
  replace hZ : Hq w0 _ noP := hZ
  obtain ⟨f0, f1, f2, f3⟩ := hZ.frz
  have CW := hid (fun w => swith_any noP 0 (by omega) w)
  have CR := hid (fun w' (hT : Tab w') hlt hN => sreached_any ss hf b off cap (withP noP 0) (zero_sub (stepsF_zero hf).2.1) fi la w' hT hlt hN)
  rw [stV_no] at CW
  clear k0 k1 k2 hB0 hs0 hT hlt hN hZ
  go_enter Tryd.func75, Tryd.ntmps75
  go_wp2_with fail
  rw [← hw0]
  clear hw0
  go_region_with (first
    | (go_at_call 88; refine (CW.out _).mono ?_; rintro e w1 ⟨rfl, hb1⟩; obtain ⟨c0', p0', p1', hZ', hT', hl', hN', _⟩ := hK.out w1 hb1; obtain ⟨g0, g1, g2, g3⟩ := hZ'.frz)
    | (go_at_call 87; refine (CR.out w1 hT' hl' hN').mono ?_; rintro e w2 ⟨rfl, hb2⟩; obtain ⟨_, _, _, hZ2, _, _, _, hB2⟩ := hK.out w2 (hb1.trans (hb2.mono hb1.size)); obtain ⟨q0, q1, q2, q3⟩ := hZ2.frz; obtain ⟨d0, d1, d2, d3⟩ := hZ2.all; unfold stV))
  all_goals go_wp2
  all_goals
    have hq := hZ2.putS (cloF ss fi la (withP noP 0))
    obtain ⟨e0, e1, e2, e3⟩ := hq.all
    refine bodyPost_ret (v := stV (cloF ss fi la (withP noP 0))) (by simp [results, Tryd.results75, go_sem, stV, e0, e1, e2, e3]) rfl ⟨rfl, ?_⟩
    exact below_putS hB2 (by omega) _
end Go.Proofs.YtphcncgdodhlbaaDoor
