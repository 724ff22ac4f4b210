/- Package words: end: a word's number is put into its place. Package words: grow: a byte more. slices.Repeat of one knot. Package words: the net grows: what lies between two rounds. A text's bytes. -/
import Derived.Test.YtciaagphclddjaaY08
import Derived.Laws.CopyRow
import Derived.Laws.Tables
import Derived.Laws.CopyOwn
import Derived.Shelf.Spec.SlicesInsert
import Derived.Test.YtciaagphclddjaaY02
import Derived.OwnWalk
import Derived.KernelRfl
namespace Go.Proofs.Ytciaagphclddjaa
set_option linter.unusedSimpArgs false
set_option linter.unusedVariables false
set_option maxRecDepth 100000
open Go.RowKit Go.Shelf
attribute [local go_sem] Oper.semAt_some
/-- append of one number, which lies in a new row. -/
theorem wpList_append_isn {ops : Array Oper} {rest : List Oper} {o : Oper} {a : Act} {Q : Exit → Act → World → Prop} {w : World} (hgd : o.guard = none) (s x : Operand)
    (ho : o.op = .call { callee := .builtin .append, args := #[s, x], argTypes := #[57, 57] })
    (B : Nat) (v : Value) (hs : a.eval s = v) (l : List Nat) (hown : IsOwn w B v l) (g2 c2 n : Nat) (hx : a.eval x = .slice (some ⟨g2, 0, none⟩) 1 c2)
    (hnew : w.cell? ⟨g2, 0, none⟩ = some (.int .i64 (n : Int))) (hlen : l.length ≤ 1000000000) (hbase : B ≤ w.heap.size)
    (h : ∀ g cap w', IsOwn w' B (.slice (some ⟨g, 0, none⟩) (l.length + 1) cap) (l ++ [n]) → w.grownBy w' v.ownBlock → B ≤ g → g < w'.heap.size → (v.ownBlock = some g ∨ g = w.heap.size) → wpList Try.prog ops Q rest (a.put o.dst (.slice (some ⟨g, 0, none⟩) (l.length + 1) cap)) w') : wpList Try.prog ops Q (o :: rest) a w := by
  have hinfo : (Try.prog.info? 3).map (fun i => (i.zero, i.size, i.bytes)) = some (some (.int .i64 0), 1, 8) := by kernel_rfl
  obtain ⟨i0, hi, hz0, hz1, hz2⟩ := info_parts hinfo
  refine wpList_append_lies w hgd s x 57 ho B 3 i0 _ 1 8 Try.underlying57 hi hz0 hz1 hz2 rfl (by decide) v l.length (isCells l) hs hown ⟨g2, 0, none⟩ 1 c2 (isCells [n]) hx rfl ?_ (by simp [isCells, Value.oneCell']) (by omega) (by unfold maxLen; omega) (by omega) hbase _ rfl ?_
  · intro j u hj
    cases j with
    | zero =>
      simp [isCells] at hj
      subst hj
      rw [Addr.add_lit]
      exact hnew
    | succ j => simp [isCells] at hj
  · intro g cap w' h1 h2 h3 h4
    have e : IsOwn w' B (.slice (some ⟨g, 0, none⟩) (l.length + 1) cap) (l ++ [n]) := by
      unfold IsOwn
      simpa [isCells] using h1
    have hg : B ≤ g := by
      rcases h3 with h3 | h3
      · rcases hown.2 with ⟨hv, _⟩ | ⟨g', cap', cur, hv, hb, _⟩
        · rw [hv] at h3; cases h3
        · rw [hv] at h3
          injection h3 with h3
          simp at h3
          omega
      · omega
    exact h g cap w' e h2 hg h4 h3
/-- Cells of other types than the net's lie as they lay. -/
structure Kst (w w' : World) : Prop where
  size : w.heap.size ≤ w'.heap.size
  same : ∀ (k : Nat) (x : Array Value) (t : TypeId) (f : Nat × Nat), w.heap[k]? = some (.cells x t f) → t ≠ 59 → t ≠ 3 → w'.heap[k]? = some (.cells x t f)
theorem Kst.refl (w : World) : Kst w w := ⟨Nat.le_refl _, fun _ _ _ _ h _ _ => h⟩
theorem Kst.trans {a b c : World} (h : Kst a b) (h' : Kst b c) : Kst a c := ⟨Nat.le_trans h.size h'.size, fun k x t f hk h1 h2 => h'.same k x t f (h.same k x t f hk h1 h2) h1 h2⟩
theorem Kst.below {w w' : World} (h : Below w.heap.size w w') : Kst w w' := ⟨h.size, fun k x t f hk _ _ => (h.block k (hpLt hk)).trans hk⟩
theorem knC_set {w : World} {b M : Nat} {a : Option Nat} {u : Value} (v : Value) (h : w.heap[b]? = some (knC M a u)) : (w.setCell ⟨b, 2, none⟩ v).heap[b]? = some (knC M a v) := by
  simp [World.setCell, Array.getElem?_modify, h]
set_option maxHeartbeats 4000000 in
theorem kend_any {D : List UInt8 → Bool} {E : List UInt8 → List Nat} {kb mb : List UInt8 → Nat} {ev : List UInt8 → Value} {B : Nat} {w : World} (h : Net D E kb mb ev B w) (x : List UInt8) (hx : D x = true) (n : Nat) (l : List Nat) (hE : (E x).length < 20) (hp : (E x ++ [n]).Perm l) (hs : l.Pairwise (· < ·)) :
    Calls Try.prog 24 #[.pointer (some ⟨kb x, 0, none⟩), .int .i64 (n : Int)] w fun e w' => e = .returned (.tuple #[]) ∧ ∃ v, Net D (putL E x l) kb mb (putL ev x v) B w' ∧ Below B w w' ∧ Kst w w' := by
  have hll : l.length = (E x).length + 1 := by have := hp.length_eq; simp at this; omega
  have hsz := h.size
  have hk := h.kn x hx
  have hown := h.en x hx
  obtain ⟨va, vc, hv⟩ := hown.form
  have hlo := h.lo x hx
  have HN := hid h
  have HPS := hid (And.intro hp hs)
  obtain ⟨W0, hW0⟩ : ∃ W0, w.alloc (.cells #[.int .i64 (n : Int)] 3) = W0 := ⟨_, rfl⟩
  have hb0 : Below w.heap.size w W0 := by rw [← hW0]; exact (Below.refl _ _).alloc (Nat.le_refl _) _
  have hq0 : W0.heap[w.heap.size]? = some (.cells #[.int .i64 (n : Int)] 3 (0, 0)) := by rw [← hW0]; exact World.alloc_heap_new w _
  have cn : W0.cell? ⟨w.heap.size, 0, none⟩ = some (.int .i64 (n : Int)) := by rw [Lib.cell_of_heap hq0]; rfl
  have hown0 := hown.kept hb0
  have hS0 : W0.heap.size = w.heap.size + 1 := by rw [← hW0]; simp
  have a2 := Lib.cell_of_heap hk 2
  simp only [List.getElem?_toArray, List.getElem?_cons_zero, List.getElem?_cons_succ] at a2
  have HV := hid hv
  rw [hv] at a2 hown0
  have HK := hid hk
  have HB0 := hid hb0
  have HO0 := hid hown0
  have HS0 := hid hS0
  have HLL := hid hll
  have HLO := hid hlo
  have HSZ := hid hsz
  clear h hp hs hk hown hv hb0 hq0 hown0 hll hlo
  go_enter Try.func24, Try.ntmps24
  go_wp2_with (at_builtin; refine wpList_append_isn rfl _ _ rfl B _ rfl (E x) HO0.out w.heap.size 1 n rfl cn (by omega) (by rw [HS0.out]; omega) ?_)
  intro g cap w1 hown1 hgr hg hgl hor
  have hkW : W0.heap[kb x]? = some (knC (mb x) (bkO D kb x) (ev x)) := (HB0.out.block _ (hpLt HK.out)).trans HK.out
  have hkne : (Value.slice va (E x).length vc).ownBlock ≠ some (kb x) := fun e => by
    obtain ⟨_, cur, h3⟩ := HO0.out.blk e
    exact two_cells h3 hkW (by decide) rfl
  have hk1 : w1.heap[kb x]? = some (knC (mb x) (bkO D kb x) (ev x)) := (hgr.block _ (hpLt hkW) (fun e => hkne e.symm)).trans hkW
  have hgk : g ≠ kb x := fun e => by
    obtain ⟨_, cur, h3⟩ := hown1.blk (b := g) rfl
    exact two_cells h3 hk1 (by decide) e
  have d2 := Lib.cell_of_heap hk1 2
  have z2 := Lib.frozen_of_heap hk1 2
  simp only [List.getElem?_toArray, List.getElem?_cons_zero, List.getElem?_cons_succ] at d2
  obtain ⟨w2, hw2⟩ : ∃ w2, w1.setCell ⟨kb x, 2, none⟩ (.slice (some ⟨g, 0, none⟩) ((E x).length + 1) cap) = w2 := ⟨_, rfl⟩
  have hk2 : w2.heap[kb x]? = some (knC (mb x) (bkO D kb x) (.slice (some ⟨g, 0, none⟩) ((E x).length + 1) cap)) := by rw [← hw2]; exact knC_set _ hk1
  have hot : ∀ k, k ≠ kb x → w2.heap[k]? = w1.heap[k]? := fun k hk => by rw [← hw2]; exact Below.heap_setCell _ _ _ _ (fun e => hk e)
  have hs2 : w2.heap.size = w1.heap.size := by rw [← hw2]; simp [World.setCell]
  have hw2f : w1.grownBy w2 (some (kb x)) := by rw [← hw2]; exact ⟨rfl, rfl, rfl, by simp [World.setCell], fun k _ hk => Below.heap_setCell _ _ _ _ (fun e => hk (by rw [e]))⟩
  have b2 := Lib.cell_of_heap hk2 2
  simp only [List.getElem?_toArray, List.getElem?_cons_zero, List.getElem?_cons_succ] at b2
  have hown2 : IsOwn w2 B (.slice (some ⟨g, 0, none⟩) (E x ++ [n]).length cap) (E x ++ [n]) := by
    rw [List.length_append, List.length_singleton]
    exact hown1.same (fun b e => hot b (fun e' => hgk (by rw [← e']; injection e)))
  have hl1 : ((E x ++ [n]).map fun x : Nat => (x : Int)).length = (E x).length + 1 := by simp
  have C := slices_Sort_int g 0 cap ((E x ++ [n]).map fun x : Nat => (x : Int)) w2 (isOwn_holds hown2) (by omega) (by omega)
  rw [hl1, sort_end _ _ HPS.out.1 HPS.out.2] at C
  have HCC := hid C
  have HR : Hid (∀ nn os, ∃ v, Net D (putL E x l) kb mb (putL ev x v) B (Sort.grow (Sort.putRow (Value.int .i64) (Sort.ahead w2 nn) g 0 (l.map fun x : Nat => (x : Int)).toArray) os) ∧ Below B w (Sort.grow (Sort.putRow (Value.int .i64) (Sort.ahead w2 nn) g 0 (l.map fun x : Nat => (x : Int)).toArray) os) ∧ Kst w (Sort.grow (Sort.putRow (Value.int .i64) (Sort.ahead w2 nn) g 0 (l.map fun x : Nat => (x : Int)).toArray) os)) := by
    intro nn os
    have ll : l.length = (E x ++ [n]).length := by rw [HLL.out]; simp
    have o3 := isOwn_sorted (n := nn) (os := os) hown2 ll
    have hgb : w2.heap[g]? = w1.heap[g]? := hot g hgk
    have g3 : w2.grownBy (Sort.grow (Sort.putRow (Value.int .i64) (Sort.ahead w2 nn) g 0 (l.map fun x : Nat => (x : Int)).toArray) os) (some g) := grownBy_sortedI _
    generalize Sort.grow (Sort.putRow (Value.int .i64) (Sort.ahead w2 nn) g 0 (l.map fun x : Nat => (x : Int)).toArray) os = w3 at *
    have hgown : ∀ k, k < w.heap.size → (Value.slice va (E x).length vc).ownBlock ≠ some k → k ≠ g := fun k hk hne e => by
      rcases hor with h1 | h1
      · exact hne (by rw [h1, e])
      · have := HS0.out
        omega
    have hs1 := hgr.size
    have hall : ∀ k, k < w.heap.size → k ≠ kb x → (Value.slice va (E x).length vc).ownBlock ≠ some k → w3.heap[k]? = w.heap[k]? := fun k hk h1 h2 => by
      have := HS0.out
      rw [g3.block k (by omega) (by intro e; injection e with e; exact hgown k hk h2 e), hot k h1, hgr.block k (by omega) (fun e => h2 e.symm), HB0.out.block k hk]
    refine ⟨.slice (some ⟨g, 0, none⟩) l.length cap, ?_, ?_, ?_⟩
    · refine HN.out.ends x hx _ l (by intro e; rw [e] at ll; simp at ll) (by rw [HLL.out]; omega) ?_ ?_ o3 ?_
      · intro k hk h1 h2
        rw [HV.out] at h2
        exact hall k hk h1 h2
      · rw [g3.block _ (hpLt hk2) (by intro e; injection e with e; exact hgk e.symm), hk2, HLL.out]
      · intro b e
        injection e with e
        simp only at e
        subst e
        rw [HV.out]
        rcases hor with h1 | h1
        · exact Or.inl h1
        · exact Or.inr (by have := HS0.out; omega)
    · have hBk := HLO.out.1
      refine ⟨g3.os.trans (hw2f.os.trans (hgr.os.trans HB0.out.os)), g3.tape.trans (hw2f.tape.trans (hgr.tape.trans HB0.out.tape)), g3.output.trans (hw2f.output.trans (hgr.output.trans HB0.out.output)), by have := g3.size; have := HS0.out; omega, fun k hk => ?_⟩
      refine hall k (by have := HSZ.out; omega) (by omega) (fun e => ?_)
      obtain ⟨h3, _⟩ := HO0.out.blk e
      omega
    · refine ⟨by have := g3.size; have := HS0.out; omega, fun k y t f hk h1 h2 => ?_⟩
      rw [hall k (hpLt hk) (fun e => ?_) (fun e => ?_), hk]
      · exact two_cells hk HK.out h1 e
      · obtain ⟨_, cur, h3⟩ := HO0.out.blk e
        rw [HB0.out.block k (hpLt hk)] at h3
        exact two_cells hk h3 h2 rfl
  clear hown1 hgr hor hown2 C hk1 hk2 hot hw2f hkW hkne HO0 cn HB0 HN HK HLO
  go_wp2_with fail
  refine Calls.mono HCC.out ?_
  rintro e w3 ⟨rfl, nn, os, rfl⟩
  go_wp2
  go_end0
  exact ⟨rfl, HR.out nn os⟩
end Go.Proofs.Ytciaagphclddjaa
namespace Go.Proofs.Ytciaagphclddjaa
set_option linter.unusedSimpArgs false
set_option linter.unusedVariables false
set_option maxRecDepth 100000
open Go.RowKit Go.Shelf
/-- What a call of grow leaves. -/
def GrP (D : List UInt8 → Bool) (E : List UInt8 → List Nat) (kb : List UInt8 → Nat) (B : Nat) (w : World) (q : List UInt8) (e : Ending) (w' : World) : Prop :=
  ∃ D' E' kb' mb' ev', Net D' E' kb' mb' ev' B w' ∧ (∀ s, D' s = (D s || decide (s = q))) ∧ (∀ s, D s = true → E' s = E s ∧ kb' s = kb s) ∧ (D q = false → E' q = E (bkF D q)) ∧ e = .returned (.pointer (some ⟨kb' q, 0, none⟩)) ∧ Below B w w' ∧ Kst w w'
set_option maxHeartbeats 4000000 in
theorem kgrow_old {D : List UInt8 → Bool} {E : List UInt8 → List Nat} {kb mb : List UInt8 → Nat} {ev : List UInt8 → Value} {B : Nat} {w : World} (h : Net D E kb mb ev B w) (p : List UInt8) (hp : D p = true) (c : UInt8) (hq : D (p ++ [c]) = true) :
    Calls Try.prog 23 #[.pointer (some ⟨kb p, 0, none⟩), .int .u8 (c.toNat : Int)] w (GrP D E kb B w (p ++ [c])) := by
  have HR : Hid (GrP D E kb B w (p ++ [c]) (.returned (.pointer (some ⟨kb (p ++ [c]), 0, none⟩))) w) := ⟨D, E, kb, mb, ev, h, fun s => by
    by_cases e : s = p ++ [c]
    · rw [e, hq, Bool.true_or]
    · rw [decide_eq_false e, Bool.or_false], fun s _ => ⟨rfl, rfl⟩, (fun hn => by rw [hq] at hn; cases hn), rfl, Below.refl _ _, Kst.refl w⟩
  have hk := h.kn p hp
  have look := (h.mp p hp).look c
  have a0 := Lib.cell_of_heap hk 0
  have a1 := Lib.cell_of_heap hk 1
  simp only [List.getElem?_toArray, List.getElem?_cons_zero, List.getElem?_cons_succ] at a0 a1
  have e1 : nxO D kb p c = some (kb (p ++ [c])) := by unfold nxO; rw [if_pos hq]
  rw [e1] at look
  simp only [ptO, Option.map_some] at look
  clear h hk e1 hq
  go_enter Try.func23, Try.ntmps23
  go_wp2_with fail
  go_ret
  exact HR.out
set_option maxHeartbeats 8000000 in
theorem kgrow_new {D : List UInt8 → Bool} {E : List UInt8 → List Nat} {kb mb : List UInt8 → Nat} {ev : List UInt8 → Value} {B : Nat} {w : World} (h : Net D E kb mb ev B w) (p : List UInt8) (hp : D p = true) (c : UInt8) (hq : D (p ++ [c]) = false) (hlen : ∀ s, D s = true → s.length ≤ p.length + 1) :
    Calls Try.prog 23 #[.pointer (some ⟨kb p, 0, none⟩), .int .u8 (c.toNat : Int)] w (GrP D E kb B w (p ++ [c])) := by
  have HN := hid h
  obtain ⟨r, hr⟩ : ∃ r, bkF D (p ++ [c]) = r := ⟨_, rfl⟩
  have hDr : D r = true := by rw [← hr]; exact bkF_in h.nil _
  have hk := h.kn p hp
  have look := (h.mp p hp).look c
  have a0 := Lib.cell_of_heap hk 0
  have a1 := Lib.cell_of_heap hk 1
  simp only [List.getElem?_toArray, List.getElem?_cons_zero, List.getElem?_cons_succ] at a0 a1
  have e1 : nxO D kb p c = none := by unfold nxO; rw [if_neg (by rw [hq]; simp)]
  rw [e1] at look
  simp only [ptO, Option.map_none] at look
  -- the new knot's slice
  obtain ⟨W1, hW1⟩ : ∃ W1, w.alloc (.map #[] 0) = W1 := ⟨_, rfl⟩
  have hb1 : Below w.heap.size w W1 := by rw [← hW1]; exact (Below.refl _ _).alloc (Nat.le_refl _) _
  have HM1 : Hid (Kw W1 w.heap.size (fun _ => none)) := by rw [← hW1]; exact Kw.made w
  have h1 := h.below hb1
  have hS1 : W1.heap.size = w.heap.size + 1 := by rw [← hW1]; simp
  have HC := hid (iclone_any (E r) (ev r) B W1 (h1.en r hDr) (h1.short r hDr) (h1.enil r hDr))
  have HB1 := hid hb1
  have HS1 := hid hS1
  have kr := h.kn r hDr
  have kr1 := (hb1.block _ (hpLt kr)).trans kr
  have r2 := Lib.cell_of_heap kr1 2
  simp only [List.getElem?_toArray, List.getElem?_cons_zero, List.getElem?_cons_succ] at r2
  have HP := hid (And.intro hp (And.intro hq hlen))
  have HRR := hid hr
  have HDR := hid hDr
  have HSZ := hid h.size
  -- behind it
  have HR : Hid (∀ u w2, IsOwn w2 W1.heap.size u (E r) → (E r = [] → u = .slice none 0 0) → Below W1.heap.size W1 w2 → ∀ w3, (w2.alloc (knC w.heap.size (some (kb r)) u)).grownBy w3 (some (mb p)) → Kw w3 (mb p) (fun d => if d = c then some w2.heap.size else nxO D kb p d) → GrP D E kb B w (p ++ [c]) (.returned (.pointer (some ⟨w2.heap.size, 0, none⟩))) w3) := by
    intro u w2 hu hun hb2 w3 hg hkw
    have hb3 : Below w2.heap.size w2 (w2.alloc (knC w.heap.size (some (kb r)) u)) := (Below.refl _ _).alloc (Nat.le_refl _) _
    have hs2 := hb2.size
    have hS := HS1.out
    have hbw : Below w.heap.size w (w2.alloc (knC w.heap.size (some (kb r)) u)) := (HB1.out.trans (hb2.mono HB1.out.size)).trans (hb3.mono (by omega))
    have hσ : (w2.alloc (knC w.heap.size (some (kb r)) u)).heap[w2.heap.size]? = some (knC w.heap.size (some (kb r)) u) := World.alloc_heap_new w2 _
    have hM : Kw (w2.alloc (knC w.heap.size (some (kb r)) u)) w.heap.size (fun _ => none) := (HM1.out.same (hb2.block _ (by omega))).same (hb3.block _ (by omega))
    have hu3 : IsOwn (w2.alloc (knC w.heap.size (some (kb r)) u)) w.heap.size u (E r) := (hu.kept hb3).mono (by omega)
    obtain ⟨hp, hq, hlen⟩ := HP.out
    have hr := HRR.out
    have hlo := (HN.out.lo p hp).2
    refine ⟨_, _, _, _, _, HN.out.grow p c hp hq hlen hbw w2.heap.size w.heap.size u (by omega) (Nat.le_refl _) (by rw [hr]; exact hσ) hM (by rw [hr]; exact hu3) (by rw [hr]; exact hun) hg hkw, fun s => ?_, fun s hs => ?_, fun _ => ?_, ?_, ?_, ?_⟩
    · by_cases e : s = p ++ [c]
      · rw [e, putL_same, decide_eq_true rfl, Bool.or_true]
      · rw [putL_ne _ _ e, decide_eq_false e, Bool.or_false]
    · have e : s ≠ p ++ [c] := fun e => by rw [e, hq] at hs; cases hs
      rw [putL_ne _ _ e, putL_ne _ _ e]
      exact ⟨rfl, rfl⟩
    · rw [putL_same]
    · rw [putL_same]
    · refine ⟨hg.os.trans hbw.os, hg.tape.trans hbw.tape, hg.output.trans hbw.output, Nat.le_trans (by have := HSZ.out; omega) (Nat.le_trans hbw.size hg.size), fun k hk => ?_⟩
      have hsz := HSZ.out
      have hws := hbw.size
      rw [hg.block k (by omega) (by intro e; injection e with e; omega), hbw.block k (by omega)]
    · refine ⟨Nat.le_trans hbw.size hg.size, fun k y t f hk h1 h2 => ?_⟩
      have hk2 := (hbw.block k (hpLt hk)).trans hk
      obtain ⟨es, cl, hm⟩ := (HN.out.mp p hp).heap
      rw [hg.block k (hpLt hk2) (by intro e; injection e with e; exact cells_not_map hk hm e), hk2]
  have HMP : Hid (∀ u w2, Below W1.heap.size W1 w2 → Kw (w2.alloc (knC w.heap.size (some (kb r)) u)) (mb p) (nxO D kb p)) := fun u w2 hb2 => by
    have hb3 : Below w2.heap.size w2 (w2.alloc (knC w.heap.size (some (kb r)) u)) := (Below.refl _ _).alloc (Nat.le_refl _) _
    have h2 := (h1.below hb2).below hb3
    exact h2.mp p hp
  have HKP : Hid (∀ u w2, Below W1.heap.size W1 w2 → (w2.alloc (knC w.heap.size (some (kb r)) u)).heap[kb p]? = some (knC (mb p) (bkO D kb p) (ev p))) := fun u w2 hb2 => by
    have hb3 : Below w2.heap.size w2 (w2.alloc (knC w.heap.size (some (kb r)) u)) := (Below.refl _ _).alloc (Nat.le_refl _) _
    have h2 := (h1.below hb2).below hb3
    exact h2.kn p hp
  have hmm := @run_makeMap Try.prog
  by_cases hpn : p = []
  · have e2 : bkO D kb p = none := if_pos hpn
    rw [e2] at a1
    simp only [ptO, Option.map_none] at a1
    have er : r = p := by subst hpn; rw [← hr]; rfl
    subst er
    clear h h1 hb1 hS1 hp hq hlen hr hDr hk e1 kr kr1 hpn e2
    go_enter Try.func23, Try.ntmps23
    go_wp2_with fail
    refine Calls.mono HC.out ?_
    rintro e w2 ⟨u, rfl, hu, hun, hb2⟩
    obtain ⟨ua, uc, hua⟩ := hu.form
    subst hua
    have HR2 := hid (HR.out _ w2 hu hun hb2)
    obtain ⟨w4, hw4⟩ : ∃ w4, w2.alloc (.cells #[.map (some w.heap.size), .pointer (some ⟨kb r, 0, none⟩), .slice ua (E r).length uc] 59) = w4 := ⟨_, rfl⟩
    have hk3 := HKP.out (.slice ua (E r).length uc) w2 hb2
    have hm3 := HMP.out (.slice ua (E r).length uc) w2 hb2
    rw [show w2.alloc (knC w.heap.size (some (kb r)) (.slice ua (E r).length uc)) = w4 from hw4] at HR2 hk3 hm3
    obtain ⟨w3, hup, hkw, hg3⟩ := hm3.put c w2.heap.size
    have b0 := Lib.cell_of_heap hk3 0
    simp only [List.getElem?_toArray, List.getElem?_cons_zero, List.getElem?_cons_succ] at b0
    have HR3 := hid (HR2.out w3 hg3 hkw)
    clear HR HR2 hkw hg3 hm3 hk3 HMP HKP hu hun hb2 HN HM1 r2 a0 a1 look
    go_wp2
    go_ret
    exact HR3.out
  · have e2 : bkO D kb p = some (kb (bkF D p)) := if_neg hpn
    rw [e2] at a1
    simp only [ptO, Option.map_some] at a1
    have CS := hid (kstep_any h (bkF D p) (bkF_in h.nil p) c)
    rw [← bkF_snoc h.pcl p c hpn, hr] at CS
    clear h h1 hb1 hS1 hp hq hlen hr hDr hk e1 kr kr1 hpn e2
    go_enter Try.func23, Try.ntmps23
    go_wp2_with fail
    refine Calls.mono CS.out ?_
    rintro e w' ⟨rfl, hw'⟩
    replace hw' := hw'.symm
    subst hw'
    clear CS
    go_wp2_with fail
    refine Calls.mono HC.out ?_
    rintro e w2 ⟨u, rfl, hu, hun, hb2⟩
    obtain ⟨ua, uc, hua⟩ := hu.form
    subst hua
    have HR2 := hid (HR.out _ w2 hu hun hb2)
    obtain ⟨w4, hw4⟩ : ∃ w4, w2.alloc (.cells #[.map (some w.heap.size), .pointer (some ⟨kb r, 0, none⟩), .slice ua (E r).length uc] 59) = w4 := ⟨_, rfl⟩
    have hk3 := HKP.out (.slice ua (E r).length uc) w2 hb2
    have hm3 := HMP.out (.slice ua (E r).length uc) w2 hb2
    rw [show w2.alloc (knC w.heap.size (some (kb r)) (.slice ua (E r).length uc)) = w4 from hw4] at HR2 hk3 hm3
    obtain ⟨w3, hup, hkw, hg3⟩ := hm3.put c w2.heap.size
    have b0 := Lib.cell_of_heap hk3 0
    simp only [List.getElem?_toArray, List.getElem?_cons_zero, List.getElem?_cons_succ] at b0
    have HR3 := hid (HR2.out w3 hg3 hkw)
    clear HR HR2 hkw hg3 hm3 hk3 HMP HKP hu hun hb2 HN HM1 r2 a0 a1 look
    go_wp2
    go_ret
    exact HR3.out
theorem kgrow_any {D : List UInt8 → Bool} {E : List UInt8 → List Nat} {kb mb : List UInt8 → Nat} {ev : List UInt8 → Value} {B : Nat} {w : World} (h : Net D E kb mb ev B w) (p : List UInt8) (hp : D p = true) (c : UInt8) (hlen : ∀ s, D s = true → s.length ≤ p.length + 1) :
    Calls Try.prog 23 #[.pointer (some ⟨kb p, 0, none⟩), .int .u8 (c.toNat : Int)] w (GrP D E kb B w (p ++ [c])) := by
  cases hq : D (p ++ [c]) with
  | true => exact kgrow_old h p hp c hq
  | false => exact kgrow_new h p hp c hq hlen
end Go.Proofs.Ytciaagphclddjaa
namespace Go.Proofs.Ytciaagphclddjaa
set_option linter.unusedSimpArgs false
set_option linter.unusedVariables false
set_option maxRecDepth 100000
open Go.RowKit Go.Shelf
/-- k places that name knot r, and no knot in the others. -/
def repC (n k r : Nat) : Array Value := (List.replicate k (Value.pointer (some ⟨r, 0, none⟩)) ++ List.replicate (n - k) (Value.pointer none)).toArray
theorem repC_size (n k r : Nat) (h : k ≤ n) : (repC n k r).size = n := by simp [repC]; omega
theorem mkK (n : Nat) (hn : n ≤ 1000) (u : World) : (Instr.makeSlice 65 (.int .i64 (n : Int)) (.int .i64 (n : Int))).run Try.prog u = .ok (.slice (some ⟨u.heap.size, 0, none⟩) n n) (u.alloc (.cells (repC n 0 0) 53)) := by
  have hinfo : (Try.prog.info? 53).map (fun i => (i.zero, i.size, i.bytes)) = some (some (.pointer none), 1, 8) := by kernel_rfl
  obtain ⟨i0, hi, hz0, hz1, hz2⟩ := info_parts hinfo
  have h := run_make (P := Try.prog) u 65 53 i0 (.pointer none) Try.underlying65 hi hz0 .i64 .i64 (n : Int) (n : Int) (by omega) (Int.le_refl _) (by rw [hz2]; omega) (by omega)
  have e : ((n : Int)).toNat = n := by omega
  have e2 : madeCells #[Value.pointer none] (n * 1) = repC n 0 0 := by
    apply Array.ext
    · simp [madeCells, repC]
    · intro i h1 h2
      simp [madeCells, Nat.mod_one, repC]
  rw [e, hz1, show (Value.pointer none).cells = #[Value.pointer none] from rfl, e2] at h
  exact h
/-- copy of some of the first ones behind them. -/
theorem repC_copy (w : World) (ty : TypeId) (N n k d r c : Nat) (hk : k + d ≤ n) (hd : d = Nat.min k (n - k)) (hN : w.heap[N]? = some (.cells (repC n k r) 53 (0, 0))) :
    (Builtin.copy_ #[65, 65] ty #[.slice (some ⟨N, k, none⟩) (n - k) (n - k), .slice (some ⟨N, 0, none⟩) k c]).run Try.prog w = .ok (goInt (d : Nat)) (w.setRow N (repC n (k + d) r)) := by
  have h := run_copy_row (P := Try.prog) w 65 65 ty 53 N k (n - k) (n - k) ⟨N, 0, none⟩ k c (repC n k r) 53 (List.replicate d (Value.pointer (some ⟨r, 0, none⟩))) Try.underlying65 (by kernel_rfl) hN (by simp [hd]) (fun j v hj => ?_) (by rw [repC_size _ _ _ (by omega)]; simp; omega) (fun v hv => by
    rw [List.mem_replicate] at hv
    rw [hv.2]
    rfl)
  · rw [List.length_replicate] at h
    rw [h]
    congr 2
    unfold repC
    congr 1
    rw [List.take_append_of_le_length (by simp), List.take_of_length_le (by simp), List.drop_append, List.drop_of_length_le (by simp), List.drop_replicate, List.replicate_append_replicate]
    simp
    omega
  · rw [Addr.add_lit, Nat.zero_add, Lib.cell_of_heap hN]
    have hj' := (List.getElem?_eq_some_iff.1 hj).1
    rw [List.length_replicate] at hj'
    have hdk : d ≤ k := by rw [hd]; exact Nat.min_le_left _ _
    rw [List.getElem?_replicate, if_pos hj'] at hj
    obtain rfl := Option.some.inj hj
    unfold repC
    rw [List.getElem?_toArray, List.getElem?_append_left (by simp; omega), List.getElem?_replicate, if_pos (by omega)]
/-- copy of the one knot. -/
theorem repC_first (w : World) (ty : TypeId) (N n g r d : Nat) (hd : d = Nat.min 1 n) (hN : w.heap[N]? = some (.cells (repC n 0 0) 53 (0, 0))) (hg : w.cell? ⟨g, 0, none⟩ = some (.pointer (some ⟨r, 0, none⟩))) :
    (Builtin.copy_ #[65, 65] ty #[.slice (some ⟨N, 0, none⟩) n n, .slice (some ⟨g, 0, none⟩) 1 1]).run Try.prog w = .ok (goInt (d : Nat)) (w.setRow N (repC n d r)) := by
  have hdn : d ≤ n := by rw [hd]; exact Nat.min_le_right _ _
  have hd1 : d ≤ 1 := by rw [hd]; exact Nat.min_le_left _ _
  have h := run_copy_row (P := Try.prog) w 65 65 ty 53 N 0 n n ⟨g, 0, none⟩ 1 1 (repC n 0 0) 53 (List.replicate d (Value.pointer (some ⟨r, 0, none⟩))) Try.underlying65 (by kernel_rfl) hN (by simp [hd]) (fun j v hj => ?_) (by rw [repC_size _ _ _ (by omega)]; simp; omega) (fun v hv => by
    rw [List.mem_replicate] at hv
    rw [hv.2]
    rfl)
  · rw [List.length_replicate] at h
    rw [h]
    congr 2
    unfold repC
    congr 1
    simp
  · have hj' := (List.getElem?_eq_some_iff.1 hj).1
    rw [List.length_replicate] at hj'
    obtain rfl : j = 0 := by omega
    rw [List.getElem?_replicate, if_pos hj'] at hj
    obtain rfl := Option.some.inj hj
    exact hg
set_option maxHeartbeats 8000000 in
theorem krep_any (n g r : Nat) (hn : n ≤ 20) (w : World) (hg : w.cell? ⟨g, 0, none⟩ = some (.pointer (some ⟨r, 0, none⟩))) (hgl : g < w.heap.size) :
    Calls Try.prog 22 #[.slice (some ⟨g, 0, none⟩) 1 1, .int .i64 (n : Int)] w fun e w' => e = .returned (.slice (some ⟨w.heap.size, 0, none⟩) n n) ∧ w'.heap[w.heap.size]? = some (.cells (repC n n r) 53 (0, 0)) ∧ Below w.heap.size w w' := by
  have g0 : ¬ (n : Int) < 0 := by omega
  have w1 : IntKind.u64.wrap (n : Int) = (n : Int) := by rw [IntKind.wrap_u64]; omega
  have w2 : IntKind.i64.wrap (n : Int) = (n : Int) := by rw [IntKind.wrap_i64]; omega
  have g1 : ¬ (9223372036854775807 : Int) < (n : Int) := by omega
  have HM := hid (bits_Mul 1 n (by omega) (by omega) w)
  have em0 : (1 * n / 18446744073709551616 : Nat) = 0 := by omega
  have em1 : (1 * n % 18446744073709551616 : Nat) = n := by omega
  rw [em0, em1, show ((1 : Nat) : Int) = 1 from rfl, show ((0 : Nat) : Int) = 0 from rfl] at HM
  clear em0 em1
  have mk := mkK n (by omega) w
  obtain ⟨N, hNN⟩ : ∃ N, w.heap.size = N := ⟨_, rfl⟩
  obtain ⟨W0, hW0⟩ : ∃ W0, w.alloc (.cells (repC n 0 0) 53) = W0 := ⟨_, rfl⟩
  have hb0 : Below w.heap.size w W0 := by rw [← hW0]; exact (Below.refl _ _).alloc (Nat.le_refl _) _
  have hN0 : W0.heap[N]? = some (.cells (repC n 0 0) 53 (0, 0)) := by rw [← hW0, ← hNN]; exact World.alloc_heap_new w _
  have hg0 : W0.cell? ⟨g, 0, none⟩ = some (.pointer (some ⟨r, 0, none⟩)) := (hb0.cell (p := ⟨g, 0, none⟩) hgl).trans hg
  obtain ⟨d, hd⟩ : ∃ d, d = Nat.min 1 n := ⟨_, rfl⟩
  have hdn : d ≤ n ∧ (1 ≤ n → 1 ≤ d) := by rw [hd]; exact ⟨Nat.min_le_right _ _, fun h => by show 1 ≤ min 1 n; omega⟩
  have hc0 := fun ty => repC_first W0 ty N n g r d hd hN0 hg0
  simp only [show goInt ((d : Nat) : Int) = Value.int .i64 (d : Int) from rfl] at hc0
  have HN1 : Hid ((W0.setRow N (repC n d r)).heap[N]? = some (.cells (repC n d r) 53 (0, 0))) := setRow_heap _ _ _ _ _ _ hN0
  have HB1 : Hid (Below N w (W0.setRow N (repC n d r))) := by rw [hNN] at hb0; exact below_setRow hb0 (Nat.le_refl _) _
  rw [hNN] at mk ⊢
  rw [hW0] at mk
  clear hb0 hN0 hg0 hg hgl hd
  go_enter Try.func22, Try.ntmps22
  go_wp2_with fail
  refine Calls.mono HM.out ?_
  rintro e w' ⟨rfl, hw'⟩
  replace hw' := hw'.symm
  subst hw'
  clear HM
  go_wp2_with fail
  clear mk hc0 hW0 w1 w2 g1
  go_loopw [8] (fun v wr => ∃ k : Nat, v = .int .i64 (k : Int) ∧ k ≤ n ∧ (1 ≤ n → 1 ≤ k) ∧ Hid (wr.heap[N]? = some (.cells (repC n k r) 53 (0, 0))) ∧ Hid (Below N w wr)) (fun v _ => n - (intOf v).toNat)
  case atStart => exact ⟨d, rfl, hdn.1, hdn.2, HN1, HB1⟩
  case round =>
    clear HN1 HB1 hdn
    obtain ⟨k, rfl, hk, hk1, HNk, HBk⟩ := hrel
    by_cases hkn : k < n
    · have g2 : (k : Int) < (n : Int) := by omega
      have g3 : (k : Int) ≤ (n : Int) := by omega
      have k0 : (0 : Int) ≤ (k : Int) := by omega
      have hnk : ¬ n = k := by omega
      obtain ⟨e, he⟩ : ∃ e, e = Nat.min k (n - k) := ⟨_, rfl⟩
      have hek : 1 ≤ e ∧ k + e ≤ n := by
        rw [he]
        have h1 := Nat.min_le_right k (n - k)
        exact ⟨by show 1 ≤ min k (n - k); omega, by show k + min k (n - k) ≤ n; omega⟩
      have hc := fun ty c => repC_copy wr.drew ty N n k e r c hek.2 he HNk.out
      simp only [show goInt ((e : Nat) : Int) = Value.int .i64 (e : Int) from rfl] at hc
      have hws : IntKind.i64.wrap ((k : Int) + (e : Int)) = (k : Int) + (e : Int) := by rw [IntKind.wrap_i64]; omega
      have HN2 : Hid ((wr.drew.setRow N (repC n (k + e) r)).heap[N]? = some (.cells (repC n (k + e) r) 53 (0, 0))) := setRow_heap _ _ _ _ _ _ (show wr.drew.heap[N]? = _ from HNk.out)
      have HB2 : Hid (Below N w (wr.drew.setRow N (repC n (k + e) r))) := below_setRow (show Below N w wr.drew from ⟨HBk.out.os, HBk.out.tape, HBk.out.output, HBk.out.size, HBk.out.block⟩) (Nat.le_refl _) _
      clear he
      have mixed : Try.prog.follows .mixedOrders = true := by kernel_rfl
      go_wp2_with fail
      go_region_law_o (refine step_copy_runI rfl _ _ 65 65 rfl (.slice (some ⟨N, k, none⟩) (n - k) (n - k)) (.slice (some ⟨N, 0, none⟩) k n) (by simp [Act.eval, Act.put]) (by simp [Act.eval, Act.put]) (hc _ _) ?_)
      go_wp2
      go_roundw
      case measure =>
        show n - ((k : Int) + (e : Int)).toNat < n - ((k : Int)).toNat
        omega
      case rel =>
        (repeat apply Exists.intro)
        refine ⟨⟨k + e, ?hv, hek.2, fun _ => by omega, HN2, HB2⟩, rfl⟩
        case hv => rfl
    · obtain rfl : k = n := by omega
      have g2 : ¬ (k : Int) < (k : Int) := by omega
      go_wp2
      go_ret
      exact ⟨rfl, HNk.out, HBk.out⟩
end Go.Proofs.Ytciaagphclddjaa
namespace Go.Proofs.Ytciaagphclddjaa
set_option linter.unusedSimpArgs false
set_option linter.unusedVariables false
set_option maxRecDepth 100000
open Go.RowKit Go.Shelf
/-- Where word i has grown to. -/
def tkW (L : List (List UInt8)) (m j i : Nat) : List UInt8 := if i < j then (wdAt L i).take (m + 1) else (wdAt L i).take m
def atA (L : List (List UInt8)) (kb : List UInt8 → Nat) (m j : Nat) : Array Value := ((List.range L.length).map fun i => Value.pointer (some ⟨kb (tkW L m j i), 0, none⟩)).toArray
theorem atA_size (L : List (List UInt8)) (kb : List UInt8 → Nat) (m j : Nat) : (atA L kb m j).size = L.length := by simp [atA]
theorem atA_get (L : List (List UInt8)) (kb : List UInt8 → Nat) (m j i : Nat) (h : i < L.length) : (atA L kb m j)[i]? = some (.pointer (some ⟨kb (tkW L m j i), 0, none⟩)) := by
  unfold atA
  rw [List.getElem?_toArray, List.getElem?_map, List.getElem?_range h]
  rfl
theorem tkW_in (L : List (List UInt8)) (m j i : Nat) (h : i < L.length) : inN L m j (tkW L m j i) = true := by
  unfold tkW
  split
  · exact inN_take1 L m j i h (by assumption)
  · exact inN_take L m j i h
theorem atA_next (L : List (List UInt8)) (kb : List UInt8 → Nat) (m : Nat) : atA L kb m L.length = atA L kb (m + 1) 0 := by
  unfold atA
  congr 1
  refine List.map_congr_left fun i hi => ?_
  rw [List.mem_range] at hi
  unfold tkW
  rw [if_pos hi, if_neg (by omega)]
theorem atA_stay (L : List (List UInt8)) (kb : List UInt8 → Nat) (m j : Nat) (h : (wdAt L j).length ≤ m) : atA L kb m j = atA L kb m (j + 1) := by
  unfold atA
  congr 1
  refine List.map_congr_left fun i hi => ?_
  unfold tkW
  by_cases e : i = j
  · subst e
    rw [if_neg (by omega), if_pos (by omega), List.take_of_length_le h, List.take_of_length_le (by omega)]
  · by_cases h2 : i < j
    · rw [if_pos h2, if_pos (by omega)]
    · rw [if_neg h2, if_neg (by omega)]
theorem atA_set (L : List (List UInt8)) (kb kb' : List UInt8 → Nat) (m j : Nat) (hj : j < L.length) (h : ∀ s, inN L m j s = true → kb' s = kb s) : (atA L kb m j).setIfInBounds j (.pointer (some ⟨kb' ((wdAt L j).take (m + 1)), 0, none⟩)) = atA L kb' m (j + 1) := by
  apply Array.ext_getElem?
  intro i
  rw [Array.getElem?_setIfInBounds]
  by_cases hi : i < L.length
  · rw [atA_get L kb' m (j + 1) i hi]
    by_cases e : j = i
    · subst e
      rw [if_pos rfl, if_pos (by rw [atA_size]; exact hj)]
      unfold tkW
      rw [if_pos (by omega)]
    · rw [if_neg e, atA_get L kb m j i hi]
      have e2 : tkW L m (j + 1) i = tkW L m j i := by
        unfold tkW
        by_cases h2 : i < j
        · rw [if_pos h2, if_pos (by omega)]
        · rw [if_neg h2, if_neg (by omega)]
      rw [e2, h _ (tkW_in L m j i hi)]
  · have n1 : ∀ (k : List UInt8 → Nat) (q : Nat), (atA L k m q)[i]? = none := fun k q => Array.getElem?_eq_none (by rw [atA_size]; omega)
    rw [n1 kb' (j + 1), n1 kb j]
    rw [if_neg (by omega)]
/-- The net between two rounds: N: where the words' knots are kept; root: the root's block. -/
structure NtI (L : List (List UInt8)) (w : World) (N root m j j' : Nat) (kb mb : List UInt8 → Nat) (ev : List UInt8 → Value) (wr : World) : Prop where
  net : Net (inN L m j) (enN L m j') kb mb ev w.heap.size wr
  root : kb [] = root
  at_ : wr.heap[N]? = some (.cells (atA L kb m j) 53 (0, 0))
  b : Below w.heap.size w wr
/-- A word has grown: the store behind it. -/
theorem NtI.grow {L : List (List UInt8)} {w : World} {N root m j : Nat} {kb mb : List UInt8 → Nat} {ev : List UInt8 → Value} {wr : World} (h : NtI L w N root m j j kb mb ev wr) (hN : w.heap.size ≤ N) (hj : j < L.length) (hm : m < (wdAt L j).length) {e : Ending} {w1 : World}
    (g : GrP (inN L m j) (enN L m j) kb w.heap.size wr ((wdAt L j).take (m + 1)) e w1) : ∃ kb' mb' ev', e = .returned (.pointer (some ⟨kb' ((wdAt L j).take (m + 1)), 0, none⟩)) ∧ w1.heap[N]? = some (.cells (atA L kb m j) 53 (0, 0)) ∧ NtI L w N root m (j + 1) j kb' mb' ev' (w1.setCell ⟨N, j, none⟩ (.pointer (some ⟨kb' ((wdAt L j).take (m + 1)), 0, none⟩))) := by
  obtain ⟨D', E', kb', mb', ev', hn, hD, hE, hq, he, hb, hk⟩ := g
  have hat := hk.same N _ _ _ h.at_ (by decide) (by decide)
  have hD' : inN L m (j + 1) = D' := by
    funext s
    rw [inN_grow hj hm, hD]
  have hE' : ∀ s, D' s = true → enN L m j s = E' s := fun s hs => by
    cases hs0 : inN L m j s with
    | true => exact (hE s hs0).1.symm
    | false =>
      rw [hD, hs0, Bool.false_or, decide_eq_true_iff] at hs
      subst hs
      rw [hq hs0, enN_back (by rw [List.length_take]; omega) hs0]
  have hn2 := (hn.cast hD' hE').other (w' := w1.setCell ⟨N, j, none⟩ (.pointer (some ⟨kb' ((wdAt L j).take (m + 1)), 0, none⟩))) hat (by decide) (by decide) (fun k hk _ => Below.heap_setCell _ _ _ _ (fun e => hk e))
  refine ⟨kb', mb', ev', he, hat, hn2, ?_, ?_, ?_⟩
  · rw [(hE [] (inN_nil L m j)).2, h.root]
  · rw [← atA_set L kb kb' m j hj (fun s hs => (hE s hs).2)]
    simp [World.setCell, Array.getElem?_modify, hat]
  · exact (h.b.trans hb).setCell (p := ⟨N, j, none⟩) hN _
/-- A word that is no longer stays. -/
theorem NtI.stay {L : List (List UInt8)} {w : World} {N root m j : Nat} {kb mb : List UInt8 → Nat} {ev : List UInt8 → Value} {wr : World} (h : NtI L w N root m j j kb mb ev wr) (hm : (wdAt L j).length ≤ m) : NtI L w N root m (j + 1) j kb mb ev wr :=
  ⟨h.net.cast (inN_stay hm) (fun _ _ => rfl), h.root, by rw [← atA_stay L kb m j hm]; exact h.at_, h.b⟩
/-- A word that has no end here. -/
theorem NtI.noend {L : List (List UInt8)} {w : World} {N root m j : Nat} {kb mb : List UInt8 → Nat} {ev : List UInt8 → Value} {wr : World} (h : NtI L w N root m (j + 1) j kb mb ev wr) (hm : ¬ (wdAt L j).length = m + 1) : NtI L w N root m (j + 1) (j + 1) kb mb ev wr :=
  ⟨h.net.cast rfl (fun q _ => enN_stay hm q), h.root, h.at_, h.b⟩
/-- A word ends. -/
theorem NtI.end_ {L : List (List UInt8)} {w : World} {N root m j : Nat} {kb mb : List UInt8 → Nat} {ev : List UInt8 → Value} {wr w1 : World} {v : Value} (h : NtI L w N root m (j + 1) j kb mb ev wr) (hm : (wdAt L j).length = m + 1)
    (hn : Net (inN L m (j + 1)) (putL (enN L m j) (wdAt L j) (enN L m (j + 1) (wdAt L j))) kb mb (putL ev (wdAt L j) v) w.heap.size w1) (hb : Below w.heap.size wr w1) (hk : Kst wr w1) : NtI L w N root m (j + 1) (j + 1) kb mb (putL ev (wdAt L j) v) w1 := by
  refine ⟨hn.cast rfl (fun q hq => ?_), h.root, hk.same N _ _ _ h.at_ (by decide) (by decide), h.b.trans hb⟩
  by_cases e : q = wdAt L j
  · rw [e, putL_same]
  · rw [putL_ne _ _ e]
    exact enN_other hm q (inN_len hq) e
theorem NtI.next {L : List (List UInt8)} {w : World} {N root m : Nat} {kb mb : List UInt8 → Nat} {ev : List UInt8 → Value} {wr : World} (h : NtI L w N root m L.length L.length kb mb ev wr) : NtI L w N root (m + 1) 0 0 kb mb ev wr :=
  ⟨h.net.cast (inN_next L m).symm (fun q _ => (enN_next L m q).symm), h.root, by rw [← atA_next]; exact h.at_, h.b⟩
end Go.Proofs.Ytciaagphclddjaa
namespace Go.Proofs.Ytciaagphclddjaa
set_option linter.unusedSimpArgs false
set_option linter.unusedVariables false
set_option maxRecDepth 100000
open Go.RowKit
set_option maxHeartbeats 4000000 in
theorem sl (s : ByteArray) : s.data.toList.length = s.size := Array.length_toList
theorem str_idx' (s : ByteArray) (a : Nat) (c : UInt8) (h : s.data.toList[a]? = some c) (w : World) : (Instr.index 9 (.string s) (.int .i64 (a : Int))).run Try.prog w = .ok (.int .u8 (c.toNat : Int)) w := by
  have hl : a < s.data.toList.length := by
    rcases Nat.lt_or_ge a s.data.toList.length with h' | h'
    · exact h'
    · rw [List.getElem?_eq_none h'] at h; cases h
  have hs : a < s.size := by rw [← sl]; exact hl
  rw [run_index_string w 9 s .i64 (a : Int) Try.underlying9, dif_pos ⟨by omega, by omega⟩]
  rw [List.getElem?_eq_getElem hl] at h
  have e : s[(a : Int).toNat]'(by simpa using hs) = c := by
    exact Option.some.inj h
  rw [e]
end Go.Proofs.Ytciaagphclddjaa
