/- What each call of package class does: fifth part: Text. The landed writer: a byte that is written by a deferred call; part at a leaf. -/
import Derived.Test.YtmdfdlljeggbbaaGreatDoorY15
namespace Go.Proofs.YtmdfdlljeggbbaaGreatDoor
set_option linter.unusedSimpArgs false
set_option linter.unusedVariables false
set_option maxRecDepth 100000
open Go.RowKit

theorem runs256_any (k : C4) (w : World) :
    Calls Tryz.prog 48 #[k.v] w fun e w' => e = .returned (.string ⟨(runs256 k).toArray⟩) ∧ Below w.heap.size w w' := runs_any k w

set_option maxHeartbeats 1000000 in
theorem text_dot (k : C4) (w : World) (hd : k.eqb (C4.ofL [10]).not = true) :
    Calls Tryz.prog 31 #[k.v] w fun e w' => e = .returned (.string ⟨(textL k).toArray⟩) ∧ Below w.heap.size w w' := by
  have HT : Hid _ := textL_dot k hd
  have he := eq4
  have hten : (⟨#[10]⟩ : ByteArray).size ≤ maxLen := by unfold maxLen; decide
  have hrl := runs256_len k
  have hrs : (⟨(runs256 k).toArray⟩ : ByteArray).size ≤ 2304 := by rw [size_str]; exact hrl
  go_enter Tryz.func31, Tryz.ntmps31
  go_wp2_with fail
  have hn := Hb.new w k _ rfl
  have k0 := cell_regrown hn.c0
  have k1 := cell_regrown hn.c1
  have k2 := cell_regrown hn.c2
  have k3 := cell_regrown hn.c3
  refine wp_region_quiet_below (by kernel_rfl) (by kernel_rfl) ?_
  repeat (quiet_step (first
    | (go_at_call 46; exact Calls.regrown_of (of_any _ _ hten))
    | (go_at_call 45; exact Calls.regrown_of (not_any _ _))))
  refine wpQuiet_nil ?_
  intro _ hw'
  obtain ⟨⟨dq, osq⟩, hw''⟩ := hw'
  have hb1 := below_regrown (w.alloc (.cells k.cells 39)) dq osq
  have hw1 : Below w.heap.size w _ := ((Below.refl w.heap.size w).alloc (Nat.le_refl _) (.cells k.cells 39)).trans (hb1.mono (by simp))
  have hK := hn.below hb1 hn.lt
  subst hw''
  clear k0 k1 k2 k3
  generalize hgw : Go.Sort.grow (redrawn (w.alloc (.cells k.cells 39)) dq) osq = w1 at *
  clear hgw
  obtain ⟨c0, c1, c2, c3, e0, e1, e2, e3⟩ := hK.all
  go_wp2
  go_ret
  exact ⟨ret_str (by rw [HT.out]), hw1⟩
set_option maxHeartbeats 1000000 in
theorem text_one (k : C4) (w : World) (hd : k.eqb (C4.ofL [10]).not = false) (hm : (k.many 4 == 1) = true) :
    Calls Tryz.prog 31 #[k.v] w fun e w' => e = .returned (.string ⟨(textL k).toArray⟩) ∧ Below w.heap.size w w' := by
  have HT : Hid _ := textL_one k hd hm
  have he := eq4
  have hten : (⟨#[10]⟩ : ByteArray).size ≤ maxLen := by unfold maxLen; decide
  have hrl := runs256_len k
  have hrs : (⟨(runs256 k).toArray⟩ : ByteArray).size ≤ 2304 := by rw [size_str]; exact hrl
  go_enter Tryz.func31, Tryz.ntmps31
  go_wp2_with fail
  have hn := Hb.new w k _ rfl
  have k0 := cell_regrown hn.c0
  have k1 := cell_regrown hn.c1
  have k2 := cell_regrown hn.c2
  have k3 := cell_regrown hn.c3
  refine wp_region_quiet_below (by kernel_rfl) (by kernel_rfl) ?_
  repeat (quiet_step (first
    | (go_at_call 46; exact Calls.regrown_of (of_any _ _ hten))
    | (go_at_call 45; exact Calls.regrown_of (not_any _ _))))
  refine wpQuiet_nil ?_
  intro _ hw'
  obtain ⟨⟨dq, osq⟩, hw''⟩ := hw'
  have hb1 := below_regrown (w.alloc (.cells k.cells 39)) dq osq
  have hw1 : Below w.heap.size w _ := ((Below.refl w.heap.size w).alloc (Nat.le_refl _) (.cells k.cells 39)).trans (hb1.mono (by simp))
  have hK := hn.below hb1 hn.lt
  subst hw''
  clear k0 k1 k2 k3
  generalize hgw : Go.Sort.grow (redrawn (w.alloc (.cells k.cells 39)) dq) osq = w1 at *
  clear hgw
  obtain ⟨c0, c1, c2, c3, e0, e1, e2, e3⟩ := hK.all
  go_wp2_with fail
  refine (many_any k _).mono ?_
  rintro e w2 ⟨rfl, hb2⟩
  have hK2 := hK.below hb2 hK.lt
  obtain ⟨d0, d1, d2, d3, f0, f1, f2, f3⟩ := hK2.all
  go_wp2_with fail
  refine (runs256_any k _).mono ?_
  rintro e w3 ⟨rfl, hb3⟩
  go_wp2
  go_ret
  have h2 := hw1.trans (hb2.mono hw1.size)
  refine ⟨ret_str ?_, h2.trans (hb3.mono h2.size)⟩
  rw [HT.out]
set_option maxHeartbeats 1000000 in
theorem text_more (k : C4) (w : World) (hd : k.eqb (C4.ofL [10]).not = false) (hm : (k.many 4 == 1) = false) :
    Calls Tryz.prog 31 #[k.v] w fun e w' => e = .returned (.string ⟨(textL k).toArray⟩) ∧ Below w.heap.size w w' := by
  have HT : Hid _ := textL_more k hd hm
  have he := eq4
  have hten : (⟨#[10]⟩ : ByteArray).size ≤ maxLen := by unfold maxLen; decide
  have hrl := runs256_len k
  have hrs : (⟨(runs256 k).toArray⟩ : ByteArray).size ≤ 2304 := by rw [size_str]; exact hrl
  go_enter Tryz.func31, Tryz.ntmps31
  go_wp2_with fail
  have hn := Hb.new w k _ rfl
  have k0 := cell_regrown hn.c0
  have k1 := cell_regrown hn.c1
  have k2 := cell_regrown hn.c2
  have k3 := cell_regrown hn.c3
  refine wp_region_quiet_below (by kernel_rfl) (by kernel_rfl) ?_
  repeat (quiet_step (first
    | (go_at_call 46; exact Calls.regrown_of (of_any _ _ hten))
    | (go_at_call 45; exact Calls.regrown_of (not_any _ _))))
  refine wpQuiet_nil ?_
  intro _ hw'
  obtain ⟨⟨dq, osq⟩, hw''⟩ := hw'
  have hb1 := below_regrown (w.alloc (.cells k.cells 39)) dq osq
  have hw1 : Below w.heap.size w _ := ((Below.refl w.heap.size w).alloc (Nat.le_refl _) (.cells k.cells 39)).trans (hb1.mono (by simp))
  have hK := hn.below hb1 hn.lt
  subst hw''
  clear k0 k1 k2 k3
  generalize hgw : Go.Sort.grow (redrawn (w.alloc (.cells k.cells 39)) dq) osq = w1 at *
  clear hgw
  obtain ⟨c0, c1, c2, c3, e0, e1, e2, e3⟩ := hK.all
  go_wp2_with fail
  refine (many_any k _).mono ?_
  rintro e w2 ⟨rfl, hb2⟩
  have hK2 := hK.below hb2 hK.lt
  obtain ⟨d0, d1, d2, d3, f0, f1, f2, f3⟩ := hK2.all
  go_wp2_with fail
  refine (runs256_any k _).mono ?_
  rintro e w3 ⟨rfl, hb3⟩
  go_wp2
  go_ret
  have h2 := hw1.trans (hb2.mono hw1.size)
  refine ⟨ret_str ?_, h2.trans (hb3.mono h2.size)⟩
  have q1 : ({ data := #[91] } : ByteArray) = ⟨([91] : List UInt8).toArray⟩ := rfl
  have q2 : ({ data := #[93] } : ByteArray) = ⟨([93] : List UInt8).toArray⟩ := rfl
  rw [HT.out, q1, q2, cat_str, cat_str]
  simp
theorem text_any (k : C4) (w : World) :
    Calls Tryz.prog 31 #[k.v] w fun e w' => e = .returned (.string ⟨(textL k).toArray⟩) ∧ Below w.heap.size w w' := by
  cases hd : k.eqb dotC
  · cases hm : (k.many 4 == 1)
    · exact text_more k w hd hm
    · exact text_one k w hd hm
  · exact text_dot k w hd
end Go.Proofs.YtmdfdlljeggbbaaGreatDoor
namespace Go.Proofs.YtmdfdlljeggbbaaGreatDoor
set_option linter.unusedSimpArgs false
set_option linter.unusedVariables false
set_option maxRecDepth 100000
open Go.RowKit
set_option maxHeartbeats 1000000 in
theorem wWriteByteD (u : FrameMode) (B g : Nat) (nv : Value) (l : List UInt8) (c : UInt8) (w : World) (h : Wrt w B g nv l) (hlen : l.length + 1 ≤ 140737488355328) (hBw : B ≤ w.heap.size) :
    CallsD Tryz.prog 29 #[.pointer (some ⟨g, 0, none⟩), .int .u8 (c.toNat : Int)] u w fun e u' w' => u' = u ∧ (e = .returned .nilIface ∧ Wrt w' B g nv (l ++ [c]) ∧ Below g w w') := by
  obtain ⟨i0, hi, hz0, hz1, hz2⟩ := info_parts strExtra.infoByte
  have HC := hid (wcheck_any B g nv l w h)
  have hlt := h.lt
  clear h
  go_enter_d Tryz.func29, Tryz.ntmps29
  go_wp2_with fail
  refine Calls.mono HC.out ?_
  rintro e w1 ⟨rfl, hg1, v, hbk, hown, hgB, _⟩
  have c0 : w1.cell? ⟨g, 0, none⟩ = some (.pointer (some ⟨g, 0, none⟩)) := by rw [Lib.cell_of_heap hbk]; rfl
  have c1 : w1.cell? ⟨g, 1, none⟩ = some v := by rw [Lib.cell_of_heap hbk]; rfl
  have HG1 := hid hg1
  have hownA : (w1.alloc (.cells #[.int .u8 (c.toNat : Int)] 5)).ownsRow B 5 1 v l.length (Lib.byteCells l) := by
    have hb : Below w1.heap.size w1 (w1.alloc (.cells #[.int .u8 (c.toNat : Int)] 5)) := (Below.refl _ _).alloc (Nat.le_refl _) _
    refine World.ownsRow.kept (row := none) hown ⟨hb.os, hb.tape, hb.output, hb.size, fun k hk _ => hb.block k hk⟩ ?_
    cases hv : v.ownBlock with
    | none => exact Or.inl rfl
    | some x => exact Or.inr (by simp)
  have hnews : ∀ j u, (Lib.byteCells [c])[j]? = some u → (w1.alloc (.cells #[.int .u8 (c.toNat : Int)] 5)).cell? ((⟨w1.heap.size, 0, none⟩ : Addr).add j) = some u := by
    intro j u hj
    rw [Addr.add_lit, Nat.zero_add, World.cell?_alloc_at (w := w1) _ _ w1.heap.size j rfl]
    simpa [Lib.byteCells] using hj
  have HNW := hid hnews
  have HOA := hid hownA
  clear hnews hownA
  go_wp2_with (at_builtin; refine wpList_append_lies _ rfl _ _ 48 rfl B 5 i0 _ 1 1 Tryz.underlying48 hi hz0 hz1 hz2 rfl (by decide) v l.length (Lib.byteCells l) rfl HOA.out ⟨w1.heap.size, 0, none⟩ 1 1 (Lib.byteCells [c]) rfl rfl HNW.out (by simp [Lib.byteCells, Value.oneCell']) (by omega) (by unfold maxLen; omega) (by omega) (by have := HG1.out.size; simp; omega) _ rfl ?_)
  intro g3 cap3 w2 hown' hgrow hor hl3
  have hgl : g < (w1.alloc (.cells #[.int .u8 (c.toNat : Int)] 5)).heap.size := by
    have := HG1.out.size
    simp
    omega
  have hvg : v.ownBlock ≠ some g := by
    rcases hown.2 with ⟨hv, _⟩ | ⟨b, cap, cur, hv, hb, _⟩
    · rw [hv]; simp [Value.ownBlock]
    · rw [hv]
      intro e
      injection e with e
      simp only at e
      omega
  have hb2 : w2.heap[g]? = some (.cells #[.pointer (some ⟨g, 0, none⟩), v, nv] 52 (0, 0)) := by
    rw [hgrow.block g hgl (fun e => hvg e.symm)]
    exact (Below.heap_alloc w1 _ g (Nat.lt_of_lt_of_le hlt HG1.out.size)).trans hbk
  have d0 : w2.cell? ⟨g, 0, none⟩ = some (.pointer (some ⟨g, 0, none⟩)) := by rw [Lib.cell_of_heap hb2]; rfl
  have d1 : w2.cell? ⟨g, 1, none⟩ = some v := by rw [Lib.cell_of_heap hb2]; rfl
  have f1 : w2.frozen? ⟨g, 1, none⟩ = false := Lib.frozen_of_heap hb2 1
  have HB : Hid (Below g w w2) := by
    refine ((below_of_grown HG1.out (Nat.le_refl _) (Nat.le_of_lt hlt)).alloc (by have := HG1.out.size; omega) (.cells #[.int .u8 (c.toNat : Int)] 5)).trans ⟨hgrow.os, hgrow.tape, hgrow.output, hgrow.size, fun k hk => hgrow.block k (by omega) ?_⟩
    intro e
    rcases hown.2 with ⟨hv, _⟩ | ⟨b, cap, cur, hv, hb, _⟩
    · rw [hv] at e; cases e
    · rw [hv] at e
      injection e with e
      simp only at e
      omega
  have HO : Hid (Wrt (w2.setCell ⟨g, 1, none⟩ (.slice (some ⟨g3, 0, none⟩) (l.length + 1) cap3)) B g nv (l ++ [c])) := by
    refine ⟨.pointer (some ⟨g, 0, none⟩), .slice (some ⟨g3, 0, none⟩) (l.length + 1) cap3, ?_, Or.inr rfl, ?_, hgB, fun e => absurd e (by simp)⟩
    · simp [World.setCell, Array.getElem?_modify, hb2]
    · have hO2 : w2.ownsRow B 5 1 (.slice (some ⟨g3, 0, none⟩) (l.length + 1) cap3) (l ++ [c]).length (Lib.byteCells (l ++ [c])) := by
        simpa [Lib.byteCells] using hown'
      refine World.ownsRow.kept hO2 (grown_cell w2 g 1 _) ?_
      rcases hO2.2 with ⟨hv, _⟩ | ⟨b, cap', cur, hv, hb, _⟩
      · rw [hv]; exact Or.inl rfl
      · rw [hv]
        refine Or.inr ?_
        intro e
        injection e with e
        simp only at e
        omega
  clear hown hown' hgrow hbk hb2 hor hl3 HOA HNW
  go_wp2
  go_ret
  exact ⟨rfl, HO.out, HB.out.setCell (Nat.le_refl _) _⟩
/-- The deferred call of WriteByte. -/
def dwrite (g : Nat) (c : UInt8) : Deferred := { target := .fn (.func 29) #[], args := #[.pointer (some ⟨g, 0, none⟩), .int .u8 (c.toNat : Int)] }
theorem door_write (fn : Func) (R : Ending → World → Prop) (tmps : Array Value) (c : UInt8) (B g : Nat) (nv : Value) (l : List UInt8) (w : World) (h : Wrt w B g nv l) (hlen : l.length + 1 ≤ 140737488355328) (hBw : B ≤ w.heap.size) (hR : ∀ w', Wrt w' B g nv (l ++ [c]) → Below g w w' → ∃ x, (results fn tmps).run Tryz.prog w' = .ok x w' ∧ R (.returned x) w') :
    Leaves Tryz.prog fn tmps R [dwrite g c] .returning w := by
  refine leaves_cons (f := 29) (args := #[.pointer (some ⟨g, 0, none⟩), .int .u8 (c.toNat : Int)]) (by simp) (by simp [go_sem]) ?_
  refine (wWriteByteD _ B g nv l c w h hlen hBw).mono ?_
  rintro e u' w' ⟨rfl, rfl, hp, hg⟩
  exact hR w' hp hg
end Go.Proofs.YtmdfdlljeggbbaaGreatDoor
