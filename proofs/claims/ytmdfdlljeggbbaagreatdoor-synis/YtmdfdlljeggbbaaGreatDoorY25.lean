/- The landed package syn: read. The landed package syn: read, Parse. The landed package syn: Parse. -/
import Derived.Test.YtmdfdlljeggbbaaGreatDoorY24
import Derived.Test.YtmdfdlljeggbbaaGreatDoorY04
namespace Go.Proofs.YtmdfdlljeggbbaaGreatDoor
set_option linter.unusedSimpArgs false
set_option linter.unusedVariables false
set_option maxRecDepth 100000
open Go.RowKit
/-- A reader at its beginning. -/
theorem PAt.start (w : World) (s : ByteArray) (hs : s.size ≤ 200) : PAt (w.alloc (.cells #[.string s, .int .i64 0, .slice none 0 0, .bool false] 84)) w.heap.size s s.data.toList [] := by
  refine ⟨0, .slice none 0 0, ⟨heap_alloc_new w _, by simp, ?_, hs⟩, World.ownsRow_nil _ _ _ _⟩
  rw [str_len]
  omega
/-- The three results' variables. -/
def three (w : World) : World := ((w.alloc (.cells #[.slice none 0 0] 22)).alloc (.cells #[.int .i64 0] 3)).alloc (.cells #[.nilIface] 27)
theorem three_size (w : World) : (three w).heap.size = w.heap.size + 1 + 1 + 1 := by simp [three]
theorem three_below (w : World) : Below w.heap.size w (three w) := (((Below.refl _ _).alloc (Nat.le_refl _) _).alloc (by simp) _).alloc (by simp; omega) _
/-- The results' variables are there. -/
structure Vars (h : Nat) (W : World) (v0 v1 v2 : Value) : Prop where
  b0 : W.heap[h]? = some (.cells #[v0] 22 (0, 0))
  b1 : W.heap[h + 1]? = some (.cells #[v1] 3 (0, 0))
  b2 : W.heap[h + 1 + 1]? = some (.cells #[v2] 27 (0, 0))
theorem Vars.three (w : World) : Vars w.heap.size (three w) (.slice none 0 0) (.int .i64 0) .nilIface := by
  refine ⟨?_, ?_, ?_⟩
  · refine (Below.heap_alloc _ _ _ (by simp; omega)).trans ((Below.heap_alloc _ _ _ (by simp)).trans (heap_alloc_new w _))
  · refine (Below.heap_alloc _ _ _ (by simp)).trans ?_
    have h := heap_alloc_new (w.alloc (.cells #[.slice none 0 0] 22)) (.cells #[.int .i64 0] 3)
    rw [show (w.alloc (.cells #[.slice none 0 0] 22)).heap.size = w.heap.size + 1 from by simp] at h
    exact h
  · have h := heap_alloc_new ((w.alloc (.cells #[.slice none 0 0] 22)).alloc (.cells #[.int .i64 0] 3)) (.cells #[.nilIface] 27)
    rw [show ((w.alloc (.cells #[.slice none 0 0] 22)).alloc (.cells #[.int .i64 0] 3)).heap.size = w.heap.size + 1 + 1 from by simp] at h
    exact h
theorem Vars.below {h B : Nat} {W W' : World} {v0 v1 v2 : Value} (x : Vars h W v0 v1 v2) (hb : Below B W W') (hB : h + 1 + 1 < B) : Vars h W' v0 v1 v2 :=
  ⟨(hb.block _ (by omega)).trans x.b0, (hb.block _ (by omega)).trans x.b1, (hb.block _ (by omega)).trans x.b2⟩
theorem Vars.cells {h : Nat} {W : World} {v0 v1 v2 : Value} (x : Vars h W v0 v1 v2) : W.cell? ⟨h, 0, none⟩ = some v0 ∧ W.cell? ⟨h + 1, 0, none⟩ = some v1 ∧ W.cell? ⟨h + 1 + 1, 0, none⟩ = some v2 ∧ W.frozen? ⟨h, 0, none⟩ = false ∧ W.frozen? ⟨h + 1, 0, none⟩ = false ∧ W.frozen? ⟨h + 1 + 1, 0, none⟩ = false := by
  refine ⟨?_, ?_, ?_, Lib.frozen_of_heap x.b0 0, Lib.frozen_of_heap x.b1 0, Lib.frozen_of_heap x.b2 0⟩
  · rw [Lib.cell_of_heap x.b0]; rfl
  · rw [Lib.cell_of_heap x.b1]; rfl
  · rw [Lib.cell_of_heap x.b2]; rfl
/-- What is deferred in read. -/
def dcatch (h : Nat) : Deferred := { target := .fn (.func 37) #[.pointer (some ⟨h, 0, none⟩), .pointer (some ⟨h + 1, 0, none⟩), .pointer (some ⟨h + 1 + 1, 0, none⟩)], args := #[] }
/-- A misfit is caught. -/
theorem door_mis (tmps : Array Value) (R : Ending → World → Prop) (h : Nat) (z : Int) (W w : World) (x : Vars h W (.slice none 0 0) (.int .i64 0) .nilIface) (hw : Below h w W)
    (ht2 : tmps[2]? = some (.pointer (some ⟨h, 0, none⟩))) (ht3 : tmps[3]? = some (.pointer (some ⟨h + 1, 0, none⟩))) (ht4 : tmps[4]? = some (.pointer (some ⟨h + 1 + 1, 0, none⟩)))
    (hR : ∀ W', Below h w W' → R (.returned (.tuple #[.slice none 0 0, .int .i64 z, .iface 23 (.int .i64 5)])) W') :
    Leaves Tryz.prog Tryz.f22 tmps R [dcatch h] (.panicking (mis z)) W := by
  obtain ⟨c0, c1, c2, f0, f1, f2⟩ := x.cells
  refine leaves_cons (f := 37) (args := #[.pointer (some ⟨h, 0, none⟩), .pointer (some ⟨h + 1, 0, none⟩), .pointer (some ⟨h + 1 + 1, 0, none⟩)]) (by simp) (by simp [go_sem]) ?_
  refine (catch_mis h (h + 1) (h + 1 + 1) z _ _ _ W c0 c1 c2 f0 f1 f2 (by omega) (by omega) (by omega)).mono ?_
  rintro e u' w'' ⟨rfl, rfl, rfl⟩
  have hb : Below h w ((((W.setCell ⟨h, 0, none⟩ (.slice none 0 0)).setCell ⟨h + 1, 0, none⟩ (.int .i64 z)).setCell ⟨h + 1 + 1, 0, none⟩ (.iface 23 (.int .i64 5))).alloc (.cells #[.int .i64 z] 81)).drew := ((((hw.setCell (Nat.le_refl _) _).setCell (by simp) _).setCell (by simp; omega) _).alloc (by
      have := block_lt_of_cell c0
      simp at this ⊢
      omega) _).drew
  have hlt : h + 1 + 1 < W.heap.size := by
    have := block_lt_of_cell c2
    simpa using this
  have s1 : (W.setCell ⟨h, 0, none⟩ (.slice none 0 0)).heap[h]? = some (.cells #[.slice none 0 0] 22 (0, 0)) := by simp [World.setCell, Array.getElem?_modify, x.b0]
  have s2 : ((W.setCell ⟨h, 0, none⟩ (.slice none 0 0)).setCell ⟨h + 1, 0, none⟩ (.int .i64 z)).heap[h + 1]? = some (.cells #[.int .i64 z] 3 (0, 0)) := by
    have h1 : (W.setCell ⟨h, 0, none⟩ (.slice none 0 0)).heap[h + 1]? = some (.cells #[.int .i64 0] 3 (0, 0)) := (Below.heap_setCell W _ _ (h + 1) (by simp)).trans x.b1
    generalize W.setCell ⟨h, 0, none⟩ (.slice none 0 0) = W1 at h1 ⊢
    simp [World.setCell, Array.getElem?_modify, h1]
  have s3 : (((W.setCell ⟨h, 0, none⟩ (.slice none 0 0)).setCell ⟨h + 1, 0, none⟩ (.int .i64 z)).setCell ⟨h + 1 + 1, 0, none⟩ (.iface 23 (.int .i64 5))).heap[h + 1 + 1]? = some (.cells #[.iface 23 (.int .i64 5)] 27 (0, 0)) := by
    have h1 : ((W.setCell ⟨h, 0, none⟩ (.slice none 0 0)).setCell ⟨h + 1, 0, none⟩ (.int .i64 z)).heap[h + 1 + 1]? = some (.cells #[.nilIface] 27 (0, 0)) := (Below.heap_setCell _ _ _ (h + 1 + 1) (by simp)).trans ((Below.heap_setCell W _ _ (h + 1 + 1) (by simp; omega)).trans x.b2)
    generalize (W.setCell ⟨h, 0, none⟩ (.slice none 0 0)).setCell ⟨h + 1, 0, none⟩ (.int .i64 z) = W1 at h1 ⊢
    simp [World.setCell, Array.getElem?_modify, h1]
  have s2' := (Below.heap_setCell _ ⟨h + 1 + 1, 0, none⟩ (.iface 23 (.int .i64 5)) (h + 1) (by simp)).trans s2
  have s1' := (Below.heap_setCell _ ⟨h + 1 + 1, 0, none⟩ (.iface 23 (.int .i64 5)) h (by simp; omega)).trans ((Below.heap_setCell _ ⟨h + 1, 0, none⟩ (.int .i64 z) h (by simp)).trans s1)
  generalize ((W.setCell ⟨h, 0, none⟩ (.slice none 0 0)).setCell ⟨h + 1, 0, none⟩ (.int .i64 z)).setCell ⟨h + 1 + 1, 0, none⟩ (.iface 23 (.int .i64 5)) = W3 at *
  have lt : ∀ k o, W3.heap[k]? = some o → k < W3.heap.size := fun k o hk => by
    rcases Nat.lt_or_ge k W3.heap.size with h' | h'
    · exact h'
    · rw [Array.getElem?_eq_none h'] at hk; cases hk
  have y : Vars h (W3.alloc (.cells #[.int .i64 z] 81)).drew (.slice none 0 0) (.int .i64 z) (.iface 23 (.int .i64 5)) :=
    ⟨(Below.heap_alloc W3 _ h (lt _ _ s1')).trans s1', (Below.heap_alloc W3 _ (h + 1) (lt _ _ s2')).trans s2', (Below.heap_alloc W3 _ (h + 1 + 1) (lt _ _ s3)).trans s3⟩
  obtain ⟨e0, e1, e2, _, _, _⟩ := y.cells
  refine ⟨_, ?_, hR _ hb⟩
  simp [results, Tryz.results22, go_sem, ht2, ht3, ht4, e0, e1, e2]
/-- Nothing is to be caught. -/
theorem door_idle (tmps : Array Value) (R : Ending → World → Prop) (h : Nat) (v0 v1 v2 : Value) (W : World) (x : Vars h W v0 v1 v2)
    (ht2 : tmps[2]? = some (.pointer (some ⟨h, 0, none⟩))) (ht3 : tmps[3]? = some (.pointer (some ⟨h + 1, 0, none⟩))) (ht4 : tmps[4]? = some (.pointer (some ⟨h + 1 + 1, 0, none⟩)))
    (hR : R (.returned (.tuple #[v0, v1, v2])) W) :
    Leaves Tryz.prog Tryz.f22 tmps R [dcatch h] .returning W := by
  refine leaves_cons (f := 37) (args := #[.pointer (some ⟨h, 0, none⟩), .pointer (some ⟨h + 1, 0, none⟩), .pointer (some ⟨h + 1 + 1, 0, none⟩)]) (by simp) (by simp [go_sem]) ?_
  refine (catch_idle _ _ _ W).mono ?_
  rintro e u' w'' ⟨rfl, rfl, rfl⟩
  obtain ⟨e0, e1, e2, _, _, _⟩ := x.cells
  refine ⟨_, ?_, hR⟩
  simp [results, Tryz.results22, go_sem, ht2, ht3, ht4, e0, e1, e2]
set_option maxHeartbeats 1000000 in
theorem read_bad1 (s : ByteArray) (hs : s.size ≤ 200) (k : Nat) (h : Alt s.data.toList (.error k)) (w : World) :
    Calls Tryz.prog 22 #[.string s] w fun e w' => e = .returned (.tuple #[.slice none 0 0, .int .i64 ((s.size : Int) - (k : Int)), .iface 23 (.int .i64 5)]) ∧ Below w.heap.size w w' := by
  have hmf : ∀ (fn : Fn) (first cap : Array Value) (w : World), (Instr.makeFunc fn first cap).run Tryz.prog w = .ok (.func fn first cap) w := fun _ _ _ _ => rfl
  have hf := (read_all s.data.toList.length).2.2 s.data.toList (Nat.le_refl _) _ h (three w).heap.size s [] _ (by have := str_len s; simp at this ⊢; omega) (PAt.start (three w) s hs)
  rw [three_size] at hf
  have HF := hid hf
  clear h hf
  go_enter_defers Tryz.func22, Tryz.ntmps22
  go_wp2_with fail
  refine Calls.mono HF.out ?_
  rintro e w2 ⟨rfl, hst, hb2⟩
  have hb3 := ((Below.refl (w.heap.size + 1 + 1 + 1) (three w)).alloc (by rw [three_size]; exact Nat.le_refl _) (.cells #[.string s, .int .i64 0, .slice none 0 0, .bool false] 84)).trans hb2
  refine door_mis _ _ w.heap.size _ _ w ((Vars.three w).below hb3 (by omega)) ((three_below w).trans (hb3.mono (by omega))) rfl rfl rfl ?_
  intro W' hW'
  exact ⟨rfl, hW'⟩
end Go.Proofs.YtmdfdlljeggbbaaGreatDoor
namespace Go.Proofs.YtmdfdlljeggbbaaGreatDoor
set_option linter.unusedSimpArgs false
set_option linter.unusedVariables false
set_option maxRecDepth 100000
open Go.RowKit
theorem Vars.set {h : Nat} {W : World} {v0 v1 v2 : Value} (x : Vars h W v0 v1 v2) (u0 u1 u2 : Value) : Vars h (((W.setCell ⟨h, 0, none⟩ u0).setCell ⟨h + 1, 0, none⟩ u1).setCell ⟨h + 1 + 1, 0, none⟩ u2) u0 u1 u2 := by
  have s1 : (W.setCell ⟨h, 0, none⟩ u0).heap[h]? = some (.cells #[u0] 22 (0, 0)) := by simp [World.setCell, Array.getElem?_modify, x.b0]
  have s2 : ((W.setCell ⟨h, 0, none⟩ u0).setCell ⟨h + 1, 0, none⟩ u1).heap[h + 1]? = some (.cells #[u1] 3 (0, 0)) := by
    have h1 : (W.setCell ⟨h, 0, none⟩ u0).heap[h + 1]? = some (.cells #[v1] 3 (0, 0)) := (Below.heap_setCell W _ _ (h + 1) (by simp)).trans x.b1
    generalize W.setCell ⟨h, 0, none⟩ u0 = W1 at h1 ⊢
    simp [World.setCell, Array.getElem?_modify, h1]
  have s3 : (((W.setCell ⟨h, 0, none⟩ u0).setCell ⟨h + 1, 0, none⟩ u1).setCell ⟨h + 1 + 1, 0, none⟩ u2).heap[h + 1 + 1]? = some (.cells #[u2] 27 (0, 0)) := by
    have h1 : ((W.setCell ⟨h, 0, none⟩ u0).setCell ⟨h + 1, 0, none⟩ u1).heap[h + 1 + 1]? = some (.cells #[v2] 27 (0, 0)) := (Below.heap_setCell _ _ _ (h + 1 + 1) (by simp)).trans ((Below.heap_setCell W _ _ (h + 1 + 1) (by simp; omega)).trans x.b2)
    generalize (W.setCell ⟨h, 0, none⟩ u0).setCell ⟨h + 1, 0, none⟩ u1 = W1 at h1 ⊢
    simp [World.setCell, Array.getElem?_modify, h1]
  exact ⟨(Below.heap_setCell _ ⟨h + 1 + 1, 0, none⟩ u2 h (by simp; omega)).trans ((Below.heap_setCell _ ⟨h + 1, 0, none⟩ u1 h (by simp)).trans s1), (Below.heap_setCell _ ⟨h + 1 + 1, 0, none⟩ u2 (h + 1) (by simp)).trans s2, s3⟩
set_option maxHeartbeats 1000000 in
theorem read_bad2 (s : ByteArray) (hs : s.size ≤ 200) (ss : List Rx) (l1 : List UInt8) (hl1 : l1 ≠ []) (h : Alt s.data.toList (.ok (ss, l1))) (w : World) :
    Calls Tryz.prog 22 #[.string s] w fun e w' => e = .returned (.tuple #[.slice none 0 0, .int .i64 ((s.size : Int) - (l1.length : Int)), .iface 23 (.int .i64 5)]) ∧ Below w.heap.size w w' := by
  have hmf : ∀ (fn : Fn) (first cap : Array Value) (w : World), (Instr.makeFunc fn first cap).run Tryz.prog w = .ok (.func fn first cap) w := fun _ _ _ _ => rfl
  have hf := (read_all s.data.toList.length).2.2 s.data.toList (Nat.le_refl _) _ h (three w).heap.size s [] _ (by have := str_len s; simp at this ⊢; omega) (PAt.start (three w) s hs)
  rw [three_size] at hf
  have HF := hid hf
  clear h hf
  go_enter_defers Tryz.func22, Tryz.ntmps22
  go_wp2_with fail
  refine Calls.mono HF.out ?_
  rintro e w2 ⟨rfl, hp2, hb2⟩
  obtain ⟨a2, v2, hp2, hO2⟩ := hp2
  have HB3 := hid (((Below.refl (w.heap.size + 1 + 1 + 1) (three w)).alloc (by rw [three_size]; exact Nat.le_refl _) (.cells #[.string s, .int .i64 0, .slice none 0 0, .bool false] 84)).trans hb2)
  have HP2 := hid hp2
  clear hb2 HF hO2
  obtain ⟨c1, r1, hcr⟩ : ∃ c r, l1 = c :: r := by
    cases l1 with
    | nil => exact absurd rfl hl1
    | cons c r => exact ⟨c, r, rfl⟩
  subst hcr
  clear hp2 hl1
  go_wp2_with fail
  refine Calls.mono (more_cons _ s a2 v2 c1 r1 _ HP2.out) ?_
  rintro e w3 ⟨rfl, hb3⟩
  have hp3 := HP2.out.below hb3
  obtain ⟨c0, c1', c2, c3, f1, f2, f3⟩ := hp3.rd.all
  have HP3 := hid hp3
  have HB4 := hid (HB3.out.trans (hb3.mono (Nat.le_of_lt HP2.out.lt)))
  have HPL := hid hp3.place
  clear hp3 hb3
  go_wp2_with fail
  refine Calls.mono (misfitAt_any _ s _ v2 false _ _ HP3.out.rd) ?_
  rintro e w4 ⟨rfl, hst, hg4⟩
  have hb5 := HB4.out.trans (below_of_grown hg4 (Nat.le_refl _) (Nat.le_of_lt HP3.out.lt))
  go_wp2_with fail
  refine door_mis _ _ w.heap.size (a2 : Int) _ w ((Vars.three w).below hb5 (by omega)) ((three_below w).trans (hb5.mono (by omega))) rfl rfl rfl ?_
  intro W' hW'
  refine ⟨?_, hW'⟩
  have h1 := HP3.out.le
  have h2 : (a2 : Int) = (s.size : Int) - ((c1 :: r1).length : Int) := by omega
  rw [h2]
set_option maxHeartbeats 1000000 in
theorem read_ok (s : ByteArray) (hs : s.size ≤ 200) (ss : List Rx) (h : Alt s.data.toList (.ok (ss, []))) (w : World) :
    Calls Tryz.prog 22 #[.string s] w fun e w' => ∃ v, e = .returned (.tuple #[v, .int .i64 0, .nilIface]) ∧ Below w.heap.size w w' ∧ NsIn w' v (ors ss).flat := by
  have hmf : ∀ (fn : Fn) (first cap : Array Value) (w : World), (Instr.makeFunc fn first cap).run Tryz.prog w = .ok (.func fn first cap) w := fun _ _ _ _ => rfl
  have HSZ := hid ((sizes s.data.toList.length s.data.toList (Nat.le_refl _)).2.2 ss [] h)
  have HNE := hid (alt_ne _ ss _ h)
  have hf := (read_all s.data.toList.length).2.2 s.data.toList (Nat.le_refl _) _ h (three w).heap.size s [] _ (by have := str_len s; simp at this ⊢; omega) (PAt.start (three w) s hs)
  rw [three_size] at hf
  have HF := hid hf
  clear h hf
  go_enter_defers Tryz.func22, Tryz.ntmps22
  go_wp2_with fail
  refine Calls.mono HF.out ?_
  rintro e w2 ⟨rfl, hp2, hb2⟩
  obtain ⟨a2, v2, hp2, hO2⟩ := hp2
  have HB3 := hid (((Below.refl (w.heap.size + 1 + 1 + 1) (three w)).alloc (by rw [three_size]; exact Nat.le_refl _) (.cells #[.string s, .int .i64 0, .slice none 0 0, .bool false] 84)).trans hb2)
  have HP2 := hid hp2
  have HO2 := hid hO2
  clear hb2 HF hO2 hp2
  go_wp2_with fail
  refine Calls.mono (more_nil _ s a2 v2 _ HP2.out) ?_
  rintro e w3 ⟨rfl, hb3⟩
  have hp3 := HP2.out.below hb3
  obtain ⟨g3, cap3, hu, hg3, hl3, _⟩ := (HO2.out.below hb3).form (by simp; exact flat_pos _)
  have HO3 := hid (HO2.out.below hb3)
  subst hu
  obtain ⟨c0, c1', c2, c3, f1, f2, f3⟩ := hp3.rd.all
  have hx := (Vars.three w).below (HB3.out.trans (hb3.mono (Nat.le_of_lt HP2.out.lt))) (by omega)
  obtain ⟨x0, x1, x2, y0, y1, y2⟩ := hx.cells
  have HB4 := hid (HB3.out.trans (hb3.mono (Nat.le_of_lt HP2.out.lt)))
  have HX := hid hx
  clear hp3 hb3 HP2 hx
  obtain ⟨L, hL⟩ : ∃ L, L = ([] ++ (ors ss).flat).length := ⟨_, rfl⟩
  rw [← hL] at c2 HO3
  have HL := hid hL
  clear hL
  go_wp2_with fail
  refine door_idle _ _ w.heap.size _ _ _ _ (HX.out.set _ _ _) rfl rfl rfl ?_
  have hO4 := ((HO3.out.keptG (grown_cell w3 w.heap.size 0 (.slice (some ⟨g3, 0, none⟩) L cap3)) (by omega)).keptG (grown_cell _ (w.heap.size + 1) 0 (.int .i64 0)) (by omega)).keptG (grown_cell _ (w.heap.size + 1 + 1) 0 .nilIface) (by omega)
  refine ⟨_, rfl, ?_, ?_⟩
  · exact ((((three_below w).trans (HB4.out.mono (by omega))).setCell (Nat.le_refl _) _).setCell (by simp) _).setCell (by simp; omega) _
  · refine hO4.isIn ?_
    have h1 := HSZ.out
    have h2 := orL_len (ss.map Rx.flat)
    have h3 := str_len s
    rw [List.nil_append, ors_flat ss HNE.out]
    simp only [List.length_map, List.length_nil] at h1 h2
    unfold maxLen
    omega
end Go.Proofs.YtmdfdlljeggbbaaGreatDoor
namespace Go.Proofs.YtmdfdlljeggbbaaGreatDoor
set_option linter.unusedSimpArgs false
set_option linter.unusedVariables false
set_option maxRecDepth 100000
open Go.RowKit
set_option maxHeartbeats 1000000 in
theorem parse_full (s : ByteArray) (hs : 200 < s.size) (hm : s.size ≤ maxLen) (w : World) :
    Calls Tryz.prog 9 #[.string s] w fun e w' => e = .returned (.tuple #[.slice none 0 0, .int .i64 0, .iface 23 (.int .i64 3)]) ∧ Below w.heap.size w w' := by
  have h1 : (200 : Int) < (s.size : Int) := by omega
  go_enter Tryz.func9, Tryz.ntmps9
  go_wp2
  go_ret3
  exact ⟨rfl, Below.refl _ _⟩
set_option maxHeartbeats 1000000 in
theorem parse_bad (s : ByteArray) (hs : s.size ≤ 200) (z : Int) (w : World) (h : Calls Tryz.prog 22 #[.string s] w fun e w' => e = .returned (.tuple #[.slice none 0 0, .int .i64 z, .iface 23 (.int .i64 5)]) ∧ Below w.heap.size w w') :
    Calls Tryz.prog 9 #[.string s] w fun e w' => e = .returned (.tuple #[.slice none 0 0, .int .i64 z, .iface 23 (.int .i64 5)]) ∧ Below w.heap.size w w' := by
  have h1 : ¬ (200 : Int) < (s.size : Int) := by omega
  have HC := hid h
  clear h
  go_enter Tryz.func9, Tryz.ntmps9
  go_wp2_with fail
  refine Calls.mono HC.out ?_
  rintro e w1 ⟨rfl, hb⟩
  go_wp2
  go_ret3
  exact ⟨rfl, hb⟩
set_option maxHeartbeats 1000000 in
theorem parse_ok (s : ByteArray) (hs : s.size ≤ 200) (ms : List Nd) (w : World) (h : Calls Tryz.prog 22 #[.string s] w fun e w' => ∃ v, e = .returned (.tuple #[v, .int .i64 0, .nilIface]) ∧ Below w.heap.size w w' ∧ NsIn w' v ms) (hk : ¬ 60 < ms.length) :
    Calls Tryz.prog 9 #[.string s] w fun e w' => ∃ v, e = .returned (.tuple #[v, .int .i64 0, .nilIface]) ∧ Below w.heap.size w w' ∧ NsIn w' v ms := by
  have h1 : ¬ (200 : Int) < (s.size : Int) := by omega
  have h2 : ¬ (60 : Int) < (ms.length : Int) := by omega
  have HC := hid h
  clear h
  go_enter Tryz.func9, Tryz.ntmps9
  go_wp2_with fail
  refine Calls.mono HC.out ?_
  rintro e w1 ⟨v, rfl, hb, hN⟩
  obtain ⟨a0, c0, rfl, hN1⟩ := hN
  have HN := hid hN1
  clear hN1
  go_wp2
  go_ret3
  exact ⟨_, rfl, hb, ⟨a0, c0, rfl, HN.out⟩⟩
set_option maxHeartbeats 1000000 in
theorem parse_many (s : ByteArray) (hs : s.size ≤ 200) (ms : List Nd) (w : World) (h : Calls Tryz.prog 22 #[.string s] w fun e w' => ∃ v, e = .returned (.tuple #[v, .int .i64 0, .nilIface]) ∧ Below w.heap.size w w' ∧ NsIn w' v ms) (hk : 60 < ms.length) :
    Calls Tryz.prog 9 #[.string s] w fun e w' => e = .returned (.tuple #[.slice none 0 0, .int .i64 0, .iface 23 (.int .i64 3)]) ∧ Below w.heap.size w w' := by
  have h1 : ¬ (200 : Int) < (s.size : Int) := by omega
  have h2 : (60 : Int) < (ms.length : Int) := by omega
  have HC := hid h
  clear h
  go_enter Tryz.func9, Tryz.ntmps9
  go_wp2_with fail
  refine Calls.mono HC.out ?_
  rintro e w1 ⟨v, rfl, hb, hN⟩
  obtain ⟨a0, c0, rfl, hN1⟩ := hN
  clear hN1
  go_wp2
  go_ret3
  exact ⟨rfl, hb⟩
theorem nsNil (w : World) : NsIn w (.slice none 0 0) [] := ⟨none, 0, rfl, by unfold maxLen; simp, Or.inl rfl⟩
theorem whole_bad {l : List UInt8} {k : Nat} (h : Whole l (.error k)) : Alt l (.error k) ∨ ∃ ss l1, Alt l (.ok (ss, l1)) ∧ l1 ≠ [] ∧ k = l1.length := by
  cases h with
  | bad _ h => exact Or.inl h
  | more ss l1 h hn => exact Or.inr ⟨ss, l1, h, hn, rfl⟩
theorem whole_ok {l : List UInt8} {t : Rx} (h : Whole l (.ok t)) : ∃ ss, Alt l (.ok (ss, [])) ∧ t = ors ss := by
  cases h with
  | ok ss h => exact ⟨ss, h, rfl⟩
/-- Package syn reads as the document asks. -/
theorem synR : SynR where
  parse := by
    intro s w ms k e hm hR
    cases hR with
    | full h => exact (parse_full s h hm w).mono fun _ w' x => ⟨_, x.1, x.2, nsNil w'⟩
    | bad k h hW =>
      have hread : Calls Tryz.prog 22 #[.string s] w fun e w' => e = .returned (.tuple #[.slice none 0 0, .int .i64 ((s.size : Int) - (k : Int)), .iface 23 (.int .i64 5)]) ∧ Below w.heap.size w w' := by
        rcases whole_bad hW with ha | ⟨ss, l1, ha, hn, rfl⟩
        · exact read_bad1 s h k ha w
        · exact read_bad2 s h ss l1 hn ha w
      exact (parse_bad s h _ w hread).mono fun _ w' x => ⟨_, x.1, x.2, nsNil w'⟩
    | many t h hW h6 =>
      obtain ⟨ss, ha, rfl⟩ := whole_ok hW
      exact (parse_many s h _ w (read_ok s h ss ha w) h6).mono fun _ w' x => ⟨_, x.1, x.2, nsNil w'⟩
    | ok t h hW h6 =>
      obtain ⟨ss, ha, rfl⟩ := whole_ok hW
      exact (parse_ok s h _ w (read_ok s h ss ha w) h6).mono fun _ w' x => by
        obtain ⟨v, h1, h2, h3⟩ := x
        exact ⟨v, h1, h2, h3⟩
end Go.Proofs.YtmdfdlljeggbbaaGreatDoor
