/- The landed package syn: read. What the document asks of syn.Parse. The landed package syn: read, Parse. The landed package syn: Parse. Package syn: what Parse answers is its own. What the document asks of lit.Needed. What the document's own functions (package winnowfanref1) answer: In, With, OfText, Others, Count. What the document's own functions answer: Count. What the document's own functions answer: Parts, EndOf. -/
import Derived.Test.YtejbififfceamaaGreatDoorY15
import Derived.Test.YtejbififfceamaaGreatDoorY06
import Derived.Test.YtejbififfceamaaGreatDoorY02
import Derived.Deep.Onto
import Derived.Test.YtejbififfceamaaGreatDoorY04
import Derived.Test.YtejbififfceamaaGreatDoorY07
import Derived.Test.YtejbififfceamaaGreatDoorY01
namespace Go.Proofs.YtejbififfceamaaGreatDoor
set_option linter.unusedSimpArgs false
set_option linter.unusedVariables false
set_option maxRecDepth 100000
open Go.RowKit
/-- A reader at its beginning. -/
theorem PAt.start (w : World) (s : ByteArray) (hs : s.size ≤ 200) : PAt (w.alloc (.cells #[.string s, .int .i64 0, .slice none 0 0, .bool false] 116)) w.heap.size s s.data.toList [] := by
  refine ⟨0, .slice none 0 0, ⟨heap_alloc_new w _, by simp, ?_, hs⟩, World.ownsRow_nil _ _ _ _⟩
  rw [str_len]
  omega
/-- The three results' variables. -/
def three (w : World) : World := ((w.alloc (.cells #[.slice none 0 0] 60)).alloc (.cells #[.int .i64 0] 3)).alloc (.cells #[.nilIface] 36)
theorem three_size (w : World) : (three w).heap.size = w.heap.size + 1 + 1 + 1 := by simp [three]
theorem three_below (w : World) : Below w.heap.size w (three w) := (((Below.refl _ _).alloc (Nat.le_refl _) _).alloc (by simp) _).alloc (by simp; omega) _
/-- The results' variables are there. -/
structure Vars (h : Nat) (W : World) (v0 v1 v2 : Value) : Prop where
  b0 : W.heap[h]? = some (.cells #[v0] 60 (0, 0))
  b1 : W.heap[h + 1]? = some (.cells #[v1] 3 (0, 0))
  b2 : W.heap[h + 1 + 1]? = some (.cells #[v2] 36 (0, 0))
theorem Vars.three (w : World) : Vars w.heap.size (three w) (.slice none 0 0) (.int .i64 0) .nilIface := by
  refine ⟨?_, ?_, ?_⟩
  · refine (Below.heap_alloc _ _ _ (by simp; omega)).trans ((Below.heap_alloc _ _ _ (by simp)).trans (heap_alloc_new w _))
  · refine (Below.heap_alloc _ _ _ (by simp)).trans ?_
    have h := heap_alloc_new (w.alloc (.cells #[.slice none 0 0] 60)) (.cells #[.int .i64 0] 3)
    rw [show (w.alloc (.cells #[.slice none 0 0] 60)).heap.size = w.heap.size + 1 from by simp] at h
    exact h
  · have h := heap_alloc_new ((w.alloc (.cells #[.slice none 0 0] 60)).alloc (.cells #[.int .i64 0] 3)) (.cells #[.nilIface] 36)
    rw [show ((w.alloc (.cells #[.slice none 0 0] 60)).alloc (.cells #[.int .i64 0] 3)).heap.size = w.heap.size + 1 + 1 from by simp] at h
    exact h
theorem Vars.below {h B : Nat} {W W' : World} {v0 v1 v2 : Value} (x : Vars h W v0 v1 v2) (hb : Below B W W') (hB : h + 1 + 1 < B) : Vars h W' v0 v1 v2 :=
  ⟨(hb.block _ (by omega)).trans x.b0, (hb.block _ (by omega)).trans x.b1, (hb.block _ (by omega)).trans x.b2⟩
theorem Vars.cells {h : Nat} {W : World} {v0 v1 v2 : Value} (x : Vars h W v0 v1 v2) : W.cell? ⟨h, 0, none⟩ = some v0 ∧ W.cell? ⟨h + 1, 0, none⟩ = some v1 ∧ W.cell? ⟨h + 1 + 1, 0, none⟩ = some v2 ∧ W.frozen? ⟨h, 0, none⟩ = false ∧ W.frozen? ⟨h + 1, 0, none⟩ = false ∧ W.frozen? ⟨h + 1 + 1, 0, none⟩ = false := by
  refine ⟨?_, ?_, ?_, Lib.frozen_of_heap x.b0 0, Lib.frozen_of_heap x.b1 0, Lib.frozen_of_heap x.b2 0⟩
  · rw [Lib.cell_of_heap x.b0]; rfl
  · rw [Lib.cell_of_heap x.b1]; rfl
  · rw [Lib.cell_of_heap x.b2]; rfl
/-- What is deferred in read. -/
def dcatch (h : Nat) : Deferred := { target := .fn (.func 45) #[.pointer (some ⟨h, 0, none⟩), .pointer (some ⟨h + 1, 0, none⟩), .pointer (some ⟨h + 1 + 1, 0, none⟩)], args := #[] }
/-- A misfit is caught. -/
theorem door_mis (tmps : Array Value) (R : Ending → World → Prop) (h : Nat) (z : Int) (W w : World) (x : Vars h W (.slice none 0 0) (.int .i64 0) .nilIface) (hw : Below h w W)
    (ht2 : tmps[2]? = some (.pointer (some ⟨h, 0, none⟩))) (ht3 : tmps[3]? = some (.pointer (some ⟨h + 1, 0, none⟩))) (ht4 : tmps[4]? = some (.pointer (some ⟨h + 1 + 1, 0, none⟩)))
    (hR : ∀ W', Below h w W' → R (.returned (.tuple #[.slice none 0 0, .int .i64 z, .iface 32 (.int .i64 5)])) W') :
    Leaves Tryz.prog Tryz.f34 tmps R [dcatch h] (.panicking (mis z)) W := by
  obtain ⟨c0, c1, c2, f0, f1, f2⟩ := x.cells
  refine leaves_cons (f := 45) (args := #[.pointer (some ⟨h, 0, none⟩), .pointer (some ⟨h + 1, 0, none⟩), .pointer (some ⟨h + 1 + 1, 0, none⟩)]) (by simp) (by simp [go_sem]) ?_
  refine (catch_mis h (h + 1) (h + 1 + 1) z _ _ _ W c0 c1 c2 f0 f1 f2 (by omega) (by omega) (by omega)).mono ?_
  rintro e u' w'' ⟨rfl, rfl, rfl⟩
  have hb : Below h w ((((W.setCell ⟨h, 0, none⟩ (.slice none 0 0)).setCell ⟨h + 1, 0, none⟩ (.int .i64 z)).setCell ⟨h + 1 + 1, 0, none⟩ (.iface 32 (.int .i64 5))).alloc (.cells #[.int .i64 z] 113)).drew := ((((hw.setCell (Nat.le_refl _) _).setCell (by simp) _).setCell (by simp; omega) _).alloc (by
      have := block_lt_of_cell c0
      simp at this ⊢
      omega) _).drew
  have hlt : h + 1 + 1 < W.heap.size := by
    have := block_lt_of_cell c2
    simpa using this
  have s1 : (W.setCell ⟨h, 0, none⟩ (.slice none 0 0)).heap[h]? = some (.cells #[.slice none 0 0] 60 (0, 0)) := by simp [World.setCell, Array.getElem?_modify, x.b0]
  have s2 : ((W.setCell ⟨h, 0, none⟩ (.slice none 0 0)).setCell ⟨h + 1, 0, none⟩ (.int .i64 z)).heap[h + 1]? = some (.cells #[.int .i64 z] 3 (0, 0)) := by
    have h1 : (W.setCell ⟨h, 0, none⟩ (.slice none 0 0)).heap[h + 1]? = some (.cells #[.int .i64 0] 3 (0, 0)) := (Below.heap_setCell W _ _ (h + 1) (by simp)).trans x.b1
    generalize W.setCell ⟨h, 0, none⟩ (.slice none 0 0) = W1 at h1 ⊢
    simp [World.setCell, Array.getElem?_modify, h1]
  have s3 : (((W.setCell ⟨h, 0, none⟩ (.slice none 0 0)).setCell ⟨h + 1, 0, none⟩ (.int .i64 z)).setCell ⟨h + 1 + 1, 0, none⟩ (.iface 32 (.int .i64 5))).heap[h + 1 + 1]? = some (.cells #[.iface 32 (.int .i64 5)] 36 (0, 0)) := by
    have h1 : ((W.setCell ⟨h, 0, none⟩ (.slice none 0 0)).setCell ⟨h + 1, 0, none⟩ (.int .i64 z)).heap[h + 1 + 1]? = some (.cells #[.nilIface] 36 (0, 0)) := (Below.heap_setCell _ _ _ (h + 1 + 1) (by simp)).trans ((Below.heap_setCell W _ _ (h + 1 + 1) (by simp; omega)).trans x.b2)
    generalize (W.setCell ⟨h, 0, none⟩ (.slice none 0 0)).setCell ⟨h + 1, 0, none⟩ (.int .i64 z) = W1 at h1 ⊢
    simp [World.setCell, Array.getElem?_modify, h1]
  have s2' := (Below.heap_setCell _ ⟨h + 1 + 1, 0, none⟩ (.iface 32 (.int .i64 5)) (h + 1) (by simp)).trans s2
  have s1' := (Below.heap_setCell _ ⟨h + 1 + 1, 0, none⟩ (.iface 32 (.int .i64 5)) h (by simp; omega)).trans ((Below.heap_setCell _ ⟨h + 1, 0, none⟩ (.int .i64 z) h (by simp)).trans s1)
  generalize ((W.setCell ⟨h, 0, none⟩ (.slice none 0 0)).setCell ⟨h + 1, 0, none⟩ (.int .i64 z)).setCell ⟨h + 1 + 1, 0, none⟩ (.iface 32 (.int .i64 5)) = W3 at *
  have lt : ∀ k o, W3.heap[k]? = some o → k < W3.heap.size := fun k o hk => by
    rcases Nat.lt_or_ge k W3.heap.size with h' | h'
    · exact h'
    · rw [Array.getElem?_eq_none h'] at hk; cases hk
  have y : Vars h (W3.alloc (.cells #[.int .i64 z] 113)).drew (.slice none 0 0) (.int .i64 z) (.iface 32 (.int .i64 5)) :=
    ⟨(Below.heap_alloc W3 _ h (lt _ _ s1')).trans s1', (Below.heap_alloc W3 _ (h + 1) (lt _ _ s2')).trans s2', (Below.heap_alloc W3 _ (h + 1 + 1) (lt _ _ s3)).trans s3⟩
  obtain ⟨e0, e1, e2, _, _, _⟩ := y.cells
  refine ⟨_, ?_, hR _ hb⟩
  simp [results, Tryz.results34, go_sem, ht2, ht3, ht4, e0, e1, e2]
/-- Nothing is to be caught. -/
theorem door_idle (tmps : Array Value) (R : Ending → World → Prop) (h : Nat) (v0 v1 v2 : Value) (W : World) (x : Vars h W v0 v1 v2)
    (ht2 : tmps[2]? = some (.pointer (some ⟨h, 0, none⟩))) (ht3 : tmps[3]? = some (.pointer (some ⟨h + 1, 0, none⟩))) (ht4 : tmps[4]? = some (.pointer (some ⟨h + 1 + 1, 0, none⟩)))
    (hR : R (.returned (.tuple #[v0, v1, v2])) W) :
    Leaves Tryz.prog Tryz.f34 tmps R [dcatch h] .returning W := by
  refine leaves_cons (f := 45) (args := #[.pointer (some ⟨h, 0, none⟩), .pointer (some ⟨h + 1, 0, none⟩), .pointer (some ⟨h + 1 + 1, 0, none⟩)]) (by simp) (by simp [go_sem]) ?_
  refine (catch_idle _ _ _ W).mono ?_
  rintro e u' w'' ⟨rfl, rfl, rfl⟩
  obtain ⟨e0, e1, e2, _, _, _⟩ := x.cells
  refine ⟨_, ?_, hR⟩
  simp [results, Tryz.results34, go_sem, ht2, ht3, ht4, e0, e1, e2]
set_option maxHeartbeats 1000000 in
theorem read_bad1 (s : ByteArray) (hs : s.size ≤ 200) (k : Nat) (h : Alt s.data.toList (.error k)) (w : World) :
    Calls Tryz.prog 34 #[.string s] w fun e w' => e = .returned (.tuple #[.slice none 0 0, .int .i64 ((s.size : Int) - (k : Int)), .iface 32 (.int .i64 5)]) ∧ Below w.heap.size w w' := by
  have hmf : ∀ (fn : Fn) (first cap : Array Value) (w : World), (Instr.makeFunc fn first cap).run Tryz.prog w = .ok (.func fn first cap) w := fun _ _ _ _ => rfl
  have hf := (read_all s.data.toList.length).2.2 s.data.toList (Nat.le_refl _) _ h (three w).heap.size s [] _ (by have := str_len s; simp at this ⊢; omega) (PAt.start (three w) s hs)
  rw [three_size] at hf
  have HF := hid hf
  clear h hf
  go_enter_defers Tryz.func34, Tryz.ntmps34
  go_wp2_with fail
  refine Calls.mono HF.out ?_
  rintro e w2 ⟨rfl, hst, hb2⟩
  have hb3 := ((Below.refl (w.heap.size + 1 + 1 + 1) (three w)).alloc (by rw [three_size]; exact Nat.le_refl _) (.cells #[.string s, .int .i64 0, .slice none 0 0, .bool false] 116)).trans hb2
  refine door_mis _ _ w.heap.size _ _ w ((Vars.three w).below hb3 (by omega)) ((three_below w).trans (hb3.mono (by omega))) rfl rfl rfl ?_
  intro W' hW'
  exact ⟨rfl, hW'⟩
end Go.Proofs.YtejbififfceamaaGreatDoor
namespace Go.Proofs.YtejbififfceamaaGreatDoor
set_option linter.unusedSimpArgs false
set_option linter.unusedVariables false
set_option maxRecDepth 100000
open Go.RowKit

/-- What the document asks of Parse. -/
structure SynR : Prop where
  parse : ∀ (s : ByteArray) (w : World) ms k e, s.size ≤ maxLen → PsR s ms k e → Calls Tryz.prog 20 #[.string s] w fun x w' => ∃ u, x = .returned (.tuple #[u, .int .i64 k, errV e]) ∧ Below w.heap.size w w' ∧ NsIn w' u ms
end Go.Proofs.YtejbififfceamaaGreatDoor
namespace Go.Proofs.YtejbififfceamaaGreatDoor
set_option linter.unusedSimpArgs false
set_option linter.unusedVariables false
set_option maxRecDepth 100000
open Go.RowKit
theorem Vars.set {h : Nat} {W : World} {v0 v1 v2 : Value} (x : Vars h W v0 v1 v2) (u0 u1 u2 : Value) : Vars h (((W.setCell ⟨h, 0, none⟩ u0).setCell ⟨h + 1, 0, none⟩ u1).setCell ⟨h + 1 + 1, 0, none⟩ u2) u0 u1 u2 := by
  have s1 : (W.setCell ⟨h, 0, none⟩ u0).heap[h]? = some (.cells #[u0] 60 (0, 0)) := by simp [World.setCell, Array.getElem?_modify, x.b0]
  have s2 : ((W.setCell ⟨h, 0, none⟩ u0).setCell ⟨h + 1, 0, none⟩ u1).heap[h + 1]? = some (.cells #[u1] 3 (0, 0)) := by
    have h1 : (W.setCell ⟨h, 0, none⟩ u0).heap[h + 1]? = some (.cells #[v1] 3 (0, 0)) := (Below.heap_setCell W _ _ (h + 1) (by simp)).trans x.b1
    generalize W.setCell ⟨h, 0, none⟩ u0 = W1 at h1 ⊢
    simp [World.setCell, Array.getElem?_modify, h1]
  have s3 : (((W.setCell ⟨h, 0, none⟩ u0).setCell ⟨h + 1, 0, none⟩ u1).setCell ⟨h + 1 + 1, 0, none⟩ u2).heap[h + 1 + 1]? = some (.cells #[u2] 36 (0, 0)) := by
    have h1 : ((W.setCell ⟨h, 0, none⟩ u0).setCell ⟨h + 1, 0, none⟩ u1).heap[h + 1 + 1]? = some (.cells #[v2] 36 (0, 0)) := (Below.heap_setCell _ _ _ (h + 1 + 1) (by simp)).trans ((Below.heap_setCell W _ _ (h + 1 + 1) (by simp; omega)).trans x.b2)
    generalize (W.setCell ⟨h, 0, none⟩ u0).setCell ⟨h + 1, 0, none⟩ u1 = W1 at h1 ⊢
    simp [World.setCell, Array.getElem?_modify, h1]
  exact ⟨(Below.heap_setCell _ ⟨h + 1 + 1, 0, none⟩ u2 h (by simp; omega)).trans ((Below.heap_setCell _ ⟨h + 1, 0, none⟩ u1 h (by simp)).trans s1), (Below.heap_setCell _ ⟨h + 1 + 1, 0, none⟩ u2 (h + 1) (by simp)).trans s2, s3⟩
set_option maxHeartbeats 1000000 in
theorem read_bad2 (s : ByteArray) (hs : s.size ≤ 200) (ss : List Rx) (l1 : List UInt8) (hl1 : l1 ≠ []) (h : Alt s.data.toList (.ok (ss, l1))) (w : World) :
    Calls Tryz.prog 34 #[.string s] w fun e w' => e = .returned (.tuple #[.slice none 0 0, .int .i64 ((s.size : Int) - (l1.length : Int)), .iface 32 (.int .i64 5)]) ∧ Below w.heap.size w w' := by
  have hmf : ∀ (fn : Fn) (first cap : Array Value) (w : World), (Instr.makeFunc fn first cap).run Tryz.prog w = .ok (.func fn first cap) w := fun _ _ _ _ => rfl
  have hf := (read_all s.data.toList.length).2.2 s.data.toList (Nat.le_refl _) _ h (three w).heap.size s [] _ (by have := str_len s; simp at this ⊢; omega) (PAt.start (three w) s hs)
  rw [three_size] at hf
  have HF := hid hf
  clear h hf
  go_enter_defers Tryz.func34, Tryz.ntmps34
  go_wp2_with fail
  refine Calls.mono HF.out ?_
  rintro e w2 ⟨rfl, hp2, hb2⟩
  obtain ⟨a2, v2, hp2, hO2⟩ := hp2
  have HB3 := hid (((Below.refl (w.heap.size + 1 + 1 + 1) (three w)).alloc (by rw [three_size]; exact Nat.le_refl _) (.cells #[.string s, .int .i64 0, .slice none 0 0, .bool false] 116)).trans hb2)
  have HP2 := hid hp2
  clear hb2 HF hO2
  obtain ⟨c1, r1, hcr⟩ : ∃ c r, l1 = c :: r := by
    cases l1 with
    | nil => exact absurd rfl hl1
    | cons c r => exact ⟨c, r, rfl⟩
  subst hcr
  clear hp2 hl1
  go_wp2_with fail
  refine Calls.mono (more_cons _ s a2 v2 c1 r1 _ HP2.out) ?_
  rintro e w3 ⟨rfl, hb3⟩
  have hp3 := HP2.out.below hb3
  obtain ⟨c0, c1', c2, c3, f1, f2, f3⟩ := hp3.rd.all
  have HP3 := hid hp3
  have HB4 := hid (HB3.out.trans (hb3.mono (Nat.le_of_lt HP2.out.lt)))
  have HPL := hid hp3.place
  clear hp3 hb3
  go_wp2_with fail
  refine Calls.mono (misfitAt_any _ s _ v2 false _ _ HP3.out.rd) ?_
  rintro e w4 ⟨rfl, hst, hg4⟩
  have hb5 := HB4.out.trans (below_of_grown hg4 (Nat.le_refl _) (Nat.le_of_lt HP3.out.lt))
  go_wp2_with fail
  refine door_mis _ _ w.heap.size (a2 : Int) _ w ((Vars.three w).below hb5 (by omega)) ((three_below w).trans (hb5.mono (by omega))) rfl rfl rfl ?_
  intro W' hW'
  refine ⟨?_, hW'⟩
  have h1 := HP3.out.le
  have h2 : (a2 : Int) = (s.size : Int) - ((c1 :: r1).length : Int) := by omega
  rw [h2]
set_option maxHeartbeats 1000000 in
theorem read_own (s : ByteArray) (hs : s.size ≤ 200) (ss : List Rx) (h : Alt s.data.toList (.ok (ss, []))) (w : World) :
    Calls Tryz.prog 34 #[.string s] w fun e w' => ∃ v, e = .returned (.tuple #[v, .int .i64 0, .nilIface]) ∧ Below w.heap.size w w' ∧ NsOwn w' w.heap.size v (ors ss).flat := by
  have hmf : ∀ (fn : Fn) (first cap : Array Value) (w : World), (Instr.makeFunc fn first cap).run Tryz.prog w = .ok (.func fn first cap) w := fun _ _ _ _ => rfl
  have hf := (read_all s.data.toList.length).2.2 s.data.toList (Nat.le_refl _) _ h (three w).heap.size s [] _ (by have := str_len s; simp at this ⊢; omega) (PAt.start (three w) s hs)
  rw [three_size] at hf
  have HF := hid hf
  clear h hf
  go_enter_defers Tryz.func34, Tryz.ntmps34
  go_wp2_with fail
  refine Calls.mono HF.out ?_
  rintro e w2 ⟨rfl, hp2, hb2⟩
  obtain ⟨a2, v2, hp2, hO2⟩ := hp2
  have HB3 := hid (((Below.refl (w.heap.size + 1 + 1 + 1) (three w)).alloc (by rw [three_size]; exact Nat.le_refl _) (.cells #[.string s, .int .i64 0, .slice none 0 0, .bool false] 116)).trans hb2)
  have HP2 := hid hp2
  have HO2 := hid hO2
  clear hb2 HF hO2 hp2
  go_wp2_with fail
  refine Calls.mono (more_nil _ s a2 v2 _ HP2.out) ?_
  rintro e w3 ⟨rfl, hb3⟩
  have hp3 := HP2.out.below hb3
  obtain ⟨g3, cap3, hu, hg3, hl3, _⟩ := (HO2.out.below hb3).form (by simp; exact flat_pos _)
  have HO3 := hid (HO2.out.below hb3)
  subst hu
  obtain ⟨c0, c1', c2, c3, f1, f2, f3⟩ := hp3.rd.all
  have hx := (Vars.three w).below (HB3.out.trans (hb3.mono (Nat.le_of_lt HP2.out.lt))) (by omega)
  obtain ⟨x0, x1, x2, y0, y1, y2⟩ := hx.cells
  have HB4 := hid (HB3.out.trans (hb3.mono (Nat.le_of_lt HP2.out.lt)))
  have HX := hid hx
  clear hp3 hb3 HP2 hx
  obtain ⟨L, hL⟩ : ∃ L, L = ([] ++ (ors ss).flat).length := ⟨_, rfl⟩
  rw [← hL] at c2 HO3
  have HL := hid hL
  clear hL
  go_wp2_with fail
  refine door_idle _ _ w.heap.size _ _ _ _ (HX.out.set _ _ _) rfl rfl rfl ?_
  have hO4 := ((HO3.out.keptG (grown_cell w3 w.heap.size 0 (.slice (some ⟨g3, 0, none⟩) L cap3)) (by omega)).keptG (grown_cell _ (w.heap.size + 1) 0 (.int .i64 0)) (by omega)).keptG (grown_cell _ (w.heap.size + 1 + 1) 0 .nilIface) (by omega)
  refine ⟨_, rfl, ?_, ?_⟩
  · exact ((((three_below w).trans (HB4.out.mono (by omega))).setCell (Nat.le_refl _) _).setCell (by simp) _).setCell (by simp; omega) _
  · exact World.ownsRow.mono (show NsOwn _ _ _ (ors ss).flat from hO4) (by (try rw [three_size]); omega)
theorem alt_len {s : ByteArray} (hs : s.size ≤ 200) {ss : List Rx} (h : Alt s.data.toList (.ok (ss, []))) : (ors ss).flat.length ≤ maxLen := by
  have h1 := (sizes s.data.toList.length s.data.toList (Nat.le_refl _)).2.2 ss [] h
  have h2 := orL_len (ss.map Rx.flat)
  have h3 := str_len s
  rw [ors_flat ss (alt_ne _ ss _ h)]
  simp only [List.length_map, List.length_nil] at h1 h2
  unfold maxLen
  omega
theorem read_ok (s : ByteArray) (hs : s.size ≤ 200) (ss : List Rx) (h : Alt s.data.toList (.ok (ss, []))) (w : World) :
    Calls Tryz.prog 34 #[.string s] w fun e w' => ∃ v, e = .returned (.tuple #[v, .int .i64 0, .nilIface]) ∧ Below w.heap.size w w' ∧ NsIn w' v (ors ss).flat :=
  (read_own s hs ss h w).mono fun _ _ ⟨v, h1, h2, h3⟩ => ⟨v, h1, h2, h3.isIn (alt_len hs h)⟩
end Go.Proofs.YtejbififfceamaaGreatDoor
namespace Go.Proofs.YtejbififfceamaaGreatDoor
set_option linter.unusedSimpArgs false
set_option linter.unusedVariables false
set_option maxRecDepth 100000
open Go.RowKit
set_option maxHeartbeats 1000000 in
theorem parse_full (s : ByteArray) (hs : 200 < s.size) (hm : s.size ≤ maxLen) (w : World) :
    Calls Tryz.prog 20 #[.string s] w fun e w' => e = .returned (.tuple #[.slice none 0 0, .int .i64 0, .iface 32 (.int .i64 3)]) ∧ Below w.heap.size w w' := by
  have h1 : (200 : Int) < (s.size : Int) := by omega
  go_enter Tryz.func20, Tryz.ntmps20
  go_wp2
  go_ret3
  exact ⟨rfl, Below.refl _ _⟩
set_option maxHeartbeats 1000000 in
theorem parse_bad (s : ByteArray) (hs : s.size ≤ 200) (z : Int) (w : World) (h : Calls Tryz.prog 34 #[.string s] w fun e w' => e = .returned (.tuple #[.slice none 0 0, .int .i64 z, .iface 32 (.int .i64 5)]) ∧ Below w.heap.size w w') :
    Calls Tryz.prog 20 #[.string s] w fun e w' => e = .returned (.tuple #[.slice none 0 0, .int .i64 z, .iface 32 (.int .i64 5)]) ∧ Below w.heap.size w w' := by
  have h1 : ¬ (200 : Int) < (s.size : Int) := by omega
  have HC := hid h
  clear h
  go_enter Tryz.func20, Tryz.ntmps20
  go_wp2_with fail
  refine Calls.mono HC.out ?_
  rintro e w1 ⟨rfl, hb⟩
  go_wp2
  go_ret3
  exact ⟨rfl, hb⟩
set_option maxHeartbeats 1000000 in
theorem parse_ok (s : ByteArray) (hs : s.size ≤ 200) (ms : List Nd) (w : World) (h : Calls Tryz.prog 34 #[.string s] w fun e w' => ∃ v, e = .returned (.tuple #[v, .int .i64 0, .nilIface]) ∧ Below w.heap.size w w' ∧ NsIn w' v ms) (hk : ¬ 60 < ms.length) :
    Calls Tryz.prog 20 #[.string s] w fun e w' => ∃ v, e = .returned (.tuple #[v, .int .i64 0, .nilIface]) ∧ Below w.heap.size w w' ∧ NsIn w' v ms := by
  have h1 : ¬ (200 : Int) < (s.size : Int) := by omega
  have h2 : ¬ (60 : Int) < (ms.length : Int) := by omega
  have HC := hid h
  clear h
  go_enter Tryz.func20, Tryz.ntmps20
  go_wp2_with fail
  refine Calls.mono HC.out ?_
  rintro e w1 ⟨v, rfl, hb, hN⟩
  obtain ⟨a0, c0, rfl, hN1⟩ := hN
  have HN := hid hN1
  clear hN1
  go_wp2
  go_ret3
  exact ⟨_, rfl, hb, ⟨a0, c0, rfl, HN.out⟩⟩
set_option maxHeartbeats 1000000 in
theorem parse_many (s : ByteArray) (hs : s.size ≤ 200) (ms : List Nd) (w : World) (h : Calls Tryz.prog 34 #[.string s] w fun e w' => ∃ v, e = .returned (.tuple #[v, .int .i64 0, .nilIface]) ∧ Below w.heap.size w w' ∧ NsIn w' v ms) (hk : 60 < ms.length) :
    Calls Tryz.prog 20 #[.string s] w fun e w' => e = .returned (.tuple #[.slice none 0 0, .int .i64 0, .iface 32 (.int .i64 3)]) ∧ Below w.heap.size w w' := by
  have h1 : ¬ (200 : Int) < (s.size : Int) := by omega
  have h2 : (60 : Int) < (ms.length : Int) := by omega
  have HC := hid h
  clear h
  go_enter Tryz.func20, Tryz.ntmps20
  go_wp2_with fail
  refine Calls.mono HC.out ?_
  rintro e w1 ⟨v, rfl, hb, hN⟩
  obtain ⟨a0, c0, rfl, hN1⟩ := hN
  clear hN1
  go_wp2
  go_ret3
  exact ⟨rfl, hb⟩
theorem nsNil (w : World) : NsIn w (.slice none 0 0) [] := ⟨none, 0, rfl, by unfold maxLen; simp, Or.inl rfl⟩
theorem whole_bad {l : List UInt8} {k : Nat} (h : Whole l (.error k)) : Alt l (.error k) ∨ ∃ ss l1, Alt l (.ok (ss, l1)) ∧ l1 ≠ [] ∧ k = l1.length := by
  cases h with
  | bad _ h => exact Or.inl h
  | more ss l1 h hn => exact Or.inr ⟨ss, l1, h, hn, rfl⟩
theorem whole_ok {l : List UInt8} {t : Rx} (h : Whole l (.ok t)) : ∃ ss, Alt l (.ok (ss, [])) ∧ t = ors ss := by
  cases h with
  | ok ss h => exact ⟨ss, h, rfl⟩
/-- Package syn reads as the document asks. -/
theorem synR : SynR where
  parse := by
    intro s w ms k e hm hR
    cases hR with
    | full h => exact (parse_full s h hm w).mono fun _ w' x => ⟨_, x.1, x.2, nsNil w'⟩
    | bad k h hW =>
      have hread : Calls Tryz.prog 34 #[.string s] w fun e w' => e = .returned (.tuple #[.slice none 0 0, .int .i64 ((s.size : Int) - (k : Int)), .iface 32 (.int .i64 5)]) ∧ Below w.heap.size w w' := by
        rcases whole_bad hW with ha | ⟨ss, l1, ha, hn, rfl⟩
        · exact read_bad1 s h k ha w
        · exact read_bad2 s h ss l1 hn ha w
      exact (parse_bad s h _ w hread).mono fun _ w' x => ⟨_, x.1, x.2, nsNil w'⟩
    | many t h hW h6 =>
      obtain ⟨ss, ha, rfl⟩ := whole_ok hW
      exact (parse_many s h _ w (read_ok s h ss ha w) h6).mono fun _ w' x => ⟨_, x.1, x.2, nsNil w'⟩
    | ok t h hW h6 =>
      obtain ⟨ss, ha, rfl⟩ := whole_ok hW
      exact (parse_ok s h _ w (read_ok s h ss ha w) h6).mono fun _ w' x => by
        obtain ⟨v, h1, h2, h3⟩ := x
        exact ⟨v, h1, h2, h3⟩
end Go.Proofs.YtejbififfceamaaGreatDoor
namespace Go.Proofs.YtejbififfceamaaGreatDoor
set_option linter.unusedSimpArgs false
set_option linter.unusedVariables false
set_option maxRecDepth 100000
open Go.RowKit
set_option maxHeartbeats 1000000 in
theorem parse_by (s : ByteArray) (hs : s.size ≤ 200) (ms : List Nd) (w : World) (h : Calls Tryz.prog 34 #[.string s] w fun e w' => ∃ v, e = .returned (.tuple #[v, .int .i64 0, .nilIface]) ∧ Below w.heap.size w w' ∧ NsOwn w' w.heap.size v ms) (hk : ¬ 60 < ms.length) :
    Calls Tryz.prog 20 #[.string s] w fun e w' => ∃ a c, e = .returned (.tuple #[.slice a ms.length c, .int .i64 0, .nilIface]) ∧ Below w.heap.size w w' ∧ NsOwn w' w.heap.size (.slice a ms.length c) ms := by
  have h1 : ¬ (200 : Int) < (s.size : Int) := by omega
  have h2 : ¬ (60 : Int) < (ms.length : Int) := by omega
  have HC := hid h
  clear h
  go_enter Tryz.func20, Tryz.ntmps20
  go_wp2_with fail
  refine Calls.mono HC.out ?_
  rintro e w1 ⟨v, rfl, hb, hN⟩
  obtain ⟨a0, c0, rfl⟩ := owns_form hN
  have HN := hid hN
  clear hN
  go_wp2
  go_ret3
  exact ⟨_, _, rfl, hb, HN.out⟩
theorem parse_own (s : ByteArray) (w : World) (h : s.size ≤ 200) (t : Rx) (hW : Whole s.data.toList (.ok t)) (h60 : ¬ 60 < t.flat.length) :
    Calls Tryz.prog 20 #[.string s] w fun e w' => ∃ a c, e = .returned (.tuple #[.slice a t.flat.length c, .int .i64 0, .nilIface]) ∧ Below w.heap.size w w' ∧ NsOwn w' w.heap.size (.slice a t.flat.length c) t.flat := by
  obtain ⟨ss, ha, rfl⟩ := whole_ok hW
  exact parse_by s h _ w (read_own s h ss ha w) h60
end Go.Proofs.YtejbififfceamaaGreatDoor
namespace Go.Proofs.YtejbififfceamaaGreatDoor
set_option linter.unusedSimpArgs false
set_option linter.unusedVariables false
set_option maxRecDepth 100000
open Go.RowKit
/-- What the document asks of lit.Needed (X: what the library's tables hold). -/
structure LitN (X : World → Prop) : Prop where
  bad : ∀ ns v w, NsIn w v ns → (∀ n ∈ ns, n.wf) → ¬ faultL ns = 0 → Calls Tryz.prog 39 #[v] w fun e w' => e = .returned (.tuple #[.string ⟨#[]⟩, errV (faultL ns)]) ∧ Below w.heap.size w w'
  need : ∀ (t : Rx) v w, X w → t.Ok → NsIn w v t.flat → (∀ n ∈ t.flat, n.wf) → faultL t.flat = 0 → Calls Tryz.prog 39 #[v] w fun e w' => e = .returned (.tuple #[.string ⟨t.ned.toArray⟩, .nilIface]) ∧ Below w.heap.size w w'
end Go.Proofs.YtejbififfceamaaGreatDoor
namespace Go.Proofs.YtejbififfceamaaGreatDoor
set_option linter.unusedSimpArgs false
set_option linter.unusedVariables false
open Go.RowKit

theorem half_step (m i : Nat) : ((m / 2 ^ i : Nat) : Int) / 2 = ((m / 2 ^ (i + 1) : Nat) : Int) := by
  rw [Nat.pow_succ, ← Nat.div_div_eq_div_mul]
  omega
theorem tb_mod (m j : Nat) : (((m / 2 ^ j : Nat) : Int) % 2 == 1) = m.testBit j := by
  rw [tb_eq]
  generalize m / 2 ^ j = z
  by_cases h : z % 2 = 1
  · rw [h]
    have : (z : Int) % 2 = 1 := by omega
    rw [this]; rfl
  · have : ¬ (z : Int) % 2 = 1 := by omega
    simp only [h, decide_false]
    rw [beq_eq_false_iff_ne]
    exact this

theorem wrap_half (z : Nat) (h : z < 18446744073709551616) : Value.int IntKind.u64 (IntKind.u64.wrap ((z : Int) / 2)) = Value.int IntKind.u64 ((z / 2 : Nat) : Int) := by
  have e : (z : Int) / 2 = ((z / 2 : Nat) : Int) := by omega
  rw [e, u64_small _ (by omega)]
theorem wrap_twice (z : Nat) (h : z * 2 < 18446744073709551616) : Value.int IntKind.u64 (IntKind.u64.wrap ((z : Int) * 2)) = Value.int IntKind.u64 ((z * 2 : Nat) : Int) := by
  have e : (z : Int) * 2 = ((z * 2 : Nat) : Int) := by omega
  rw [e, u64_small _ h]
set_option maxHeartbeats 400000 in
theorem in_walk (k : C4) (x : Int) (h0 : 0 ≤ x) (hb : x < 256) (m : Nat) (hm : k.w (x / 64).toNat = (m : Int)) (hml : m < 18446744073709551616) (w : World) :
    Calls Tryz.prog 63 #[k.v, .int .i64 x] w fun e w' => e = .returned (.bool (m.testBit (x % 64).toNat)) ∧ Below w.heap.size w w' := by
  have hw := k.get (x / 64).toNat (by omega)
  rw [hm] at hw
  have HL := (show Hid _ from hml)
  clear hm hml
  go_enter Tryz.func63, Tryz.ntmps63
  go_wp2
  go_loop [5, 6] (fun n i => ∃ j z : Nat, (j : Int) ≤ x % 64 ∧ Hid (z = m / 2 ^ j) ∧ i = .int .i64 j ∧ n = .int .u64 (z : Int)) (fun _ i => (x % 64).toNat - (intOf i).toNat)
  case atStart => exact ⟨0, m, by omega, by show m = m / 2 ^ 0; simp, rfl, rfl⟩
  case round =>
    obtain ⟨j, z, hj, HZ, rfl, rfl⟩ := hrel
    by_cases hlt : (j : Int) < x % 64
    · go_wp2
      go_round
      case rel =>
        have hz : z < 18446744073709551616 := by rw [HZ.out]; exact Nat.lt_of_le_of_lt (Nat.div_le_self _ _) HL.out
        exact ⟨j + 1, z / 2, by omega, by show _ = _; rw [HZ.out, Nat.pow_succ, ← Nat.div_div_eq_div_mul], by go_num, wrap_half z hz⟩
      case measure => simp [intOf]; omega
    · have hj2 : (x % 64).toNat = j := by omega
      have HJ := (show Hid _ from hj2)
      clear hj2
      go_wp2
      go_ret
      refine ⟨?_, (Below.refl _ _).alloc (Nat.le_refl _) _⟩
      show Ending.returned (.bool ((z : Int) % 2 == 1)) = _
      rw [HJ.out, ← tb_mod, ← HZ.out]
theorem in_any (k : C4) (hk : k.ok) (b : Nat) (hb : b < 256) (w : World) :
    Calls Tryz.prog 63 #[k.v, .int .i64 b] w fun e w' => e = .returned (.bool (k.has b)) ∧ Below w.heap.size w w' := by
  obtain ⟨m, hm, hl⟩ := okW_nat (C4.ok_w hk (b / 64))
  have e1 : ((b : Int) / 64).toNat = b / 64 := by omega
  have e2 : ((b : Int) % 64).toNat = b % 64 := by omega
  have h := in_walk k b (by omega) (by omega) m (by rw [e1]; exact hm) hl w
  rw [e2] at h
  have e3 : k.has b = m.testBit (b % 64) := by unfold C4.has; rw [hm, Int.toNat_natCast]
  rw [e3]
  exact h

/-! With: a byte more -/
theorem add_is_or (x j : Nat) (h : x.testBit j = false) : x + 2 ^ j = x ||| 2 ^ j := by
  have hb : x / 2 ^ j % 2 = 0 := by
    rw [tb_eq] at h
    have := of_decide_eq_false h
    omega
  have hp : 0 < 2 ^ j := Nat.two_pow_pos j
  have e1 : x = 2 ^ (j + 1) * (x / 2 ^ j / 2) + x % 2 ^ j := by
    have a1 := Nat.div_add_mod x (2 ^ j)
    have a2 : x / 2 ^ j = 2 * (x / 2 ^ j / 2) := by omega
    rw [Nat.pow_succ, Nat.mul_assoc]
    rw [a2] at a1
    omega
  have hlo : x % 2 ^ j < 2 ^ j := Nat.mod_lt _ hp
  generalize x % 2 ^ j = lo at *
  generalize x / 2 ^ j / 2 = A at *
  have j1 : 2 ^ (j + 1) * A ||| lo = 2 ^ (j + 1) * A + lo := nat_join j _ _ (by rw [Nat.pow_succ, Nat.mul_assoc, Nat.mul_mod_right]) hlo
  have j2 : 2 ^ (j + 1) * A ||| 2 ^ j = 2 ^ (j + 1) * A + 2 ^ j := nat_join (j + 1) _ _ (by rw [Nat.mul_mod_right]) (by rw [Nat.pow_succ]; omega)
  have j3 : (2 ^ (j + 1) * A + 2 ^ j) ||| lo = 2 ^ (j + 1) * A + 2 ^ j + lo := nat_join j _ _ (by rw [Nat.pow_succ, Nat.mul_assoc, ← Nat.mul_succ, Nat.mul_mod_right]) hlo
  rw [e1]
  rw [← j1, Nat.or_assoc, Nat.or_comm lo, ← Nat.or_assoc, j2, j3, j1]
  omega
theorem C4.put_add {k : C4} (hk : k.ok) (b : Nat) (hb : b < 256) (h : k.has b = false) : k.put ((b : Int) / 64).toNat (IntKind.u64.wrap (k.w ((b : Int) / 64).toNat + ((2 ^ ((b : Int) % 64).toNat : Nat) : Int))) = k.add (b : Int) := by
  have e1 : ((b : Int) / 64).toNat = b / 64 := by omega
  have e2 : ((b : Int) % 64).toNat = b % 64 := by omega
  unfold C4.add
  rw [e1, e2]
  obtain ⟨m, hm, hl⟩ := okW_nat (C4.ok_w hk (b / 64))
  have e3 : m.testBit (b % 64) = false := by
    unfold C4.has at h
    rwa [hm, Int.toNat_natCast] at h
  rw [hm]
  congr 1
  have h2 : 2 ^ (b % 64) < 2 ^ 64 := Nat.pow_lt_pow_right (by decide) (by omega)
  have ew : IntKind.u64.wrap (2 ^ (b % 64)) = ((2 ^ (b % 64) : Nat) : Int) := by
    have := u64_small (2 ^ (b % 64)) h2
    rw [Int.natCast_pow] at this
    rw [Int.natCast_pow]
    exact this
  have ho : m ||| 2 ^ (b % 64) < 2 ^ 64 := Nat.or_lt_two_pow hl h2
  rw [ew, u64_or_nat m _ hl h2, ← Int.natCast_add, add_is_or m _ e3]
  exact u64_small _ ho
theorem C4.add_same {k : C4} (hk : k.ok) (b : Nat) (hb : b < 256) (h : k.has b = true) : k.add (b : Int) = k := by
  apply C4.ext_has (C4.add_ok hk b) hk
  intro i hi
  rw [C4.has_add hk b i hb hi]
  by_cases e : b = i
  · subst e; rw [h]; rfl
  · simp [e]
end Go.Proofs.YtejbififfceamaaGreatDoor
namespace Go.Proofs.YtejbififfceamaaGreatDoor
set_option linter.unusedSimpArgs false
set_option linter.unusedVariables false
open Go.RowKit

set_option maxHeartbeats 1000000 in
theorem count_any (k : C4) (hk : k.ok) (w : World) :
    Calls Tryz.prog 62 #[k.v] w fun e w' => e = .returned (.int .i64 (cnt k.has 256)) ∧ Below w.heap.size w w' := by
  go_enter Tryz.func62, Tryz.ntmps62
  go_wp2
  go_loopw [3, 4] (fun u v wr => ∃ i c : Nat, i ≤ 256 ∧ c ≤ i ∧ Hid (c = cnt k.has i) ∧ v = .int .i64 i ∧ u = .int .i64 c ∧ Below w.heap.size w wr ∧ Hb wr w.heap.size k) (fun _ v _ => 256 - (intOf v).toNat)
  case atStart => exact ⟨0, 0, by omega, by omega, Eq.refl _, rfl, rfl, (Below.refl _ _).alloc (Nat.le_refl _) _, Hb.new _ k _ rfl⟩
  case round =>
    obtain ⟨i, c, hi, hc, HC, rfl, rfl, hB, hK⟩ := hrel
    obtain ⟨c0, c1, c2, c3, e0, e1, e2, e3⟩ := hK.all
    by_cases hlt : i < 256
    · have i1 : (i : Int) < 256 := by omega
      go_wp2_with fail
      refine (in_any k hk i hlt _).mono ?_
      rintro e w1 ⟨rfl, hb1⟩
      have hB1 := hB.trans (hb1.mono hB.size)
      have hK1 := hK.below hb1 hK.lt
      cases hn : k.has i
      · have HE : Hid (c = cnt k.has (i + 1)) := by show _ = _; rw [cnt, hn, HC.out]; rfl
        go_wp2
        exact ⟨⟨i + 1, c, by omega, by omega, HE, by go_num, by go_num, hB1, hK1⟩, by simp [intOf]; omega⟩
      · have HE : Hid (c + 1 = cnt k.has (i + 1)) := by show _ = _; rw [cnt, hn, HC.out]; rfl
        go_wp2
        exact ⟨⟨i + 1, c + 1, by omega, by omega, HE, by go_num, by go_num, hB1, hK1⟩, by simp [intOf]; omega⟩
    · have hi2 : i = 256 := by omega
      subst hi2
      go_wp2
      go_ret
      exact ⟨ret_int (by rw [HC.out]), hB⟩
end Go.Proofs.YtejbififfceamaaGreatDoor
namespace Go.Proofs.YtejbififfceamaaGreatDoor
set_option linter.unusedSimpArgs false
set_option linter.unusedVariables false
set_option maxRecDepth 100000
open Go.RowKit

set_option maxHeartbeats 400000 in
theorem parts_any (op : Int) (w : World) :
    Calls Tryz.prog 64 #[.int .i64 op] w fun e w' => e = .returned (.int .i64 (prt op)) ∧ w' = w := by
  by_cases h3 : op = 3
  · subst h3
    go_enter Tryz.func64, Tryz.ntmps64
    go_wp2
    go_ret
    exact ⟨rfl, rfl⟩
  · have b3 : (op == 3) = false := by simp [h3]
    by_cases h4 : op = 4
    · subst h4
      go_enter Tryz.func64, Tryz.ntmps64
      go_wp2
      go_ret
      exact ⟨rfl, rfl⟩
    · have b4 : (op == 4) = false := by simp [h4]
      by_cases h5 : op = 5
      · subst h5
        go_enter Tryz.func64, Tryz.ntmps64
        go_wp2
        go_ret
        exact ⟨rfl, rfl⟩
      · have b5 : (op == 5) = false := by simp [h5]
        by_cases h6 : op = 6
        · subst h6
          go_enter Tryz.func64, Tryz.ntmps64
          go_wp2
          go_ret
          exact ⟨rfl, rfl⟩
        · have b6 : (op == 6) = false := by simp [h6]
          by_cases h7 : op = 7
          · subst h7
            go_enter Tryz.func64, Tryz.ntmps64
            go_wp2
            go_ret
            exact ⟨rfl, rfl⟩
          · have b7 : (op == 7) = false := by simp [h7]
            have e0 : prt op = 0 := by unfold prt; simp [h3, h4, h5, h6, h7]
            rw [e0]
            clear h3 h4 h5 h6 h7 e0
            go_enter Tryz.func64, Tryz.ntmps64
            go_wp2
            go_ret
            exact ⟨rfl, rfl⟩
set_option maxHeartbeats 1000000 in
theorem endOf_walk (ns : List Nd) (b off cap f i : Nat) (hm : ns.length ≤ maxLen) (w : World) (hN : NsAt w b off ns)
    (ih : ∀ j, ns.length + 1 ≤ f + j → Calls Tryz.prog 42 #[.slice (some ⟨b, off, none⟩) ns.length cap, .int .i64 j] w fun e w' => e = .returned (.int .i64 (endI (endF ns f j))) ∧ w' = w)
    (hf : ns.length + 1 ≤ f + 1 + i) :
    Calls Tryz.prog 42 #[.slice (some ⟨b, off, none⟩) ns.length cap, .int .i64 i] w fun e w' => e = .returned (.int .i64 (endI (endF ns (f + 1) i))) ∧ w' = w := by
  have IH := (show Hid _ from ih)
  unfold maxLen at hm
  clear ih
  by_cases hi : i < ns.length
  · obtain ⟨n, hn⟩ : ∃ n, ns[i]? = some n := ⟨ns[i], List.getElem?_eq_getElem hi⟩
    obtain ⟨c0, _⟩ := hN i n hn
    have HF : Hid _ := endF_fin ns f i n hn
    have hp := prt_le n.op
    have i0 : (0 : Int) ≤ (i : Int) := by omega
    have i1 : (i : Int) < (ns.length : Int) := by omega
    have hd : decide (ns.length ≤ i) = false := by simp; omega
    clear hn
    go_enter Tryz.func42, Tryz.ntmps42
    go_wp2_with fail
    refine (parts_any _ _).mono ?_
    rintro e w1 ⟨rfl, rfl⟩
    generalize hpr : prt n.op = pr at *
    clear hpr
    go_wp2_with fail
    go_loop [1, 5] (fun v u => ∃ (m : Nat) (o : Option Nat), m ≤ 2 ∧ u = .int .i64 m ∧ v = .int .i64 (endI o) ∧ Hid (fin ns f m o = endF ns (f + 1) i) ∧ Hid (∀ j, o = some j → i < j ∧ j ≤ ns.length)) (fun _ u => (intOf u).toNat)
    case atStart => exact ⟨pr, some (i + 1), by omega, rfl, by go_num, HF.out.symm, fun j hj => by simp at hj; omega⟩
    case round =>
      obtain ⟨m, o, hm2, rfl, rfl, HX, HJ⟩ := hrel
      cases m with
      | zero =>
        go_wp2
        go_ret
        exact ⟨by rw [← HX.out]; rfl, rfl⟩
      | succ m =>
        have m0 : (0 : Int) < ((m + 1 : Nat) : Int) := by omega
        cases o with
        | none =>
          simp only [endI]
          go_wp2
          go_ret
          exact ⟨by rw [← HX.out, fin_none]; rfl, rfl⟩
        | some j =>
          have hj := HJ.out j rfl
          simp only [endI]
          go_wp2_with fail
          refine (IH.out j (by omega)).mono ?_
          rintro e w1 ⟨rfl, rfl⟩
          go_wp2
          refine ⟨⟨m, endF ns f j, by omega, by go_num, rfl, ?_, ?_⟩, by simp [intOf]⟩
          · rw [← HX.out]; exact (Eq.refl (fin ns f m (endF ns f j)))
          · intro k hk
            have := endF_gt ns f j k hk
            omega
  · have hd : decide (ns.length ≤ i) = true := by simp; omega
    have HF : Hid (endF ns (f + 1) i = none) := by
      show _ = _
      rw [endF, List.getElem?_eq_none (by omega)]
    go_enter Tryz.func42, Tryz.ntmps42
    go_wp2
    go_ret
    exact ⟨by rw [HF.out]; rfl, rfl⟩
set_option maxHeartbeats 1000000 in
theorem endOf_out (ns : List Nd) (a : Option Addr) (cap i : Nat) (hm : ns.length ≤ maxLen) (w : World) (hi : ns.length ≤ i) :
    Calls Tryz.prog 42 #[.slice a ns.length cap, .int .i64 i] w fun e w' => e = .returned (.int .i64 (-1)) ∧ w' = w := by
  unfold maxLen at hm
  have hd : decide (ns.length ≤ i) = true := by simp; omega
  go_enter Tryz.func42, Tryz.ntmps42
  go_wp2
  go_ret
  exact ⟨rfl, rfl⟩
theorem endOf_at (ns : List Nd) (b off cap : Nat) (hm : ns.length ≤ maxLen) (w : World) (hN : NsAt w b off ns) : ∀ (f i : Nat), ns.length + 1 ≤ f + i →
    Calls Tryz.prog 42 #[.slice (some ⟨b, off, none⟩) ns.length cap, .int .i64 i] w fun e w' => e = .returned (.int .i64 (endI (endF ns f i))) ∧ w' = w := by
  intro f
  induction f with
  | zero =>
    intro i h
    exact endOf_out ns _ cap i hm w (by omega)
  | succ f ih =>
    intro i h
    exact endOf_walk ns b off cap f i hm w hN ih (by omega)
theorem endOf_any (ns : List Nd) (v : Value) (i : Nat) (w : World) (hN : NsIn w v ns) :
    Calls Tryz.prog 42 #[v, .int .i64 i] w fun e w' => e = .returned (.int .i64 (endI (endE ns i))) ∧ w' = w := by
  obtain ⟨a, cap, rfl, hm, h | ⟨b, off, rfl, hlt, hn⟩⟩ := hN
  · subst h
    rw [endE_nil]
    exact endOf_out [] a cap i hm w (by simp)
  · exact endOf_at ns b off cap hm w hn (ns.length + 1) i (by omega)
end Go.Proofs.YtejbififfceamaaGreatDoor
