/- The landed package syn: read. -/
import Derived.Test.YtmdfdlljeggbbaaRc1
set_option linter.unusedSimpArgs false
set_option linter.unusedVariables false
set_option maxRecDepth 100000
namespace Go.Proofs.Ytmdfdlljeggbbaa
open Go.RowKit
/-- A reader at its beginning. -/
theorem PAt.start (w : World) (s : ByteArray) (hs : s.size ≤ 200) : PAt (w.alloc (.cells #[.string s, .int .i64 0, .slice none 0 0, .bool false] 71)) w.heap.size s s.data.toList [] := by
  refine ⟨0, .slice none 0 0, ⟨heap_alloc_new w _, by simp, ?_, hs⟩, World.ownsRow_nil _ _ _ _⟩
  rw [str_len]
  omega
/-- The three results' variables. -/
def three (w : World) : World := ((w.alloc (.cells #[.slice none 0 0] 31)).alloc (.cells #[.int .i64 0] 3)).alloc (.cells #[.nilIface] 33)
theorem three_size (w : World) : (three w).heap.size = w.heap.size + 1 + 1 + 1 := by simp [three]
theorem three_below (w : World) : Below w.heap.size w (three w) := (((Below.refl _ _).alloc (Nat.le_refl _) _).alloc (by simp) _).alloc (by simp; omega) _
/-- The results' variables are there. -/
structure Vars (h : Nat) (W : World) (v0 v1 v2 : Value) : Prop where
  b0 : W.heap[h]? = some (.cells #[v0] 31 (0, 0))
  b1 : W.heap[h + 1]? = some (.cells #[v1] 3 (0, 0))
  b2 : W.heap[h + 1 + 1]? = some (.cells #[v2] 33 (0, 0))
theorem Vars.three (w : World) : Vars w.heap.size (three w) (.slice none 0 0) (.int .i64 0) .nilIface := by
  refine ⟨?_, ?_, ?_⟩
  · refine (Below.heap_alloc _ _ _ (by simp; omega)).trans ((Below.heap_alloc _ _ _ (by simp)).trans (heap_alloc_new w _))
  · refine (Below.heap_alloc _ _ _ (by simp)).trans ?_
    have h := heap_alloc_new (w.alloc (.cells #[.slice none 0 0] 31)) (.cells #[.int .i64 0] 3)
    rw [show (w.alloc (.cells #[.slice none 0 0] 31)).heap.size = w.heap.size + 1 from by simp] at h
    exact h
  · have h := heap_alloc_new ((w.alloc (.cells #[.slice none 0 0] 31)).alloc (.cells #[.int .i64 0] 3)) (.cells #[.nilIface] 33)
    rw [show ((w.alloc (.cells #[.slice none 0 0] 31)).alloc (.cells #[.int .i64 0] 3)).heap.size = w.heap.size + 1 + 1 from by simp] at h
    exact h
theorem Vars.below {h B : Nat} {W W' : World} {v0 v1 v2 : Value} (x : Vars h W v0 v1 v2) (hb : Below B W W') (hB : h + 1 + 1 < B) : Vars h W' v0 v1 v2 :=
  ⟨(hb.block _ (by omega)).trans x.b0, (hb.block _ (by omega)).trans x.b1, (hb.block _ (by omega)).trans x.b2⟩
theorem Vars.cells {h : Nat} {W : World} {v0 v1 v2 : Value} (x : Vars h W v0 v1 v2) : W.cell? ⟨h, 0, none⟩ = some v0 ∧ W.cell? ⟨h + 1, 0, none⟩ = some v1 ∧ W.cell? ⟨h + 1 + 1, 0, none⟩ = some v2 ∧ W.frozen? ⟨h, 0, none⟩ = false ∧ W.frozen? ⟨h + 1, 0, none⟩ = false ∧ W.frozen? ⟨h + 1 + 1, 0, none⟩ = false := by
  refine ⟨?_, ?_, ?_, Lib.frozen_of_heap x.b0 0, Lib.frozen_of_heap x.b1 0, Lib.frozen_of_heap x.b2 0⟩
  · rw [Lib.cell_of_heap x.b0]; rfl
  · rw [Lib.cell_of_heap x.b1]; rfl
  · rw [Lib.cell_of_heap x.b2]; rfl
/-- What is deferred in read. -/
def dcatch (h : Nat) : Deferred := { target := .fn (.func 34) #[.pointer (some ⟨h, 0, none⟩), .pointer (some ⟨h + 1, 0, none⟩), .pointer (some ⟨h + 1 + 1, 0, none⟩)], args := #[] }
/-- A misfit is caught. -/
theorem door_mis (tmps : Array Value) (R : Ending → World → Prop) (h : Nat) (z : Int) (W w : World) (x : Vars h W (.slice none 0 0) (.int .i64 0) .nilIface) (hw : Below h w W)
    (ht2 : tmps[2]? = some (.pointer (some ⟨h, 0, none⟩))) (ht3 : tmps[3]? = some (.pointer (some ⟨h + 1, 0, none⟩))) (ht4 : tmps[4]? = some (.pointer (some ⟨h + 1 + 1, 0, none⟩)))
    (hR : ∀ W', Below h w W' → R (.returned (.tuple #[.slice none 0 0, .int .i64 z, .iface 52 (.int .i64 5)])) W') :
    Leaves Try.prog Try.f26 tmps R [dcatch h] (.panicking (mis z)) W := by
  obtain ⟨c0, c1, c2, f0, f1, f2⟩ := x.cells
  refine leaves_cons (f := 34) (args := #[.pointer (some ⟨h, 0, none⟩), .pointer (some ⟨h + 1, 0, none⟩), .pointer (some ⟨h + 1 + 1, 0, none⟩)]) (by simp) (by simp [go_sem]) ?_
  refine (catch_mis h (h + 1) (h + 1 + 1) z _ _ _ W c0 c1 c2 f0 f1 f2 (by omega) (by omega) (by omega)).mono ?_
  rintro e u' w'' ⟨rfl, rfl, rfl⟩
  have hb : Below h w ((((W.setCell ⟨h, 0, none⟩ (.slice none 0 0)).setCell ⟨h + 1, 0, none⟩ (.int .i64 z)).setCell ⟨h + 1 + 1, 0, none⟩ (.iface 52 (.int .i64 5))).alloc (.cells #[.int .i64 z] 68)).drew := ((((hw.setCell (Nat.le_refl _) _).setCell (by simp) _).setCell (by simp; omega) _).alloc (by
      have := block_lt_of_cell c0
      simp at this ⊢
      omega) _).drew
  have hlt : h + 1 + 1 < W.heap.size := by
    have := block_lt_of_cell c2
    simpa using this
  have s1 : (W.setCell ⟨h, 0, none⟩ (.slice none 0 0)).heap[h]? = some (.cells #[.slice none 0 0] 31 (0, 0)) := by simp [World.setCell, Array.getElem?_modify, x.b0]
  have s2 : ((W.setCell ⟨h, 0, none⟩ (.slice none 0 0)).setCell ⟨h + 1, 0, none⟩ (.int .i64 z)).heap[h + 1]? = some (.cells #[.int .i64 z] 3 (0, 0)) := by
    have h1 : (W.setCell ⟨h, 0, none⟩ (.slice none 0 0)).heap[h + 1]? = some (.cells #[.int .i64 0] 3 (0, 0)) := (Below.heap_setCell W _ _ (h + 1) (by simp)).trans x.b1
    generalize W.setCell ⟨h, 0, none⟩ (.slice none 0 0) = W1 at h1 ⊢
    simp [World.setCell, Array.getElem?_modify, h1]
  have s3 : (((W.setCell ⟨h, 0, none⟩ (.slice none 0 0)).setCell ⟨h + 1, 0, none⟩ (.int .i64 z)).setCell ⟨h + 1 + 1, 0, none⟩ (.iface 52 (.int .i64 5))).heap[h + 1 + 1]? = some (.cells #[.iface 52 (.int .i64 5)] 33 (0, 0)) := by
    have h1 : ((W.setCell ⟨h, 0, none⟩ (.slice none 0 0)).setCell ⟨h + 1, 0, none⟩ (.int .i64 z)).heap[h + 1 + 1]? = some (.cells #[.nilIface] 33 (0, 0)) := (Below.heap_setCell _ _ _ (h + 1 + 1) (by simp)).trans ((Below.heap_setCell W _ _ (h + 1 + 1) (by simp; omega)).trans x.b2)
    generalize (W.setCell ⟨h, 0, none⟩ (.slice none 0 0)).setCell ⟨h + 1, 0, none⟩ (.int .i64 z) = W1 at h1 ⊢
    simp [World.setCell, Array.getElem?_modify, h1]
  have s2' := (Below.heap_setCell _ ⟨h + 1 + 1, 0, none⟩ (.iface 52 (.int .i64 5)) (h + 1) (by simp)).trans s2
  have s1' := (Below.heap_setCell _ ⟨h + 1 + 1, 0, none⟩ (.iface 52 (.int .i64 5)) h (by simp; omega)).trans ((Below.heap_setCell _ ⟨h + 1, 0, none⟩ (.int .i64 z) h (by simp)).trans s1)
  generalize ((W.setCell ⟨h, 0, none⟩ (.slice none 0 0)).setCell ⟨h + 1, 0, none⟩ (.int .i64 z)).setCell ⟨h + 1 + 1, 0, none⟩ (.iface 52 (.int .i64 5)) = W3 at *
  have lt : ∀ k o, W3.heap[k]? = some o → k < W3.heap.size := fun k o hk => by
    rcases Nat.lt_or_ge k W3.heap.size with h' | h'
    · exact h'
    · rw [Array.getElem?_eq_none h'] at hk; cases hk
  have y : Vars h (W3.alloc (.cells #[.int .i64 z] 68)).drew (.slice none 0 0) (.int .i64 z) (.iface 52 (.int .i64 5)) :=
    ⟨(Below.heap_alloc W3 _ h (lt _ _ s1')).trans s1', (Below.heap_alloc W3 _ (h + 1) (lt _ _ s2')).trans s2', (Below.heap_alloc W3 _ (h + 1 + 1) (lt _ _ s3)).trans s3⟩
  obtain ⟨e0, e1, e2, _, _, _⟩ := y.cells
  refine ⟨_, ?_, hR _ hb⟩
  simp [results, Try.results26, go_sem, ht2, ht3, ht4, e0, e1, e2]
/-- Nothing is to be caught. -/
theorem door_idle (tmps : Array Value) (R : Ending → World → Prop) (h : Nat) (v0 v1 v2 : Value) (W : World) (x : Vars h W v0 v1 v2)
    (ht2 : tmps[2]? = some (.pointer (some ⟨h, 0, none⟩))) (ht3 : tmps[3]? = some (.pointer (some ⟨h + 1, 0, none⟩))) (ht4 : tmps[4]? = some (.pointer (some ⟨h + 1 + 1, 0, none⟩)))
    (hR : R (.returned (.tuple #[v0, v1, v2])) W) :
    Leaves Try.prog Try.f26 tmps R [dcatch h] .returning W := by
  refine leaves_cons (f := 34) (args := #[.pointer (some ⟨h, 0, none⟩), .pointer (some ⟨h + 1, 0, none⟩), .pointer (some ⟨h + 1 + 1, 0, none⟩)]) (by simp) (by simp [go_sem]) ?_
  refine (catch_idle _ _ _ W).mono ?_
  rintro e u' w'' ⟨rfl, rfl, rfl⟩
  obtain ⟨e0, e1, e2, _, _, _⟩ := x.cells
  refine ⟨_, ?_, hR⟩
  simp [results, Try.results26, go_sem, ht2, ht3, ht4, e0, e1, e2]
set_option maxHeartbeats 1000000 in
theorem read_bad1 (s : ByteArray) (hs : s.size ≤ 200) (k : Nat) (h : Alt s.data.toList (.error k)) (w : World) :
    Calls Try.prog 26 #[.string s] w fun e w' => e = .returned (.tuple #[.slice none 0 0, .int .i64 ((s.size : Int) - (k : Int)), .iface 52 (.int .i64 5)]) ∧ Below w.heap.size w w' := by
  have hmf : ∀ (fn : Fn) (first cap : Array Value) (w : World), (Instr.makeFunc fn first cap).run Try.prog w = .ok (.func fn first cap) w := fun _ _ _ _ => rfl
  have hf := (read_all s.data.toList.length).2.2 s.data.toList (Nat.le_refl _) _ h (three w).heap.size s [] _ (by have := str_len s; simp at this ⊢; omega) (PAt.start (three w) s hs)
  rw [three_size] at hf
  have HF := hid hf
  clear h hf
  go_enter_defers Try.func26, Try.ntmps26
  go_wp2_with fail
  refine Calls.mono HF.out ?_
  rintro e w2 ⟨rfl, hst, hb2⟩
  have hb3 := ((Below.refl (w.heap.size + 1 + 1 + 1) (three w)).alloc (by rw [three_size]; exact Nat.le_refl _) (.cells #[.string s, .int .i64 0, .slice none 0 0, .bool false] 71)).trans hb2
  refine door_mis _ _ w.heap.size _ _ w ((Vars.three w).below hb3 (by omega)) ((three_below w).trans (hb3.mono (by omega))) rfl rfl rfl ?_
  intro W' hW'
  exact ⟨rfl, hW'⟩
end Go.Proofs.Ytmdfdlljeggbbaa
