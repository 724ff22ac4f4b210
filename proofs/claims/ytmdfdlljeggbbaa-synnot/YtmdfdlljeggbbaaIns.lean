/- slices.Insert, of one node. -/
import Derived.Test.YtmdfdlljeggbbaaRa1
import Derived.Test.YtmdfdlljeggbbaaCpy
import Derived.Lib.Overlaps
import Derived.Lib.AppendZerosOnto
import Derived.Laws.Externs
import Derived.Shelf.Spec.SlicesInsertGrow
set_option linter.unusedSimpArgs false
set_option linter.unusedVariables false
set_option maxRecDepth 100000
namespace Go.Proofs.Ytmdfdlljeggbbaa
open Go.RowKit
theorem shape_of_heap {w : World} {b : Nat} {cur : Array Value} {T : TypeId} {fz : Nat × Nat} (h : w.heap[b]? = some (.cells cur T fz)) : w.shape? b = some (T, cur.size) := by simp [World.shape?, h]
theorem info_node : ∃ i0, Try.prog.info? 37 = some i0 ∧ i0.zero = some (.agg #[.int .i64 0, .int .u64 0, .int .u64 0, .int .u64 0, .int .u64 0]) ∧ i0.size = 5 ∧ i0.bytes = 40 := by
  have hinfo : (Try.prog.info? 37).map (fun i => (i.zero, i.size, i.bytes)) = some (some (.agg #[.int .i64 0, .int .u64 0, .int .u64 0, .int .u64 0, .int .u64 0]), 5, 40) := by kernel_rfl
  obtain ⟨i0, hi, hz0, hz1, hz2⟩ := info_parts hinfo
  exact ⟨i0, hi, hz0, hz1, hz2⟩
set_option maxHeartbeats 4000000 in
theorem insert_room (b n c i vb : Nat) (cur : Array Value) (T : TypeId) (xo : Array Value) (ds xs : List Value) (w : World) (hi : i < n) (hroom : n + 1 ≤ c) (hc63 : c ≤ 9223372036854775807) (hvb : vb ≠ b)
    (hb : w.heap[b]? = some (.cells cur 37 (0, 0))) (hcur : cur.size = c * 5) (hv : w.heap[vb]? = some (.cells xo T (0, 0)))
    (hds : ds.length = (n - i) * 5) (hxs : xs.length = 1 * 5) (hd1 : ∀ u ∈ ds, u.oneCell' = true) (hx1 : ∀ u ∈ xs, u.oneCell' = true)
    (hdc : ∀ j u, ds[j]? = some u → w.cell? ⟨b, i * 5 + j, none⟩ = some u) (hxc : ∀ j u, xs[j]? = some u → w.cell? ⟨vb, j, none⟩ = some u) :
    Calls Try.prog 51 #[.slice (some ⟨b, 0, none⟩) n c, .int .i64 i, .slice (some ⟨vb, 0, none⟩) 1 1] w fun e w' => e = .returned (.slice (some ⟨b, 0, none⟩) (n + 1) c) ∧ w' = (w.drew.setCells b ((i + 1) * 5) ds).setCells b (i * 5) xs := by
  have hz2 : ¬ ((i : Int) = (n : Int)) := by omega
  have hw0 : IntKind.i64.wrap ((n : Int) + 1) = (n : Int) + 1 := by rw [IntKind.wrap_i64]; omega
  have hw1 : IntKind.i64.wrap ((i : Int) + 1) = (i : Int) + 1 := by rw [IntKind.wrap_i64]; omega
  have hb1 : (0 : Int) ≤ (i : Int) + 1 := by omega
  have hin : i ≤ n := by omega
  have hin2 : (i : Int) ≤ (n : Int) := by omega
  have hn3 : ¬ ((c : Int) < (n : Int) + 1) := by omega
  have htn : ((i : Int) + 1).toNat = i + 1 := by omega
  have htn2 : ((n : Int) + 1).toNat = n + 1 := by omega
  have hb2 : ¬ (c = i + 1) := by omega
  have hb3 : (i : Int) ≤ (n : Int) + 1 := by omega
  have hb4 : ¬ (c = i) := by omega
  have hov : ∀ lb cb, (callFunc 55 #[.slice (some ⟨vb, 0, none⟩) 1 1, .slice (some ⟨b, (i + 1) * 5, none⟩) lb cb]).run Try.prog w = .ok (.value (.bool false)) w := fun lb cb => by
    rw [run_callFunc_extern Try.func55 (by kernel_rfl) (by kernel_rfl) (by kernel_rfl) (e := Extern.SlicesOverlaps.overlaps #[31, 31] #[4]) (by kernel_rfl),
      Lib.run_overlaps_apart w 31 4 37 Try.underlying31 5 (fun w => by exact Try.sizeOf37 w) ⟨vb, 0, none⟩ ⟨b, (i + 1) * 5, none⟩ 1 1 lb cb hvb T 37 xo.size cur.size (shape_of_heap hv) (shape_of_heap hb) (by omega) (Lib.frozen_of_heap hv _) (Lib.frozen_of_heap hv _)]
    rfl
  obtain ⟨i0, hi0, hz0, hzs, hzb⟩ := info_node
  have hcell : ∀ j, j < c * 5 → (w.cell? ⟨b, j, none⟩).isSome = true := fun j hj => by
    rw [Lib.cell_of_heap hb, Array.getElem?_eq_getElem (by omega)]; rfl
  have hcp1 : ∀ ty dc sc, (Builtin.copy_ #[31, 31] ty #[.slice (some ⟨b, (i + 1) * 5, none⟩) (n - i) dc, .slice (some ⟨b, i * 5, none⟩) (n + 1 - i) sc]).run Try.prog w.drew = .ok (goInt ((n - i : Nat) : Int)) (w.drew.setCells b ((i + 1) * 5) ds) := fun ty dc sc =>
    run_copy_wide w.drew _ _ ty 37 i0 b ((i + 1) * 5) (n - i) dc ⟨b, i * 5, none⟩ (n + 1 - i) sc (n - i) 5 ds Try.underlying31 hi0 hzs (by simp only [Nat.min_def]; split <;> omega) hds
      (fun j u hj => by rw [Addr.add_lit]; exact hdc j u hj)
      (fun j hj => hcell _ (by omega)) (fun j hj => Lib.frozen_of_heap hb _) hd1
  obtain ⟨W1, hW1⟩ : ∃ W1, W1 = w.drew.setCells b ((i + 1) * 5) ds := ⟨_, rfl⟩
  have hbW : W1.heap[b]? = some (.cells (over cur ((i + 1) * 5) ds) 37 (0, 0)) := by rw [hW1]; exact heap_over b _ _ ds _ cur w.drew hb
  have hcp2 : ∀ ty dc, (Builtin.copy_ #[31, 31] ty #[.slice (some ⟨b, i * 5, none⟩) (n + 1 - i) dc, .slice (some ⟨vb, 0, none⟩) 1 1]).run Try.prog W1 = .ok (goInt ((1 : Nat) : Int)) (W1.setCells b (i * 5) xs) := fun ty dc =>
    run_copy_wide W1 _ _ ty 37 i0 b (i * 5) (n + 1 - i) dc ⟨vb, 0, none⟩ 1 1 1 5 xs Try.underlying31 hi0 hzs (by simp only [Nat.min_def]; split <;> omega) hxs
      (fun j u hj => by
        rw [Addr.add_lit, hW1, World.cell?_setCells_out b _ _ _ _ (fun h _ => absurd h hvb), Nat.zero_add]
        exact hxc j u hj)
      (fun j hj => by rw [Lib.cell_of_heap hbW, Array.getElem?_eq_getElem (by rw [over_size]; omega)]; rfl) (fun j hj => Lib.frozen_of_heap hbW _) hx1
  rw [← hW1] at hcp1 ⊢
  clear hW1
  go_enter Try.func51, Try.ntmps51
  have mixed : Try.prog.follows .mixedOrders = true := by kernel_rfl
  go_wp2_with (simp only [hov])
  go_region_law_o (refine step_copy_runI rfl _ _ 31 31 rfl _ _ (by simp [Act.eval, Act.put]) (by simp [Act.eval, Act.put]) (hcp1 _ _ _) ?_)
  go_wp2_with (at_builtin; refine wpList_copy_runI _ rfl _ _ 31 31 rfl _ _ rfl rfl (hcp2 _ _) ?_)
  go_ret
  exact ⟨rfl, rfl⟩
set_option maxHeartbeats 4000000 in
theorem insert_grow (b n c i vb : Nat) (os ds xs : List Value) (w : World) (hi : i < n) (hnc : n ≤ c) (hroom : c < n + 1) (hbig : (n + 1) * 40 ≤ 140737488355328)
    (hos : os.length = i * 5) (hds : ds.length = (n - i) * 5) (hxs : xs.length = 1 * 5) (hd1 : ∀ u ∈ ds, u.oneCell' = true) (hx1 : ∀ u ∈ xs, u.oneCell' = true)
    (hoc : ∀ j u, os[j]? = some u → w.cell? ⟨b, j, none⟩ = some u) (hdc : ∀ j u, ds[j]? = some u → w.cell? ⟨b, i * 5 + j, none⟩ = some u) (hxc : ∀ j u, xs[j]? = some u → w.cell? ⟨vb, j, none⟩ = some u) :
    Calls Try.prog 51 #[.slice (some ⟨b, 0, none⟩) n c, .int .i64 i, .slice (some ⟨vb, 0, none⟩) 1 1] w fun e w' => ∃ (G : Nat) (ROW : Array Value), n + 1 ≤ G ∧ G ≤ maxLen ∧ ROW.size = G * 5 ∧ ROW.toList.take (i * 5) = os ∧
      e = .returned (.slice (some ⟨w.heap.size, 0, none⟩) (n + 1) G) ∧ w' = (((w.alloc (.cells ROW 37)).drew.setCells w.heap.size (i * 5) xs).drew).setCells w.heap.size ((i + 1) * 5) ds := by
  have hz2 : ¬ ((i : Int) = (n : Int)) := by omega
  have hw0 : IntKind.i64.wrap ((n : Int) + 1) = (n : Int) + 1 := by rw [IntKind.wrap_i64]; omega
  have hw1 : IntKind.i64.wrap ((i : Int) + 1) = (i : Int) + 1 := by rw [IntKind.wrap_i64]; omega
  have hw2 : IntKind.i64.wrap ((n : Int) + 1 - (i : Int)) = (n : Int) + 1 - (i : Int) := by rw [IntKind.wrap_i64]; omega
  have hb1 : (0 : Int) ≤ (i : Int) + 1 := by omega
  have hin : i ≤ n := by omega
  have hin2 : (i : Int) ≤ (n : Int) := by omega
  have hn3 : ((c : Int) < (n : Int) + 1) := by omega
  have htn : ((i : Int) + 1).toNat = i + 1 := by omega
  have htn2 : ((n : Int) + 1).toNat = n + 1 := by omega
  have hb3 : (i : Int) ≤ (n : Int) + 1 := by omega
  have hci : ¬ (c = i) := by omega
  have mixed : Try.prog.follows .mixedOrders = true := by kernel_rfl
  obtain ⟨i0, hi0, hz0, hzs, hzb⟩ := info_node
  have hbw : b < w.heap.size := by
    cases ds with
    | nil => simp at hds; omega
    | cons u r => exact block_lt_of_cell (hdc 0 u rfl)
  have hvw : vb < w.heap.size := by
    cases xs with
    | nil => simp at hxs
    | cons u r => exact block_lt_of_cell (hxc 0 u rfl)
  have hkk : (n : Int) + 1 - (i : Int) = ((n + 1 - i : Nat) : Int) := by omega
  have hik : i + (n + 1 - i) = n + 1 := by omega
  have hold : (Builtin.firstCells i0.size i (.slice (some ⟨b, 0, none⟩) i c)).run Try.prog w.drew = .ok os.toArray w.drew := by
    rw [hzs]
    exact run_firstCells_some w.drew 5 i ⟨b, 0, none⟩ i c os hos (fun j u hj => by rw [Addr.add_lit, Nat.zero_add]; exact hoc j u hj)
  obtain ⟨G, hG⟩ : ∃ G, G = grownCap w (n + 1) c 37 := ⟨_, rfl⟩
  have hGn : n + 1 ≤ G := by rw [hG]; exact grownCap_ge w _ _ _
  have hGm : G ≤ maxLen := by rw [hG]; exact grownCap_le_maxLen w _ _ _ (by unfold maxLen; omega)
  have hrz : ∀ ty, ∃ ROW : Array Value, ROW.size = G * 5 ∧ ROW.toList.take (i * 5) = os ∧ (Builtin.append_ #[31, 3] ty #[.slice (some ⟨b, 0, none⟩) i c, .int .i64 ((n : Int) + 1 - (i : Int))]).run Try.prog w =
      .ok (.slice (some ⟨w.heap.size, 0, none⟩) (n + 1) G) (w.drew.alloc (.cells ROW 37)) := fun ty => by
    have h := Lib.run_append_grow_zeros w 31 3 ty 37 i0 _ .i64 .i64 Try.underlying31 Try.underlying3 hi0 hz0 (some ⟨b, 0, none⟩) i c os hold (n + 1 - i) (by omega) (by omega) (by omega) (by omega) (by rw [hzb]; omega) (by rw [hzb, hik]; exact growslice_fits hroom hbig)
    rw [hik, ← hG] at h
    rw [hkk]
    refine ⟨_, ?_, ?_, h⟩
    · simp [Builtin.zeroCells, Value.cells]
      omega
    · simp
      rw [← hos]
      simp
  obtain ⟨ROW, hRs, hRt, hrun⟩ := hrz 31
  clear hrz hold
  have hE : w.drew.alloc (.cells ROW 37) = (w.alloc (.cells ROW 37)).drew := rfl
  rw [hE] at hrun
  clear hE
  obtain ⟨N, hN⟩ : ∃ N, N = w.heap.size := ⟨_, rfl⟩
  have hbN : b ≠ N := by omega
  have hvN : vb ≠ N := by omega
  obtain ⟨WA, hWA⟩ : ∃ WA, WA = (w.alloc (.cells ROW 37)).drew := ⟨_, rfl⟩
  have hA : WA.heap[N]? = some (.cells ROW 37 (0, 0)) := by rw [hWA, hN]; exact heap_alloc_new w _
  have hOA : ∀ k j u, k < w.heap.size → w.cell? ⟨k, j, none⟩ = some u → WA.cell? ⟨k, j, none⟩ = some u := fun k j u hk h => by
    rw [hWA]
    show (w.alloc _).cell? _ = _
    rw [World.cell?_alloc_past (w := w) _ k j hk]; exact h
  have hcpA : ∀ ty dc, (Builtin.copy_ #[31, 31] ty #[.slice (some ⟨N, i * 5, none⟩) (n + 1 - i) dc, .slice (some ⟨vb, 0, none⟩) 1 1]).run Try.prog WA = .ok (goInt ((1 : Nat) : Int)) (WA.setCells N (i * 5) xs) := fun ty dc =>
    run_copy_wide WA _ _ ty 37 i0 N (i * 5) (n + 1 - i) dc ⟨vb, 0, none⟩ 1 1 1 5 xs Try.underlying31 hi0 hzs (by simp only [Nat.min_def]; split <;> omega) hxs
      (fun j u hj => by rw [Addr.add_lit, Nat.zero_add]; exact hOA vb j u hvw (hxc j u hj))
      (fun j hj => by rw [Lib.cell_of_heap hA, Array.getElem?_eq_getElem (by omega)]; rfl) (fun j hj => Lib.frozen_of_heap hA _) hx1
  obtain ⟨WB, hWB⟩ : ∃ WB, WB = (WA.setCells N (i * 5) xs).drew := ⟨_, rfl⟩
  have hB : WB.heap[N]? = some (.cells (over ROW (i * 5) xs) 37 (0, 0)) := by rw [hWB]; exact heap_over N _ _ xs _ ROW WA hA
  have hcpB : ∀ ty dc sc, (Builtin.copy_ #[31, 31] ty #[.slice (some ⟨N, (i + 1) * 5, none⟩) (n - i) dc, .slice (some ⟨b, i * 5, none⟩) (n - i) sc]).run Try.prog WB = .ok (goInt ((n - i : Nat) : Int)) (WB.setCells N ((i + 1) * 5) ds) := fun ty dc sc =>
    run_copy_wide WB _ _ ty 37 i0 N ((i + 1) * 5) (n - i) dc ⟨b, i * 5, none⟩ (n - i) sc (n - i) 5 ds Try.underlying31 hi0 hzs (by simp only [Nat.min_def]; split <;> omega) hds
      (fun j u hj => by
        rw [Addr.add_lit, hWB]
        show (WA.setCells N (i * 5) xs).cell? _ = _
        rw [World.cell?_setCells_out N _ _ _ _ (fun h _ => absurd h hbN)]
        exact hOA b _ u hbw (hdc j u hj))
      (fun j hj => by rw [Lib.cell_of_heap hB, Array.getElem?_eq_getElem (by rw [over_size]; omega)]; rfl) (fun j hj => Lib.frozen_of_heap hB _) hd1
  rw [← hWA, ← hN] at hrun
  have hGi : ¬ (G = i) := by omega
  have hGim : ¬ (G = i + 1) := by omega
  have hRES : Hid ((((w.alloc (.cells ROW 37)).drew.setCells w.heap.size (i * 5) xs).drew).setCells w.heap.size ((i + 1) * 5) ds = WB.setCells N ((i + 1) * 5) ds) := by show _ = _; rw [hWB, hWA, hN]
  have hN2 : Hid (N = w.heap.size) := hN
  have HH := hid (And.intro hGn (And.intro hGm (And.intro hRs hRt)))
  clear hkk hik hG hGn hGm hRs hRt hA hB hOA hos hds hxs hd1 hx1 hoc hdc hxc hWA hN
  go_enter Try.func51, Try.ntmps51
  go_wp2_with (first
    | (at_builtin; refine Lib.wpList_append_run _ rfl _ _ _ _ rfl _ _ rfl rfl _ _ hrun ?_)
    | (at_builtin; refine wpList_copy_runI _ rfl _ _ 31 31 rfl _ _ rfl rfl (hcpA _ _) ?_))
  subst hWB
  go_region_law_o (refine step_copy_runI rfl _ _ 31 31 rfl _ _ (by simp [Act.eval, Act.put]) (by simp [Act.eval, Act.put]) (hcpB _ _ _) ?_)
  go_wp2
  go_ret
  refine ⟨G, ROW, HH.out.1, HH.out.2.1, HH.out.2.2.1, HH.out.2.2.2, ?_, ?_⟩
  · rw [← hN2.out]; rfl
  · rw [hRES.out]
end Go.Proofs.Ytmdfdlljeggbbaa
