/- Package mean: ends, from look. (Made by wip/tools/genen.py.) Package mean: ends, of every tree. The library's Collect over a set of places. Package mean: Ends, of every tree. Programs: lists of steps, in memory; their faults. No function of the program. The program of a tree, as the landed package prog lays it: plain mathematics. -/
import Derived.Test.YtphcncgdodhlbaaDoorY07
import Derived.Test.YtphcncgdodhlbaaDoorY08
import Derived.Test.YtphcncgdodhlbaaDoorY09
import Derived.Test.YtphcncgdodhlbaaDoorY10
import Derived.Test.YtphcncgdodhlbaaDoorY06
import Derived.Test.YtphcncgdodhlbaaDoorY04
import Derived.Test.YtphcncgdodhlbaaDoorY02
import Derived.Test.YtphcncgdodhlbaaDoorY03
namespace Go.Proofs.YtphcncgdodhlbaaDoor
set_option linter.unusedSimpArgs false
set_option linter.unusedVariables false
set_option maxRecDepth 100000
open Go.RowKit
set_option maxHeartbeats 4000000 in
theorem ends_known (c : Cx) (i a : Nat) (p : Nat → Bool) (w : World) (hA : c.At w) (hW : c.W0.heap.size ≤ w.heap.size)
    (hl : ∀ w' : World, w'.heap[c.M]? = w.heap[c.M]? → (Instr.lookup 90 (.map (some c.M)) (spotV i a) true).run Tryd.prog w' = .ok (.tuple #[plV p, .bool true]) w') :
    Calls Tryd.prog 27 #[.pointer (some ⟨c.rb, 0, none⟩), .int .i64 (i : Int), .int .i64 (a : Int)] w fun e w' => e = .returned (plV p) ∧ c.At w' ∧ w.grownBy w' (some c.M) := by
  unfold plV at hl
  obtain ⟨rb, hrb⟩ : ∃ rb, rb = c.rb := ⟨_, rfl⟩
  obtain ⟨M, hM⟩ : ∃ M, M = c.M := ⟨_, rfl⟩
  rw [← hrb]
  have hlt := hA.lt
  have hMlt := hA.kn.lt
  rw [← hrb] at hlt
  rw [← hM] at hMlt hl
  unfold spotV at hl
  obtain ⟨w2, hw2⟩ : ∃ w2, w2 = (w.alloc (.cells #[.int .u64 0, .int .u64 0, .int .u64 0, .int .u64 0, .int .u64 0, .int .u64 0, .int .u64 0] 68)).alloc (.cells #[.int .i64 (i : Int), .int .i64 (a : Int)] 94) := ⟨_, rfl⟩
  have hZ : Hp w2 w.heap.size noP := by rw [hw2]; exact (Hp.zero _ _ rfl).alloc _
  have hs0 : w2.heap[w.heap.size + 1]? = some (.cells #[.int .i64 (i : Int), .int .i64 (a : Int)] 94 (0, 0)) := by
    rw [hw2]
    have := World.alloc_heap_new (w.alloc (.cells #[.int .u64 0, .int .u64 0, .int .u64 0, .int .u64 0, .int .u64 0, .int .u64 0, .int .u64 0] 68)) (.cells #[.int .i64 (i : Int), .int .i64 (a : Int)] 94)
    rwa [World.size_alloc] at this
  have hg2 : w.grownBy w2 (some M) := by rw [hw2]; exact (World.grownBy_alloc _ _ _).trans (World.grownBy_alloc _ _ _)
  have hA2 : c.At w2 := by rw [hw2]; exact (hA.alloc _).alloc _
  have hsz : w2.heap.size = w.heap.size + 2 := by rw [hw2]; simp
  have hMh : w2.heap[M]? = w.heap[M]? := by rw [hw2, Below.heap_alloc _ _ _ (by simp; omega), Below.heap_alloc _ _ _ hMlt]
  have l0 := hl w2 hMh
  have l1 : ∀ o, _ := fun o => hl (w2.alloc o) ((Below.heap_alloc w2 o M (by omega)).trans hMh)
  have l2 := hl w2.drew hMh
  have l3 : ∀ o, _ := fun o => hl (w2.alloc o).drew ((Below.heap_alloc w2 o M (by omega)).trans hMh)
  have l4 : ∀ o, _ := fun o => hl (w2.drew.alloc o) ((Below.heap_alloc w2 o M (by omega)).trans hMh)
  have s0 : w2.cell? ⟨w.heap.size + 1, 0, none⟩ = some (.int .i64 (i : Int)) := by rw [Lib.cell_of_heap hs0]; rfl
  have s1 : w2.cell? ⟨w.heap.size + 1, 1, none⟩ = some (.int .i64 (a : Int)) := by rw [Lib.cell_of_heap hs0]; rfl
  have s2 : ∀ o, (w2.alloc o).cell? ⟨w.heap.size + 1, 0, none⟩ = some (.int .i64 (i : Int)) := fun o => by rw [Lib.cell_of_heap ((Below.heap_alloc w2 o _ (by omega)).trans hs0)]; rfl
  have s3 : ∀ o, (w2.alloc o).cell? ⟨w.heap.size + 1, 1, none⟩ = some (.int .i64 (a : Int)) := fun o => by rw [Lib.cell_of_heap ((Below.heap_alloc w2 o _ (by omega)).trans hs0)]; rfl
  have d0 : w2.cell? ⟨rb, 2, none⟩ = some (.map (some M)) := by rw [hrb, hM]; exact hA2.c2
  have d1 : ∀ o, (w2.alloc o).cell? ⟨rb, 2, none⟩ = some (.map (some M)) := fun o => by rw [hrb, hM]; exact (hA2.alloc o).c2
  replace hrb := hid hrb
  replace hM := hid hM
  clear hl
  go_enter Tryd.func27, Tryd.ntmps27
  go_wp2_with fail
  rw [← hw2]
  clear hw2
  go_region
  clear l0 l1 l2 l3 l4 s0 s1 s2 s3 d0 d1
  have h3 : Hp (w2.alloc (.cells #[.int .u64 (wd p 0), .int .u64 (wd p 1), .int .u64 (wd p 2), .int .u64 (wd p 3), .int .u64 (wd p 4), .int .u64 (wd p 5), .int .u64 (wd p 6)] 68)).drew w.heap.size noP := (hZ.alloc _).drew
  have hA3 : c.At (w2.alloc (.cells #[.int .u64 (wd p 0), .int .u64 (wd p 1), .int .u64 (wd p 2), .int .u64 (wd p 3), .int .u64 (wd p 4), .int .u64 (wd p 5), .int .u64 (wd p 6)] 68)).drew := (hA2.alloc _).drew
  have hg3 : w.grownBy (w2.alloc (.cells #[.int .u64 (wd p 0), .int .u64 (wd p 1), .int .u64 (wd p 2), .int .u64 (wd p 3), .int .u64 (wd p 4), .int .u64 (wd p 5), .int .u64 (wd p 6)] 68)).drew (some M) := grown_drew (hg2.trans (World.grownBy_alloc w2 _ _))
  have hs3 : (w2.alloc (.cells #[.int .u64 (wd p 0), .int .u64 (wd p 1), .int .u64 (wd p 2), .int .u64 (wd p 3), .int .u64 (wd p 4), .int .u64 (wd p 5), .int .u64 (wd p 6)] 68)).drew.heap[w.heap.size + 1]? = some (.cells #[.int .i64 (i : Int), .int .i64 (a : Int)] 94 (0, 0)) := (Below.heap_alloc w2 _ _ (by omega)).trans hs0
  have hz3 : (w2.alloc (.cells #[.int .u64 (wd p 0), .int .u64 (wd p 1), .int .u64 (wd p 2), .int .u64 (wd p 3), .int .u64 (wd p 4), .int .u64 (wd p 5), .int .u64 (wd p 6)] 68)).drew.heap.size = w.heap.size + 3 := by
    show (w2.alloc _).heap.size = _
    rw [World.size_alloc, hsz]
  have hP3 : Hp (w2.alloc (.cells #[.int .u64 (wd p 0), .int .u64 (wd p 1), .int .u64 (wd p 2), .int .u64 (wd p 3), .int .u64 (wd p 4), .int .u64 (wd p 5), .int .u64 (wd p 6)] 68)).drew (w.heap.size + 2) p := (Hp.new w2 p _ hsz.symm).drew
  clear hZ hs0 hg2 hA2 hs3
  generalize (w2.alloc (.cells #[.int .u64 (wd p 0), .int .u64 (wd p 1), .int .u64 (wd p 2), .int .u64 (wd p 3), .int .u64 (wd p 4), .int .u64 (wd p 5), .int .u64 (wd p 6)] 68)).drew = w3 at *
  clear hMh hsz
  obtain ⟨c0, c1, c2, c3, c4, c5, c6⟩ := hP3.all
  obtain ⟨d0, d1, d2, d3, d4, d5, d6⟩ := h3.all
  obtain ⟨f0, f1, f2, f3, f4, f5, f6⟩ := h3.frz
  go_wp2
  have hq := h3.put7 p
  obtain ⟨e0, e1, e2, e3, e4, e5, e6⟩ := hq.all
  rw [hM.out] at hMlt
  rw [hrb.out] at hlt
  refine bodyPost_ret (v := plV p) (by simp [results, Tryd.results27, go_sem, plV, e0, e1, e2, e3, e4, e5, e6]) rfl ⟨rfl, hA3.turn (grown_put7 _ _ _) (fun r e => by cases e; exact ⟨hW, by omega, by omega⟩), ?_⟩
  rw [← hM.out]
  exact grown_new hg3 (grown_put7 w3 w.heap.size p) (Nat.le_refl _)
set_option maxHeartbeats 4000000 in
theorem ends_new (c : Cx) (i a : Nat) (hi : i < 60) (ha : a < 401) (p : Nat → Bool) (hok : c.ok i a (plV p)) (hcM : c.W0.heap.size ≤ c.M) (hne : c.rb ≠ c.M) (w : World) (hA : c.At w) (hW : c.W0.heap.size ≤ w.heap.size)
    (hL : ∀ w, c.At w → Calls Tryd.prog 40 #[.pointer (some ⟨c.rb, 0, none⟩), .int .i64 (i : Int), .int .i64 (a : Int)] w fun e w' => e = .returned (plV p) ∧ c.At w' ∧ w.grownBy w' (some c.M))
    (hl : ∀ w' : World, w'.heap[c.M]? = w.heap[c.M]? → (Instr.lookup 90 (.map (some c.M)) (spotV i a) true).run Tryd.prog w' = .ok (.tuple #[.agg #[.int .u64 0, .int .u64 0, .int .u64 0, .int .u64 0, .int .u64 0, .int .u64 0, .int .u64 0], .bool false]) w') :
    Calls Tryd.prog 27 #[.pointer (some ⟨c.rb, 0, none⟩), .int .i64 (i : Int), .int .i64 (a : Int)] w fun e w' => e = .returned (plV p) ∧ c.At w' ∧ w.grownBy w' (some c.M) := by
  replace hL := hid hL
  obtain ⟨rb, hrb⟩ : ∃ rb, rb = c.rb := ⟨_, rfl⟩
  obtain ⟨M, hM⟩ : ∃ M, M = c.M := ⟨_, rfl⟩
  rw [← hrb]
  have hlt := hA.lt
  have hMlt := hA.kn.lt
  rw [← hrb] at hlt
  rw [← hM] at hMlt hl
  unfold spotV at hl
  obtain ⟨w2, hw2⟩ : ∃ w2, w2 = (w.alloc (.cells #[.int .u64 0, .int .u64 0, .int .u64 0, .int .u64 0, .int .u64 0, .int .u64 0, .int .u64 0] 68)).alloc (.cells #[.int .i64 (i : Int), .int .i64 (a : Int)] 94) := ⟨_, rfl⟩
  have hZ : Hp w2 w.heap.size noP := by rw [hw2]; exact (Hp.zero _ _ rfl).alloc _
  have hs0 : w2.heap[w.heap.size + 1]? = some (.cells #[.int .i64 (i : Int), .int .i64 (a : Int)] 94 (0, 0)) := by
    rw [hw2]
    have := World.alloc_heap_new (w.alloc (.cells #[.int .u64 0, .int .u64 0, .int .u64 0, .int .u64 0, .int .u64 0, .int .u64 0, .int .u64 0] 68)) (.cells #[.int .i64 (i : Int), .int .i64 (a : Int)] 94)
    rwa [World.size_alloc] at this
  have hg2 : w.grownBy w2 (some M) := by rw [hw2]; exact (World.grownBy_alloc _ _ _).trans (World.grownBy_alloc _ _ _)
  have hA2 : c.At w2 := by rw [hw2]; exact (hA.alloc _).alloc _
  have hsz : w2.heap.size = w.heap.size + 2 := by rw [hw2]; simp
  have hMh : w2.heap[M]? = w.heap[M]? := by rw [hw2, Below.heap_alloc _ _ _ (by simp; omega), Below.heap_alloc _ _ _ hMlt]
  have l0 := hl w2 hMh
  have l1 : ∀ o, _ := fun o => hl (w2.alloc o) ((Below.heap_alloc w2 o M (by omega)).trans hMh)
  have l2 := hl w2.drew hMh
  have l3 : ∀ o, _ := fun o => hl (w2.alloc o).drew ((Below.heap_alloc w2 o M (by omega)).trans hMh)
  have l4 : ∀ o, _ := fun o => hl (w2.drew.alloc o) ((Below.heap_alloc w2 o M (by omega)).trans hMh)
  have s0 : w2.cell? ⟨w.heap.size + 1, 0, none⟩ = some (.int .i64 (i : Int)) := by rw [Lib.cell_of_heap hs0]; rfl
  have s1 : w2.cell? ⟨w.heap.size + 1, 1, none⟩ = some (.int .i64 (a : Int)) := by rw [Lib.cell_of_heap hs0]; rfl
  have s2 : ∀ o, (w2.alloc o).cell? ⟨w.heap.size + 1, 0, none⟩ = some (.int .i64 (i : Int)) := fun o => by rw [Lib.cell_of_heap ((Below.heap_alloc w2 o _ (by omega)).trans hs0)]; rfl
  have s3 : ∀ o, (w2.alloc o).cell? ⟨w.heap.size + 1, 1, none⟩ = some (.int .i64 (a : Int)) := fun o => by rw [Lib.cell_of_heap ((Below.heap_alloc w2 o _ (by omega)).trans hs0)]; rfl
  have d0 : w2.cell? ⟨rb, 2, none⟩ = some (.map (some M)) := by rw [hrb, hM]; exact hA2.c2
  have d1 : ∀ o, (w2.alloc o).cell? ⟨rb, 2, none⟩ = some (.map (some M)) := fun o => by rw [hrb, hM]; exact (hA2.alloc o).c2
  replace hrb := hid hrb
  replace hM := hid hM
  clear hl
  go_enter Tryd.func27, Tryd.ntmps27
  go_wp2_with fail
  rw [← hw2]
  clear hw2
  go_region
  clear l0 l1 l2 l3 l4 s0 s1 s2 s3 d0 d1
  have h3 : Hp (w2.alloc (.cells #[.int .u64 0, .int .u64 0, .int .u64 0, .int .u64 0, .int .u64 0, .int .u64 0, .int .u64 0] 68)).drew w.heap.size noP := (hZ.alloc _).drew
  have hA3 : c.At (w2.alloc (.cells #[.int .u64 0, .int .u64 0, .int .u64 0, .int .u64 0, .int .u64 0, .int .u64 0, .int .u64 0] 68)).drew := (hA2.alloc _).drew
  have hg3 : w.grownBy (w2.alloc (.cells #[.int .u64 0, .int .u64 0, .int .u64 0, .int .u64 0, .int .u64 0, .int .u64 0, .int .u64 0] 68)).drew (some M) := grown_drew (hg2.trans (World.grownBy_alloc w2 _ _))
  have hs3 : (w2.alloc (.cells #[.int .u64 0, .int .u64 0, .int .u64 0, .int .u64 0, .int .u64 0, .int .u64 0, .int .u64 0] 68)).drew.heap[w.heap.size + 1]? = some (.cells #[.int .i64 (i : Int), .int .i64 (a : Int)] 94 (0, 0)) := (Below.heap_alloc w2 _ _ (by omega)).trans hs0
  have hz3 : (w2.alloc (.cells #[.int .u64 0, .int .u64 0, .int .u64 0, .int .u64 0, .int .u64 0, .int .u64 0, .int .u64 0] 68)).drew.heap.size = w.heap.size + 3 := by
    show (w2.alloc _).heap.size = _
    rw [World.size_alloc, hsz]
  clear hZ hs0 hg2 hA2
  generalize (w2.alloc (.cells #[.int .u64 0, .int .u64 0, .int .u64 0, .int .u64 0, .int .u64 0, .int .u64 0, .int .u64 0] 68)).drew = w3 at *
  clear hMh hsz
  go_wp2_with fail
  rw [hrb.out]
  refine (hL.out _ hA3).mono ?_
  rintro e w4 ⟨rfl, hA4, hg4⟩
  rw [← hrb.out]
  have h4 := h3.grown hg4 (by rw [← hM.out]; simp; omega)
  have hs4 := (hg4.block (w.heap.size + 1) (by omega) (by rw [← hM.out]; simp; omega)).trans hs3
  have hz4 := hg4.size
  clear hL h3 hs3 hA3
  obtain ⟨w5, hw5⟩ : ∃ w5, w5 = w4.alloc (.cells #[.int .u64 (wd p 0), .int .u64 (wd p 1), .int .u64 (wd p 2), .int .u64 (wd p 3), .int .u64 (wd p 4), .int .u64 (wd p 5), .int .u64 (wd p 6)] 68) := ⟨_, rfl⟩
  have hP5 : Hp w5 w4.heap.size p := by rw [hw5]; exact Hp.new w4 p _ rfl
  have h5 : Hp w5 w.heap.size noP := by rw [hw5]; exact h4.alloc _
  have hA5 : c.At w5 := by rw [hw5]; exact hA4.alloc _
  have hg5 : w4.grownBy w5 (some M) := by rw [hw5]; exact World.grownBy_alloc _ _ _
  have hs5 : w5.heap[w.heap.size + 1]? = some (.cells #[.int .i64 (i : Int), .int .i64 (a : Int)] 94 (0, 0)) := by rw [hw5]; exact (Below.heap_alloc w4 _ _ (by omega)).trans hs4
  have hz5 : w5.heap.size = w4.heap.size + 1 := by rw [hw5]; simp
  have s0 : w5.cell? ⟨w.heap.size + 1, 0, none⟩ = some (.int .i64 (i : Int)) := by rw [Lib.cell_of_heap hs5]; rfl
  have s1 : w5.cell? ⟨w.heap.size + 1, 1, none⟩ = some (.int .i64 (a : Int)) := by rw [Lib.cell_of_heap hs5]; rfl
  have d0 : w5.cell? ⟨rb, 2, none⟩ = some (.map (some M)) := by rw [hrb.out, hM.out]; exact hA5.c2
  obtain ⟨c0, c1, c2, c3, c4, c5, c6⟩ := hP5.all
  obtain ⟨w6, hrun, hk6, hg6⟩ := hA5.drew.kn.store i a (plV p) hi ha hok
  rw [← hM.out] at hrun hg6
  replace hk6 := hid hk6
  unfold spotV plV at hrun
  unfold plV
  go_wp2_with fail
  rw [← hw5]
  clear hw5
  go_region
  have hA6 : c.At w6 := ⟨hA5.drew.bel.grown hg6 hA5.bel.size (fun k e => by cases e; rw [hM.out]; exact hcM), (hg6.block c.rb hA5.lt (by rw [hM.out]; simpa using hne)).trans hA5.rd, hk6.out⟩
  have hP6 : Hp w6 w4.heap.size p := hP5.drew.grown hg6 (by simp; omega)
  have h6 : Hp w6 w.heap.size noP := h5.drew.grown hg6 (by simp; omega)
  have hgw : w.grownBy w6 (some M) := ((hg3.trans (by rw [hM.out]; exact hg4)).trans (grown_drew hg5)).trans hg6
  clear s0 s1 d0 c0 c1 c2 c3 c4 c5 c6 hrun hk6 hP5 h5 hA5 hA4 h4 hs4 hs5 hok
  obtain ⟨c0, c1, c2, c3, c4, c5, c6⟩ := hP6.all
  obtain ⟨d0, d1, d2, d3, d4, d5, d6⟩ := h6.all
  obtain ⟨f0, f1, f2, f3, f4, f5, f6⟩ := h6.frz
  go_wp2
  have hq := h6.put7 p
  obtain ⟨e0, e1, e2, e3, e4, e5, e6⟩ := hq.all
  rw [hM.out] at hMlt
  rw [hrb.out] at hlt
  refine bodyPost_ret (v := plV p) (by simp [results, Tryd.results27, go_sem, plV, e0, e1, e2, e3, e4, e5, e6]) rfl ⟨rfl, hA6.turn (grown_put7 _ _ _) (fun r e => by cases e; exact ⟨hW, by omega, by omega⟩), ?_⟩
  rw [← hM.out]
  exact grown_new hgw (grown_put7 w6 w.heap.size p) (Nat.le_refl _)
theorem ends_of {c : Cx} (hc : c.Good) {t : Rx} (ht : t.Ok) {p q : List Nd} (hns : c.ns = p ++ t.flat ++ q) (a : Nat) (ha : a ≤ c.s.size) (hL : LookOk c t p.length a) : EndsOk c t p.length a := by
  intro w hA
  have h1 := flat_lt hns
  have h2 := hc.len
  have h3 := hc.size
  have hW := hA.bel.size
  rcases hA.kn.look p.length a (by omega) (by omega) with ⟨x, hx, hl⟩ | hl
  · rw [Cx.ok_one ht hns hx] at hl
    exact ends_known c _ a _ w hA hW hl
  · exact ends_new c _ a (by omega) (by omega) _ ⟨t, p, q, ht, hns, rfl, ha, rfl⟩ hc.hM hc.ne w hA hW hL hl
end Go.Proofs.YtphcncgdodhlbaaDoor
namespace Go.Proofs.YtphcncgdodhlbaaDoor
set_option linter.unusedSimpArgs false
set_option linter.unusedVariables false
set_option maxRecDepth 100000
open Go.RowKit
theorem op_range {c : Cx} (hc : c.Good) {n : Nd} (h : n ∈ c.ns) : 1 ≤ n.op ∧ n.op ≤ 9 := (((faultL_zero c.ns).1 hc.fault).2.1 n h).1
/-- ends, at every tree of a pattern that may be, from every place. -/
theorem ends_tree {c : Cx} (hc : c.Good) : ∀ (t : Rx), t.Ok → ∀ (p q : List Nd), c.ns = p ++ t.flat ++ q → ∀ a, a ≤ c.s.size → EndsOk c t p.length a
  | .leaf n, ht, p, q, hns, a, ha => by
    have hr := op_range hc (n := n) (by rw [hns]; simp [Rx.flat])
    have hp : prt n.op = 0 := ht
    refine ends_of hc ht hns a ha ?_
    by_cases h1 : n.op = 1
    · by_cases hin : a < c.s.size
      · exact look_byteIn hc n hns h1 a ha hin
      · exact look_byteOut hc n hns h1 a ha (by omega)
    · by_cases h8 : n.op = 8
      · exact look_begin hc n hns h8 a ha
      · by_cases h9 : n.op = 9
        · exact look_end hc n hns h9 a ha
        · have h2 : n.op = 2 := by
            unfold prt at hp
            split at hp
            · cases hp
            · split at hp
              · cases hp
              · omega
          exact look_empty hc n hns h2 a ha
  | .one n t, ht, p, q, hns, a, ha => by
    have hp : prt n.op = 1 := ht.1
    have hns2 : c.ns = (p ++ [n]) ++ t.flat ++ q := by rw [hns]; simp [Rx.flat]
    have EA : ∀ k, k ≤ c.s.size → EndsOk c t (p.length + 1) k := fun k hk => by
      have := ends_tree hc t ht.2 (p ++ [n]) q hns2 k hk
      rwa [show (p ++ [n]).length = p.length + 1 by simp] at this
    have hop : n.op = 5 ∨ n.op = 6 ∨ n.op = 7 := by
      unfold prt at hp
      split at hp
      · cases hp
      · split at hp
        · assumption
        · cases hp
    have key : ∀ d k, k ≤ c.s.size → c.s.size - k ≤ d → EndsOk c (.one n t) p.length k := by
      intro d
      induction d with
      | zero =>
        intro k hk hd
        have ES : ∀ j, k < j → j ≤ c.s.size → EndsOk c (.one n t) p.length j := fun j h1 h2 => absurd h2 (by omega)
        refine ends_of hc ht hns k hk ?_
        rcases hop with h | h | h
        · exact look_star hc n t hns h k hk (EA k hk) ES
        · exact look_plus hc n t hns h k hk (EA k hk) ES
        · exact look_opt hc n t hns h k hk (EA k hk)
      | succ d ih =>
        intro k hk hd
        have ES : ∀ j, k < j → j ≤ c.s.size → EndsOk c (.one n t) p.length j := fun j h1 h2 => ih j h2 (by omega)
        refine ends_of hc ht hns k hk ?_
        rcases hop with h | h | h
        · exact look_star hc n t hns h k hk (EA k hk) ES
        · exact look_plus hc n t hns h k hk (EA k hk) ES
        · exact look_opt hc n t hns h k hk (EA k hk)
    exact key _ a ha (Nat.le_refl _)
  | .two n t u, ht, p, q, hns, a, ha => by
    have hp : prt n.op = 2 := ht.1
    have hns2 : c.ns = (p ++ [n]) ++ t.flat ++ (u.flat ++ q) := by rw [hns]; simp [Rx.flat]
    have hns3 : c.ns = (p ++ [n] ++ t.flat) ++ u.flat ++ q := by rw [hns]; simp [Rx.flat]
    have EA : EndsOk c t (p.length + 1) a := by
      have := ends_tree hc t ht.2.1 (p ++ [n]) _ hns2 a ha
      rwa [show (p ++ [n]).length = p.length + 1 by simp] at this
    have EB : ∀ k, k ≤ c.s.size → EndsOk c u (p.length + 1 + t.flat.length) k := fun k hk => by
      have := ends_tree hc u ht.2.2 (p ++ [n] ++ t.flat) _ hns3 k hk
      rwa [show (p ++ [n] ++ t.flat).length = p.length + 1 + t.flat.length by simp; omega] at this
    have hop : n.op = 3 ∨ n.op = 4 := by
      unfold prt at hp
      split at hp
      · assumption
      · split at hp <;> cases hp
    refine ends_of hc ht hns a ha ?_
    rcases hop with h | h
    · exact look_cat hc n t u ht hns h a ha EA EB
    · exact look_or hc n t u ht hns h a ha EA (EB a ha)
/-- A reader that is new. -/
theorem cx_new {w1 : World} {b off cap : Nat} {t : Rx} (hn : NsAt w1 b off t.flat) (hlt : b < w1.heap.size) (hf : faultL t.flat = 0) (hw : ∀ n ∈ t.flat, n.wf) (s : ByteArray) (hs : s.size ≤ 400) (hT : Tab w1) :
    (Cx.mk w1 (w1.heap.size + 1) w1.heap.size b off cap t.flat s).Good ∧ (Cx.mk w1 (w1.heap.size + 1) w1.heap.size b off cap t.flat s).At ((w1.alloc (.map #[] 0)).alloc (.cells #[.slice (some ⟨b, off, none⟩) t.flat.length cap, .string s, .map (some w1.heap.size)] 92)) := by
  refine ⟨⟨hn, hlt, hf, hw, hs, hT, Nat.le_succ _, Nat.le_refl _, by simp⟩, ⟨((Below.refl _ w1).alloc (Nat.le_refl _) _).alloc (by simp) _, ?_, ?_⟩⟩
  · have := World.alloc_heap_new (w1.alloc (.map #[] 0)) (.cells #[.slice (some ⟨b, off, none⟩) t.flat.length cap, .string s, .map (some w1.heap.size)] 92)
    rwa [World.size_alloc] at this
  · exact (Kn.made w1 _).kept (World.grownBy_alloc _ _ none) (by simp)
end Go.Proofs.YtphcncgdodhlbaaDoor
namespace Go.Proofs.YtphcncgdodhlbaaDoor
set_option linter.unusedSimpArgs false
set_option linter.unusedVariables false
set_option maxRecDepth 100000
open Go.RowKit Go.Shelf
attribute [local go_sem] Oper.semAt_some

set_option maxHeartbeats 2000000 in
theorem appendSeq_in (n : Nat) (hn : 3 ≤ n) (p : Nat → Bool) (w : World) (hT : Tab w) :
    CallsIn Fence.wide n Tryd.prog 39 #[.slice none 0 0, .func (.func 28) #[plV p] #[]] w fun e W' => ∃ u, e = .returned u ∧ IsOwn W' w.heap.size u (el p 448) ∧ Below w.heap.size w W' := by
  have hinfo : (Tryd.prog.info? 3).map (fun i => (i.zero, i.size, i.bytes)) = some (some (.int .i64 0), 1, 8) := by kernel_rfl
  obtain ⟨i0, hi, hz0, hz1, hz2⟩ := info_parts hinfo
  have hel : (el p 448).length ≤ 448 := el_len p 448
  refine callsIn_of_wp_marks Tryd.func39 rfl trivial ?_ rfl
  simp only [Tryd.ntmps39, List.size_toArray, List.length_cons, List.length_nil, Nat.reduceAdd, Nat.reduceSub, Array.replicate_succ, Array.replicate_zero, List.push_toArray, List.append_toArray, List.nil_append, List.cons_append]
  gi_wp2
  have bO := Boxed.new w 46 (.slice none 0 0)
  have hB0 : Below w.heap.size w (w.alloc (.cells #[.slice none 0 0] 46)) := (Below.refl _ w).alloc (Nat.le_refl _) _
  refine wpIn_runs rfl (by omega) 28 #[plV p] rfl trivial enters_rising (fun x : Nat => Value.int .i64 (x : Int)) Tab (el p 448) (rises (n - 1) (by omega) p) rfl
    (fun pre W => (∃ v, Boxed W w.heap.size 46 v ∧ W.ownsRow w.heap.size 3 1 v pre.length (isCells pre) ∧ True) ∧ Below w.heap.size w W)
    (OwnFrom.and (Own.from (holdsRow_own w.heap.size w.heap.size 46 3 1 (fun pre : List Nat => pre.length) (fun pre => isCells pre) (fun pre v => True)) _) (ownFrom_below (Nat.le_refl _) (by simp)))
    (fun pre W h => hT.below h.2 (Nat.le_refl _))
    ⟨⟨_, bO, World.ownsRow_nil _ _ _ _, trivial⟩, hB0⟩
    (fun x => { tmps := #[.slice none 0 0, .func (.func 28) #[plV p] #[], .pointer (some ⟨w.heap.size, 0, none⟩), undef, .slice none 0 0, .int .i64 (x : Int), .func (.func 28) #[plV p] #[], .int .i64 (x : Int), undef, undef, undef, undef, undef], defers := [] }) ?assign ?body ?done
  case assign =>
    intro l x W K hK
    gi_wp2
    exact hK
  case body =>
    rintro l pre x rest W hx ⟨⟨v, hv, hrow, _⟩, hB⟩
    have hc := hv.cell
    have hpl : pre.length < 448 := by
      have := congrArg List.length hx
      simp at this
      omega
    gi_wp2_with (gi_at_builtin; refine wpListIn_append_own _ rfl _ _ 46 rfl w.heap.size 3 i0 (.int .i64 0) 1 8 Tryd.underlying46 hi hz0 hz1 hz2 rfl (by decide) _ _ _ rfl (hrow.alloc _) ⟨W.heap.size, 0, none⟩ 1 1 [.int .i64 (x : Int)] rfl rfl (cell_one_new _ _ _) (by simp [Value.oneCell']) (by unfold maxLen; omega) (by omega) (by have := hB.size; simp; omega) ?_; intro v' w1 hown' hgrow _; obtain ⟨g', cap', rfl⟩ := ownsRow_succ hown'; obtain ⟨hv1, hv2, hr2, hk2, hb2⟩ := hv.appended (by decide) hrow hB.size (Nat.le_refl _) hown' hgrow; have hc1 := hv1.cell; have hf1 := hv1.frozen)
    exact ⟨hk2.from _, ⟨_, hv2, by simpa [isCells] using hr2, trivial⟩, hB.trans hb2⟩
  case done =>
    rintro D W hD ⟨⟨v, hv, hrow, _⟩, hB⟩ hK
    have hc := hv.cell
    gi_wp2
    refine ⟨by simp, .inl ⟨_, _, rfl, run_takeDeferred hK, ?_⟩⟩
    exact ⟨_, results_tmp rfl _ _ _, v, rfl, ownsRow_putObj hrow _ hK rfl, hB.trans (belowK_b (w := w) (Nat.le_refl _) W D _ _ (by simp at hD; omega) hK rfl rfl)⟩
theorem collect_any (p : Nat → Bool) (w : World) (hT : Tab w) :
    Calls Tryd.prog 25 #[.func (.func 28) #[plV p] #[]] w fun e W' => ∃ u, e = .returned u ∧ IsIn W' u (el p 448) ∧ Below w.heap.size w W' := by
  have C := hid ((callsIn_wide (n := 3)).1 (appendSeq_in 3 (by omega) p w hT))
  have hel : (el p 448).length ≤ 448 := el_len p 448
  go_enter Tryd.func25, Tryd.ntmps25
  go_wp2_with fail
  refine C.out.mono ?_
  rintro e w1 ⟨u, rfl, hu, hb⟩
  obtain ⟨a, cap, rfl⟩ := hu.form
  go_wp2
  go_ret
  exact ⟨_, rfl, hu.isIn (by unfold maxLen; omega), hb⟩
end Go.Proofs.YtphcncgdodhlbaaDoor
namespace Go.Proofs.YtphcncgdodhlbaaDoor
set_option linter.unusedSimpArgs false
set_option linter.unusedVariables false
set_option maxRecDepth 100000
open Go.RowKit
set_option maxHeartbeats 4000000 in
theorem mends_any (t : Rx) (v : Value) (s : ByteArray) (i : Nat) (l : List Nat) (w : World) (hT : Tab w) (ht : t.Ok) (hN : NsIn w v t.flat) (hw : ∀ n ∈ t.flat, n.wf) (hE : meanE t.flat s.size i = 0) (hl : EndsR s.data.toList t i l) :
    Calls Tryd.prog 15 #[v, .string s, .int .i64 (i : Int)] w fun e w' => ∃ u, e = .returned (.tuple #[u, .nilIface]) ∧ Below w.heap.size w w' ∧ IsIn w' u l := by
  obtain ⟨hf, h4, _, hi⟩ := (meanE_zero _ _ _).1 hE
  have C := mcheck_any t.flat v s w hN (by unfold maxLen; omega)
  rw [(meanF_zero _ _).2 ⟨hf, h4⟩, show errV 0 = .nilIface from rfl] at C
  replace C := hid C
  obtain ⟨a, cap, rfl, hm, h | ⟨b, off, rfl, hlt, hn⟩⟩ := hN
  · exact absurd t.flat_pos (by rw [h]; simp)
  have i0 : (0 : Int) ≤ (i : Int) := by omega
  have i1 : (i : Int) ≤ (s.size : Int) := by omega
  have hle := el_ends hl (by rw [Array.length_toList]; exact h4)
  have HX : Hid (∀ w1, Below w.heap.size w w1 → (Cx.mk w1 (w1.heap.size + 1) w1.heap.size b off cap t.flat s).Good ∧ (Cx.mk w1 (w1.heap.size + 1) w1.heap.size b off cap t.flat s).At ((w1.alloc (.map #[] 0)).alloc (.cells #[.slice (some ⟨b, off, none⟩) t.flat.length cap, .string s, .map (some w1.heap.size)] 92))) := fun w1 hb => cx_new (hn.below hb hlt) (Nat.lt_of_lt_of_le hlt hb.size) hf hw s h4 (hT.below hb (Nat.le_refl _))
  have hi' : i ≤ s.size := by omega
  replace hT := hid hT
  replace hle := hid hle
  clear hn hE hl hw
  go_enter Tryd.func15, Tryd.ntmps15
  go_wp2_with fail
  refine C.out.mono ?_
  rintro e w1 ⟨rfl, hb⟩
  obtain ⟨hG, hA⟩ := HX.out w1 hb
  have HE := hid (ends_tree hG t ht [] [] (by simp) i hi' _ hA)
  replace hA := hid hA
  replace hG := hid hG
  replace hb := hid hb
  clear HX C
  go_wp2_with fail
  refine (reading_any _ _ _ _ _).mono ?_
  rintro e w2 ⟨rfl, rfl⟩
  go_wp2_with fail
  refine Calls.mono HE.out ?_
  rintro e w3 ⟨rfl, hA3, _⟩
  have hB3 := hid (hb.out.trans (hA3.bel.mono hb.out.size))
  have CC := hid (collect_any (fs s.data.toList t i) w3 (hT.out.below hB3.out (Nat.le_refl _)))
  rw [hle.out] at CC
  replace hA3 := hid hA3
  clear HE hA
  unfold plV at CC ⊢
  go_wp2_with fail
  refine CC.out.mono ?_
  rintro e w4 ⟨u, rfl, hu, hb4⟩
  obtain ⟨ua, ucap, rfl, _⟩ := isIn_form hu
  go_wp2
  go_ret2
  exact ⟨_, rfl, hB3.out.trans (hb4.mono hB3.out.size), hu⟩
set_option maxHeartbeats 4000000 in
theorem mends_bad (ns : List Nd) (v : Value) (s : ByteArray) (i : Int) (w : World) (hN : NsIn w v ns) (hs : s.size ≤ maxLen) (hE : ¬ meanE ns s.size i = 0) :
    Calls Tryd.prog 15 #[v, .string s, .int .i64 i] w fun e w' => ∃ u, e = .returned (.tuple #[u, errV (meanE ns s.size i)]) ∧ Below w.heap.size w w' ∧ IsIn w' u [] := by
  have C := hid (mcheck_any ns v s w hN hs)
  by_cases hF : meanF ns s.size = 0
  · have he : meanE ns s.size i = 1 := by
      unfold meanE at hE ⊢
      rw [if_pos hF] at hE ⊢
      by_cases h : 0 ≤ i ∧ i ≤ s.size
      · rw [if_pos h] at hE; exact absurd rfl hE
      · rw [if_neg h]
    have hout : i < 0 ∨ (s.size : Int) < i := by
      unfold meanE at hE
      rw [if_pos hF] at hE
      by_cases h : 0 ≤ i ∧ i ≤ s.size
      · rw [if_pos h] at hE; exact absurd rfl hE
      · omega
    rw [he, show errV 1 = .iface 23 (.int .i64 1) from rfl]
    rw [hF, show errV 0 = .nilIface from rfl] at C
    obtain ⟨a, cap, rfl, hm, _⟩ := hN
    clear hE he hF
    by_cases i0 : i < 0
    · clear hout
      go_enter Tryd.func15, Tryd.ntmps15
      go_wp2_with fail
      refine C.out.mono ?_
      rintro e w1 ⟨rfl, hb⟩
      go_wp2
      go_ret2
      exact ⟨_, rfl, hb, isIn_nil _⟩
    · have i1 : (s.size : Int) < i := by omega
      have i2 : 0 ≤ i := by omega
      clear hout i0
      go_enter Tryd.func15, Tryd.ntmps15
      go_wp2_with fail
      refine C.out.mono ?_
      rintro e w1 ⟨rfl, hb⟩
      go_wp2
      go_ret2
      exact ⟨_, rfl, hb, isIn_nil _⟩
  · have he : meanE ns s.size i = meanF ns s.size := by
      unfold meanE
      rw [if_neg hF]
    rw [he]
    rw [show errV (meanF ns s.size) = .iface 23 (.int .i64 (meanF ns s.size)) by unfold errV; rw [if_neg hF]] at C ⊢
    obtain ⟨a, cap, rfl, hm, _⟩ := hN
    clear hE he
    go_enter Tryd.func15, Tryd.ntmps15
    go_wp2_with fail
    refine C.out.mono ?_
    rintro e w1 ⟨rfl, hb⟩
    go_wp2
    go_ret2
    exact ⟨_, rfl, hb, isIn_nil _⟩
theorem meanN : MeanN := ⟨fun ns v s i w hN _ hs hE => mends_bad ns v s i w hN hs hE, fun t v s i l w hT ht hN hw hE hl => mends_any t v s i l w hT ht hN hw hE hl⟩
end Go.Proofs.YtphcncgdodhlbaaDoor
namespace Go.Proofs.YtphcncgdodhlbaaDoor
set_option linter.unusedSimpArgs false
set_option linter.unusedVariables false
set_option maxRecDepth 100000
open Go.RowKit

/-- A step. -/
structure St where
  op : Int
  c : C4
  x : Int
  y : Int
/-- The steps ss lie from an address on. -/
def SsAt (w : World) (b off : Nat) (ss : List St) : Prop := ∀ i n, ss[i]? = some n →
  w.cell? ⟨b, off + i * 7, none⟩ = some (.int .i64 n.op) ∧ w.cell? ⟨b, off + i * 7 + 1, none⟩ = some (.int .u64 n.c.a) ∧ w.cell? ⟨b, off + i * 7 + 2, none⟩ = some (.int .u64 n.c.b) ∧ w.cell? ⟨b, off + i * 7 + 3, none⟩ = some (.int .u64 n.c.c) ∧ w.cell? ⟨b, off + i * 7 + 4, none⟩ = some (.int .u64 n.c.d) ∧ w.cell? ⟨b, off + i * 7 + 5, none⟩ = some (.int .i64 n.x) ∧ w.cell? ⟨b, off + i * 7 + 6, none⟩ = some (.int .i64 n.y)
/-- A slice that reads as the steps ss. -/
def SsIn (w : World) (v : Value) (ss : List St) : Prop := ∃ a cap, v = .slice a ss.length cap ∧ ss.length ≤ maxLen ∧ (ss = [] ∨ ∃ b off, a = some ⟨b, off, none⟩ ∧ b < w.heap.size ∧ SsAt w b off ss)
theorem SsAt.below {w w' : World} {B b off : Nat} {ss : List St} (h : SsAt w b off ss) (hb : Below B w w') (hlt : b < B) : SsAt w' b off ss := by
  intro i n hn
  obtain ⟨h0, h1, h2, h3, h4, h5, h6⟩ := h i n hn
  exact ⟨(hb.cell (p := ⟨b, _, none⟩) hlt).trans h0, (hb.cell (p := ⟨b, _, none⟩) hlt).trans h1, (hb.cell (p := ⟨b, _, none⟩) hlt).trans h2, (hb.cell (p := ⟨b, _, none⟩) hlt).trans h3, (hb.cell (p := ⟨b, _, none⟩) hlt).trans h4, (hb.cell (p := ⟨b, _, none⟩) hlt).trans h5, (hb.cell (p := ⟨b, _, none⟩) hlt).trans h6⟩
theorem SsIn.below {w w' : World} {v : Value} {ss : List St} (h : SsIn w v ss) (hb : Below w.heap.size w w') : SsIn w' v ss := by
  obtain ⟨a, cap, rfl, hm, h | ⟨b, off, rfl, hlt, hn⟩⟩ := h
  · exact ⟨a, cap, rfl, hm, Or.inl h⟩
  · exact ⟨_, cap, rfl, hm, Or.inr ⟨b, off, rfl, Nat.lt_of_lt_of_le hlt hb.size, hn.below hb hlt⟩⟩
theorem ssIn_form {w : World} {v : Value} {ss : List St} (h : SsIn w v ss) : ∃ a cap, v = .slice a ss.length cap ∧ ss.length ≤ maxLen := by
  obtain ⟨a, cap, h1, h2, _⟩ := h
  exact ⟨a, cap, h1, h2⟩
theorem ssIn_nil (w : World) : SsIn w (.slice none 0 0) [] := ⟨none, 0, rfl, by simp, Or.inl rfl⟩
/-- A number is none that may be, of a step of a program of N. -/
abbrev stRange (N : Nat) (s : St) : Prop := s.op < 1 ∨ 5 < s.op ∨ (s.op ≠ 5 ∧ (s.x < 0 ∨ (N : Int) ≤ s.x)) ∨ (s.op = 2 ∧ (s.y < 0 ∨ (N : Int) ≤ s.y))
/-- A field that its Op has not is not 0. -/
abbrev stShape (s : St) : Prop := (s.op ≠ 1 ∧ ¬ s.c.eqb z4 = true) ∨ (s.op ≠ 2 ∧ s.y ≠ 0) ∨ (s.op = 5 ∧ s.x ≠ 0)
def stBad (N : Nat) (s : St) : Int := if stRange N s then 1 else if stShape s then 2 else 0
def stScan (N : Nat) : List St → Int
  | [] => 0
  | s :: r => if stBad N s = 0 then stScan N r else stBad N s
/-- What is wrong with a program. -/
def stepsF (ss : List St) : Int := if 200 < ss.length then 3 else if ss.length = 0 then 4 else stScan ss.length ss
theorem stBad_range {N : Nat} {s : St} (h : stRange N s) : stBad N s = 1 := by unfold stBad; rw [if_pos h]
theorem stBad_shape {N : Nat} {s : St} (h : ¬ stRange N s) (h2 : stShape s) : stBad N s = 2 := by unfold stBad; rw [if_neg h, if_pos h2]
theorem stBad_ok {N : Nat} {s : St} (h : ¬ stRange N s) (h2 : ¬ stShape s) : stBad N s = 0 := by unfold stBad; rw [if_neg h, if_neg h2]
theorem stBad_zero {N : Nat} {s : St} (h : stBad N s = 0) : ¬ stRange N s ∧ ¬ stShape s := by
  unfold stBad at h
  by_cases h1 : stRange N s
  · rw [if_pos h1] at h; cases h
  · rw [if_neg h1] at h
    by_cases h2 : stShape s
    · rw [if_pos h2] at h; cases h
    · exact ⟨h1, h2⟩
theorem stScan_drop (N : Nat) : ∀ (ss : List St) (i : Nat) (n : St), ss[i]? = some n → stScan N (ss.drop i) = if stBad N n = 0 then stScan N (ss.drop (i + 1)) else stBad N n
  | [], i, n, h => by simp at h
  | s :: r, 0, n, h => by
    simp at h
    subst h
    rfl
  | s :: r, i + 1, n, h => by
    rw [List.drop_succ_cons, List.drop_succ_cons]
    exact stScan_drop N r i n (by simpa using h)
theorem stScan_all (N : Nat) : ∀ (ss : List St), stScan N ss = 0 → ∀ s ∈ ss, stBad N s = 0
  | [], _, s, hs => by cases hs
  | a :: r, h, s, hs => by
    unfold stScan at h
    by_cases h0 : stBad N a = 0
    · rw [if_pos h0] at h
      rcases List.mem_cons.1 hs with rfl | hs
      · exact h0
      · exact stScan_all N r h s hs
    · rw [if_neg h0] at h
      exact absurd h h0
theorem stepsF_zero {ss : List St} (h : stepsF ss = 0) : ss.length ≤ 200 ∧ 0 < ss.length ∧ ∀ s ∈ ss, ¬ stRange ss.length s ∧ ¬ stShape s := by
  unfold stepsF at h
  by_cases h1 : 200 < ss.length
  · rw [if_pos h1] at h; cases h
  · rw [if_neg h1] at h
    by_cases h2 : ss.length = 0
    · rw [if_pos h2] at h; cases h
    · rw [if_neg h2] at h
      exact ⟨by omega, by omega, fun s hs => stBad_zero (stScan_all _ _ h s hs)⟩
def SsOk (ss : List St) : Prop := ∀ s ∈ ss, s.c.ok
end Go.Proofs.YtphcncgdodhlbaaDoor
namespace Go.Proofs.YtphcncgdodhlbaaDoor
set_option linter.unusedSimpArgs false
set_option linter.unusedVariables false
set_option maxRecDepth 100000
open Go.RowKit
/-- A step that is not known yet. -/
abbrev stZ : St := ⟨0, z4, 0, 0⟩
/-- A fork. -/
abbrev stF (x y : Nat) : St := ⟨2, z4, x, y⟩
/-- The last step. -/
abbrev stD : St := ⟨5, z4, 0, 0⟩
/-- The steps of a tree, the first of them being step p. -/
def Rx.cod : Rx → Nat → List St
  | .leaf n, p => if n.op = 1 then [⟨1, n.c, ((p + 1 : Nat) : Int), 0⟩] else if n.op = 8 then [⟨3, z4, ((p + 1 : Nat) : Int), 0⟩] else if n.op = 9 then [⟨4, z4, ((p + 1 : Nat) : Int), 0⟩] else []
  | .one n a, p =>
    if n.op = 5 then stF (p + 1) (p + 1 + (a.cod (p + 1)).length + 1) :: (a.cod (p + 1) ++ [stF (p + 1) (p + 1 + (a.cod (p + 1)).length + 1)])
    else if n.op = 6 then a.cod p ++ [stF p (p + (a.cod p).length + 1)]
    else stF (p + 1) (p + 1 + (a.cod (p + 1)).length) :: a.cod (p + 1)
  | .two n a b, p =>
    if n.op = 3 then a.cod p ++ b.cod (p + (a.cod p).length)
    else stF (p + 1) (p + 1 + (a.cod (p + 1)).length + 1) :: (a.cod (p + 1) ++ (stF (p + 1 + (a.cod (p + 1)).length + 1 + (b.cod (p + 1 + (a.cod (p + 1)).length + 1)).length) (p + 1 + (a.cod (p + 1)).length + 1 + (b.cod (p + 1 + (a.cod (p + 1)).length + 1)).length) :: b.cod (p + 1 + (a.cod (p + 1)).length + 1)))
theorem Rx.cod_len : ∀ (t : Rx) (p : Nat), (t.cod p).length ≤ 2 * t.flat.length
  | .leaf n, p => by
    simp only [Rx.cod, Rx.flat]
    repeat' split
    all_goals simp
  | .one n a, p => by
    have h1 := a.cod_len p
    have h2 := a.cod_len (p + 1)
    simp only [Rx.cod, Rx.flat]
    repeat' split
    all_goals simp
    all_goals omega
  | .two n a b, p => by
    have h1 := a.cod_len p
    have h2 := a.cod_len (p + 1)
    have h3 := b.cod_len (p + (a.cod p).length)
    have h4 := b.cod_len (p + 1 + (a.cod (p + 1)).length + 1)
    simp only [Rx.cod, Rx.flat]
    repeat' split
    all_goals simp
    all_goals omega
/-- The program of a tree. -/
def Rx.prog (t : Rx) : List St := t.cod 0 ++ [stD]
end Go.Proofs.YtphcncgdodhlbaaDoor
