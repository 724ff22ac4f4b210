/- Package mean: ends, from look. (Made by wip/tools/genen.py.) Package mean: Ends, of every tree. Programs: lists of steps, in memory; their faults. No function of the program. The program of a tree, as the landed package prog lays it: plain mathematics. Programs that are run, spot by spot: plain mathematics. A spot is a step's number times the places, and a place. -/
import Derived.Test.YteobcgajaebabaaDoorY07
import Derived.Test.YteobcgajaebabaaDoorY08
import Derived.Test.YteobcgajaebabaaDoorY09
import Derived.Test.YteobcgajaebabaaDoorY10
import Derived.Test.YteobcgajaebabaaDoorY02
import Derived.Test.YteobcgajaebabaaDoorY03
namespace Go.Proofs.YteobcgajaebabaaDoor
set_option linter.unusedSimpArgs false
set_option linter.unusedVariables false
set_option maxRecDepth 100000
open Go.RowKit
set_option maxHeartbeats 4000000 in
theorem ends_known (c : Cx) (i a : Nat) (p : Nat → Bool) (w : World) (hA : c.At w) (hW : c.W0.heap.size ≤ w.heap.size)
    (hl : ∀ w' : World, w'.heap[c.M]? = w.heap[c.M]? → (Instr.lookup 90 (.map (some c.M)) (spotV i a) true).run Tryd.prog w' = .ok (.tuple #[plV p, .bool true]) w') :
    Calls Tryd.prog 27 #[.pointer (some ⟨c.rb, 0, none⟩), .int .i64 (i : Int), .int .i64 (a : Int)] w fun e w' => e = .returned (plV p) ∧ c.At w' ∧ w.grownBy w' (some c.M) := by
  unfold plV at hl
  obtain ⟨rb, hrb⟩ : ∃ rb, rb = c.rb := ⟨_, rfl⟩
  obtain ⟨M, hM⟩ : ∃ M, M = c.M := ⟨_, rfl⟩
  rw [← hrb]
  have hlt := hA.lt
  have hMlt := hA.kn.lt
  rw [← hrb] at hlt
  rw [← hM] at hMlt hl
  unfold spotV at hl
  obtain ⟨w2, hw2⟩ : ∃ w2, w2 = (w.alloc (.cells #[.int .u64 0, .int .u64 0, .int .u64 0, .int .u64 0, .int .u64 0, .int .u64 0, .int .u64 0] 68)).alloc (.cells #[.int .i64 (i : Int), .int .i64 (a : Int)] 94) := ⟨_, rfl⟩
  have hZ : Hp w2 w.heap.size noP := by rw [hw2]; exact (Hp.zero _ _ rfl).alloc _
  have hs0 : w2.heap[w.heap.size + 1]? = some (.cells #[.int .i64 (i : Int), .int .i64 (a : Int)] 94 (0, 0)) := by
    rw [hw2]
    have := World.alloc_heap_new (w.alloc (.cells #[.int .u64 0, .int .u64 0, .int .u64 0, .int .u64 0, .int .u64 0, .int .u64 0, .int .u64 0] 68)) (.cells #[.int .i64 (i : Int), .int .i64 (a : Int)] 94)
    rwa [World.size_alloc] at this
  have hg2 : w.grownBy w2 (some M) := by rw [hw2]; exact (World.grownBy_alloc _ _ _).trans (World.grownBy_alloc _ _ _)
  have hA2 : c.At w2 := by rw [hw2]; exact (hA.alloc _).alloc _
  have hsz : w2.heap.size = w.heap.size + 2 := by rw [hw2]; simp
  have hMh : w2.heap[M]? = w.heap[M]? := by rw [hw2, Below.heap_alloc _ _ _ (by simp; omega), Below.heap_alloc _ _ _ hMlt]
  have l0 := hl w2 hMh
  have l1 : ∀ o, _ := fun o => hl (w2.alloc o) ((Below.heap_alloc w2 o M (by omega)).trans hMh)
  have l2 := hl w2.drew hMh
  have l3 : ∀ o, _ := fun o => hl (w2.alloc o).drew ((Below.heap_alloc w2 o M (by omega)).trans hMh)
  have l4 : ∀ o, _ := fun o => hl (w2.drew.alloc o) ((Below.heap_alloc w2 o M (by omega)).trans hMh)
  have s0 : w2.cell? ⟨w.heap.size + 1, 0, none⟩ = some (.int .i64 (i : Int)) := by rw [Lib.cell_of_heap hs0]; rfl
  have s1 : w2.cell? ⟨w.heap.size + 1, 1, none⟩ = some (.int .i64 (a : Int)) := by rw [Lib.cell_of_heap hs0]; rfl
  have s2 : ∀ o, (w2.alloc o).cell? ⟨w.heap.size + 1, 0, none⟩ = some (.int .i64 (i : Int)) := fun o => by rw [Lib.cell_of_heap ((Below.heap_alloc w2 o _ (by omega)).trans hs0)]; rfl
  have s3 : ∀ o, (w2.alloc o).cell? ⟨w.heap.size + 1, 1, none⟩ = some (.int .i64 (a : Int)) := fun o => by rw [Lib.cell_of_heap ((Below.heap_alloc w2 o _ (by omega)).trans hs0)]; rfl
  have d0 : w2.cell? ⟨rb, 2, none⟩ = some (.map (some M)) := by rw [hrb, hM]; exact hA2.c2
  have d1 : ∀ o, (w2.alloc o).cell? ⟨rb, 2, none⟩ = some (.map (some M)) := fun o => by rw [hrb, hM]; exact (hA2.alloc o).c2
  replace hrb := hid hrb
  replace hM := hid hM
  clear hl
  go_enter Tryd.func27, Tryd.ntmps27
  go_wp2_with fail
  rw [← hw2]
  clear hw2
  go_region
  clear l0 l1 l2 l3 l4 s0 s1 s2 s3 d0 d1
  have h3 : Hp (w2.alloc (.cells #[.int .u64 (wd p 0), .int .u64 (wd p 1), .int .u64 (wd p 2), .int .u64 (wd p 3), .int .u64 (wd p 4), .int .u64 (wd p 5), .int .u64 (wd p 6)] 68)).drew w.heap.size noP := (hZ.alloc _).drew
  have hA3 : c.At (w2.alloc (.cells #[.int .u64 (wd p 0), .int .u64 (wd p 1), .int .u64 (wd p 2), .int .u64 (wd p 3), .int .u64 (wd p 4), .int .u64 (wd p 5), .int .u64 (wd p 6)] 68)).drew := (hA2.alloc _).drew
  have hg3 : w.grownBy (w2.alloc (.cells #[.int .u64 (wd p 0), .int .u64 (wd p 1), .int .u64 (wd p 2), .int .u64 (wd p 3), .int .u64 (wd p 4), .int .u64 (wd p 5), .int .u64 (wd p 6)] 68)).drew (some M) := grown_drew (hg2.trans (World.grownBy_alloc w2 _ _))
  have hs3 : (w2.alloc (.cells #[.int .u64 (wd p 0), .int .u64 (wd p 1), .int .u64 (wd p 2), .int .u64 (wd p 3), .int .u64 (wd p 4), .int .u64 (wd p 5), .int .u64 (wd p 6)] 68)).drew.heap[w.heap.size + 1]? = some (.cells #[.int .i64 (i : Int), .int .i64 (a : Int)] 94 (0, 0)) := (Below.heap_alloc w2 _ _ (by omega)).trans hs0
  have hz3 : (w2.alloc (.cells #[.int .u64 (wd p 0), .int .u64 (wd p 1), .int .u64 (wd p 2), .int .u64 (wd p 3), .int .u64 (wd p 4), .int .u64 (wd p 5), .int .u64 (wd p 6)] 68)).drew.heap.size = w.heap.size + 3 := by
    show (w2.alloc _).heap.size = _
    rw [World.size_alloc, hsz]
  have hP3 : Hp (w2.alloc (.cells #[.int .u64 (wd p 0), .int .u64 (wd p 1), .int .u64 (wd p 2), .int .u64 (wd p 3), .int .u64 (wd p 4), .int .u64 (wd p 5), .int .u64 (wd p 6)] 68)).drew (w.heap.size + 2) p := (Hp.new w2 p _ hsz.symm).drew
  clear hZ hs0 hg2 hA2 hs3
  generalize (w2.alloc (.cells #[.int .u64 (wd p 0), .int .u64 (wd p 1), .int .u64 (wd p 2), .int .u64 (wd p 3), .int .u64 (wd p 4), .int .u64 (wd p 5), .int .u64 (wd p 6)] 68)).drew = w3 at *
  clear hMh hsz
  obtain ⟨c0, c1, c2, c3, c4, c5, c6⟩ := hP3.all
  obtain ⟨d0, d1, d2, d3, d4, d5, d6⟩ := h3.all
  obtain ⟨f0, f1, f2, f3, f4, f5, f6⟩ := h3.frz
  go_wp2
  have hq := h3.put7 p
  obtain ⟨e0, e1, e2, e3, e4, e5, e6⟩ := hq.all
  rw [hM.out] at hMlt
  rw [hrb.out] at hlt
  refine bodyPost_ret (v := plV p) (by simp [results, Tryd.results27, go_sem, plV, e0, e1, e2, e3, e4, e5, e6]) rfl ⟨rfl, hA3.turn (grown_put7 _ _ _) (fun r e => by cases e; exact ⟨hW, by omega, by omega⟩), ?_⟩
  rw [← hM.out]
  exact grown_new hg3 (grown_put7 w3 w.heap.size p) (Nat.le_refl _)
set_option maxHeartbeats 4000000 in
theorem ends_new (c : Cx) (i a : Nat) (hi : i < 60) (ha : a < 401) (p : Nat → Bool) (hok : c.ok i a (plV p)) (hcM : c.W0.heap.size ≤ c.M) (hne : c.rb ≠ c.M) (w : World) (hA : c.At w) (hW : c.W0.heap.size ≤ w.heap.size)
    (hL : ∀ w, c.At w → Calls Tryd.prog 40 #[.pointer (some ⟨c.rb, 0, none⟩), .int .i64 (i : Int), .int .i64 (a : Int)] w fun e w' => e = .returned (plV p) ∧ c.At w' ∧ w.grownBy w' (some c.M))
    (hl : ∀ w' : World, w'.heap[c.M]? = w.heap[c.M]? → (Instr.lookup 90 (.map (some c.M)) (spotV i a) true).run Tryd.prog w' = .ok (.tuple #[.agg #[.int .u64 0, .int .u64 0, .int .u64 0, .int .u64 0, .int .u64 0, .int .u64 0, .int .u64 0], .bool false]) w') :
    Calls Tryd.prog 27 #[.pointer (some ⟨c.rb, 0, none⟩), .int .i64 (i : Int), .int .i64 (a : Int)] w fun e w' => e = .returned (plV p) ∧ c.At w' ∧ w.grownBy w' (some c.M) := by
  replace hL := hid hL
  obtain ⟨rb, hrb⟩ : ∃ rb, rb = c.rb := ⟨_, rfl⟩
  obtain ⟨M, hM⟩ : ∃ M, M = c.M := ⟨_, rfl⟩
  rw [← hrb]
  have hlt := hA.lt
  have hMlt := hA.kn.lt
  rw [← hrb] at hlt
  rw [← hM] at hMlt hl
  unfold spotV at hl
  obtain ⟨w2, hw2⟩ : ∃ w2, w2 = (w.alloc (.cells #[.int .u64 0, .int .u64 0, .int .u64 0, .int .u64 0, .int .u64 0, .int .u64 0, .int .u64 0] 68)).alloc (.cells #[.int .i64 (i : Int), .int .i64 (a : Int)] 94) := ⟨_, rfl⟩
  have hZ : Hp w2 w.heap.size noP := by rw [hw2]; exact (Hp.zero _ _ rfl).alloc _
  have hs0 : w2.heap[w.heap.size + 1]? = some (.cells #[.int .i64 (i : Int), .int .i64 (a : Int)] 94 (0, 0)) := by
    rw [hw2]
    have := World.alloc_heap_new (w.alloc (.cells #[.int .u64 0, .int .u64 0, .int .u64 0, .int .u64 0, .int .u64 0, .int .u64 0, .int .u64 0] 68)) (.cells #[.int .i64 (i : Int), .int .i64 (a : Int)] 94)
    rwa [World.size_alloc] at this
  have hg2 : w.grownBy w2 (some M) := by rw [hw2]; exact (World.grownBy_alloc _ _ _).trans (World.grownBy_alloc _ _ _)
  have hA2 : c.At w2 := by rw [hw2]; exact (hA.alloc _).alloc _
  have hsz : w2.heap.size = w.heap.size + 2 := by rw [hw2]; simp
  have hMh : w2.heap[M]? = w.heap[M]? := by rw [hw2, Below.heap_alloc _ _ _ (by simp; omega), Below.heap_alloc _ _ _ hMlt]
  have l0 := hl w2 hMh
  have l1 : ∀ o, _ := fun o => hl (w2.alloc o) ((Below.heap_alloc w2 o M (by omega)).trans hMh)
  have l2 := hl w2.drew hMh
  have l3 : ∀ o, _ := fun o => hl (w2.alloc o).drew ((Below.heap_alloc w2 o M (by omega)).trans hMh)
  have l4 : ∀ o, _ := fun o => hl (w2.drew.alloc o) ((Below.heap_alloc w2 o M (by omega)).trans hMh)
  have s0 : w2.cell? ⟨w.heap.size + 1, 0, none⟩ = some (.int .i64 (i : Int)) := by rw [Lib.cell_of_heap hs0]; rfl
  have s1 : w2.cell? ⟨w.heap.size + 1, 1, none⟩ = some (.int .i64 (a : Int)) := by rw [Lib.cell_of_heap hs0]; rfl
  have s2 : ∀ o, (w2.alloc o).cell? ⟨w.heap.size + 1, 0, none⟩ = some (.int .i64 (i : Int)) := fun o => by rw [Lib.cell_of_heap ((Below.heap_alloc w2 o _ (by omega)).trans hs0)]; rfl
  have s3 : ∀ o, (w2.alloc o).cell? ⟨w.heap.size + 1, 1, none⟩ = some (.int .i64 (a : Int)) := fun o => by rw [Lib.cell_of_heap ((Below.heap_alloc w2 o _ (by omega)).trans hs0)]; rfl
  have d0 : w2.cell? ⟨rb, 2, none⟩ = some (.map (some M)) := by rw [hrb, hM]; exact hA2.c2
  have d1 : ∀ o, (w2.alloc o).cell? ⟨rb, 2, none⟩ = some (.map (some M)) := fun o => by rw [hrb, hM]; exact (hA2.alloc o).c2
  replace hrb := hid hrb
  replace hM := hid hM
  clear hl
  go_enter Tryd.func27, Tryd.ntmps27
  go_wp2_with fail
  rw [← hw2]
  clear hw2
  go_region
  clear l0 l1 l2 l3 l4 s0 s1 s2 s3 d0 d1
  have h3 : Hp (w2.alloc (.cells #[.int .u64 0, .int .u64 0, .int .u64 0, .int .u64 0, .int .u64 0, .int .u64 0, .int .u64 0] 68)).drew w.heap.size noP := (hZ.alloc _).drew
  have hA3 : c.At (w2.alloc (.cells #[.int .u64 0, .int .u64 0, .int .u64 0, .int .u64 0, .int .u64 0, .int .u64 0, .int .u64 0] 68)).drew := (hA2.alloc _).drew
  have hg3 : w.grownBy (w2.alloc (.cells #[.int .u64 0, .int .u64 0, .int .u64 0, .int .u64 0, .int .u64 0, .int .u64 0, .int .u64 0] 68)).drew (some M) := grown_drew (hg2.trans (World.grownBy_alloc w2 _ _))
  have hs3 : (w2.alloc (.cells #[.int .u64 0, .int .u64 0, .int .u64 0, .int .u64 0, .int .u64 0, .int .u64 0, .int .u64 0] 68)).drew.heap[w.heap.size + 1]? = some (.cells #[.int .i64 (i : Int), .int .i64 (a : Int)] 94 (0, 0)) := (Below.heap_alloc w2 _ _ (by omega)).trans hs0
  have hz3 : (w2.alloc (.cells #[.int .u64 0, .int .u64 0, .int .u64 0, .int .u64 0, .int .u64 0, .int .u64 0, .int .u64 0] 68)).drew.heap.size = w.heap.size + 3 := by
    show (w2.alloc _).heap.size = _
    rw [World.size_alloc, hsz]
  clear hZ hs0 hg2 hA2
  generalize (w2.alloc (.cells #[.int .u64 0, .int .u64 0, .int .u64 0, .int .u64 0, .int .u64 0, .int .u64 0, .int .u64 0] 68)).drew = w3 at *
  clear hMh hsz
  go_wp2_with fail
  rw [hrb.out]
  refine (hL.out _ hA3).mono ?_
  rintro e w4 ⟨rfl, hA4, hg4⟩
  rw [← hrb.out]
  have h4 := h3.grown hg4 (by rw [← hM.out]; simp; omega)
  have hs4 := (hg4.block (w.heap.size + 1) (by omega) (by rw [← hM.out]; simp; omega)).trans hs3
  have hz4 := hg4.size
  clear hL h3 hs3 hA3
  obtain ⟨w5, hw5⟩ : ∃ w5, w5 = w4.alloc (.cells #[.int .u64 (wd p 0), .int .u64 (wd p 1), .int .u64 (wd p 2), .int .u64 (wd p 3), .int .u64 (wd p 4), .int .u64 (wd p 5), .int .u64 (wd p 6)] 68) := ⟨_, rfl⟩
  have hP5 : Hp w5 w4.heap.size p := by rw [hw5]; exact Hp.new w4 p _ rfl
  have h5 : Hp w5 w.heap.size noP := by rw [hw5]; exact h4.alloc _
  have hA5 : c.At w5 := by rw [hw5]; exact hA4.alloc _
  have hg5 : w4.grownBy w5 (some M) := by rw [hw5]; exact World.grownBy_alloc _ _ _
  have hs5 : w5.heap[w.heap.size + 1]? = some (.cells #[.int .i64 (i : Int), .int .i64 (a : Int)] 94 (0, 0)) := by rw [hw5]; exact (Below.heap_alloc w4 _ _ (by omega)).trans hs4
  have hz5 : w5.heap.size = w4.heap.size + 1 := by rw [hw5]; simp
  have s0 : w5.cell? ⟨w.heap.size + 1, 0, none⟩ = some (.int .i64 (i : Int)) := by rw [Lib.cell_of_heap hs5]; rfl
  have s1 : w5.cell? ⟨w.heap.size + 1, 1, none⟩ = some (.int .i64 (a : Int)) := by rw [Lib.cell_of_heap hs5]; rfl
  have d0 : w5.cell? ⟨rb, 2, none⟩ = some (.map (some M)) := by rw [hrb.out, hM.out]; exact hA5.c2
  obtain ⟨c0, c1, c2, c3, c4, c5, c6⟩ := hP5.all
  obtain ⟨w6, hrun, hk6, hg6⟩ := hA5.drew.kn.store i a (plV p) hi ha hok
  rw [← hM.out] at hrun hg6
  replace hk6 := hid hk6
  unfold spotV plV at hrun
  unfold plV
  go_wp2_with fail
  rw [← hw5]
  clear hw5
  go_region
  have hA6 : c.At w6 := ⟨hA5.drew.bel.grown hg6 hA5.bel.size (fun k e => by cases e; rw [hM.out]; exact hcM), (hg6.block c.rb hA5.lt (by rw [hM.out]; simpa using hne)).trans hA5.rd, hk6.out⟩
  have hP6 : Hp w6 w4.heap.size p := hP5.drew.grown hg6 (by simp; omega)
  have h6 : Hp w6 w.heap.size noP := h5.drew.grown hg6 (by simp; omega)
  have hgw : w.grownBy w6 (some M) := ((hg3.trans (by rw [hM.out]; exact hg4)).trans (grown_drew hg5)).trans hg6
  clear s0 s1 d0 c0 c1 c2 c3 c4 c5 c6 hrun hk6 hP5 h5 hA5 hA4 h4 hs4 hs5 hok
  obtain ⟨c0, c1, c2, c3, c4, c5, c6⟩ := hP6.all
  obtain ⟨d0, d1, d2, d3, d4, d5, d6⟩ := h6.all
  obtain ⟨f0, f1, f2, f3, f4, f5, f6⟩ := h6.frz
  go_wp2
  have hq := h6.put7 p
  obtain ⟨e0, e1, e2, e3, e4, e5, e6⟩ := hq.all
  rw [hM.out] at hMlt
  rw [hrb.out] at hlt
  refine bodyPost_ret (v := plV p) (by simp [results, Tryd.results27, go_sem, plV, e0, e1, e2, e3, e4, e5, e6]) rfl ⟨rfl, hA6.turn (grown_put7 _ _ _) (fun r e => by cases e; exact ⟨hW, by omega, by omega⟩), ?_⟩
  rw [← hM.out]
  exact grown_new hgw (grown_put7 w6 w.heap.size p) (Nat.le_refl _)
theorem ends_of {c : Cx} (hc : c.Good) {t : Rx} (ht : t.Ok) {p q : List Nd} (hns : c.ns = p ++ t.flat ++ q) (a : Nat) (ha : a ≤ c.s.size) (hL : LookOk c t p.length a) : EndsOk c t p.length a := by
  intro w hA
  have h1 := flat_lt hns
  have h2 := hc.len
  have h3 := hc.size
  have hW := hA.bel.size
  rcases hA.kn.look p.length a (by omega) (by omega) with ⟨x, hx, hl⟩ | hl
  · rw [Cx.ok_one ht hns hx] at hl
    exact ends_known c _ a _ w hA hW hl
  · exact ends_new c _ a (by omega) (by omega) _ ⟨t, p, q, ht, hns, rfl, ha, rfl⟩ hc.hM hc.ne w hA hW hL hl
end Go.Proofs.YteobcgajaebabaaDoor
namespace Go.Proofs.YteobcgajaebabaaDoor
set_option linter.unusedSimpArgs false
set_option linter.unusedVariables false
set_option maxRecDepth 100000
open Go.RowKit
theorem op_range {c : Cx} (hc : c.Good) {n : Nd} (h : n ∈ c.ns) : 1 ≤ n.op ∧ n.op ≤ 9 := (((faultL_zero c.ns).1 hc.fault).2.1 n h).1
/-- ends, at every tree of a pattern that may be, from every place. -/
theorem ends_tree {c : Cx} (hc : c.Good) : ∀ (t : Rx), t.Ok → ∀ (p q : List Nd), c.ns = p ++ t.flat ++ q → ∀ a, a ≤ c.s.size → EndsOk c t p.length a
  | .leaf n, ht, p, q, hns, a, ha => by
    have hr := op_range hc (n := n) (by rw [hns]; simp [Rx.flat])
    have hp : prt n.op = 0 := ht
    refine ends_of hc ht hns a ha ?_
    by_cases h1 : n.op = 1
    · by_cases hin : a < c.s.size
      · exact look_byteIn hc n hns h1 a ha hin
      · exact look_byteOut hc n hns h1 a ha (by omega)
    · by_cases h8 : n.op = 8
      · exact look_begin hc n hns h8 a ha
      · by_cases h9 : n.op = 9
        · exact look_end hc n hns h9 a ha
        · have h2 : n.op = 2 := by
            unfold prt at hp
            split at hp
            · cases hp
            · split at hp
              · cases hp
              · omega
          exact look_empty hc n hns h2 a ha
  | .one n t, ht, p, q, hns, a, ha => by
    have hp : prt n.op = 1 := ht.1
    have hns2 : c.ns = (p ++ [n]) ++ t.flat ++ q := by rw [hns]; simp [Rx.flat]
    have EA : ∀ k, k ≤ c.s.size → EndsOk c t (p.length + 1) k := fun k hk => by
      have := ends_tree hc t ht.2 (p ++ [n]) q hns2 k hk
      rwa [show (p ++ [n]).length = p.length + 1 by simp] at this
    have hop : n.op = 5 ∨ n.op = 6 ∨ n.op = 7 := by
      unfold prt at hp
      split at hp
      · cases hp
      · split at hp
        · assumption
        · cases hp
    have key : ∀ d k, k ≤ c.s.size → c.s.size - k ≤ d → EndsOk c (.one n t) p.length k := by
      intro d
      induction d with
      | zero =>
        intro k hk hd
        have ES : ∀ j, k < j → j ≤ c.s.size → EndsOk c (.one n t) p.length j := fun j h1 h2 => absurd h2 (by omega)
        refine ends_of hc ht hns k hk ?_
        rcases hop with h | h | h
        · exact look_star hc n t hns h k hk (EA k hk) ES
        · exact look_plus hc n t hns h k hk (EA k hk) ES
        · exact look_opt hc n t hns h k hk (EA k hk)
      | succ d ih =>
        intro k hk hd
        have ES : ∀ j, k < j → j ≤ c.s.size → EndsOk c (.one n t) p.length j := fun j h1 h2 => ih j h2 (by omega)
        refine ends_of hc ht hns k hk ?_
        rcases hop with h | h | h
        · exact look_star hc n t hns h k hk (EA k hk) ES
        · exact look_plus hc n t hns h k hk (EA k hk) ES
        · exact look_opt hc n t hns h k hk (EA k hk)
    exact key _ a ha (Nat.le_refl _)
  | .two n t u, ht, p, q, hns, a, ha => by
    have hp : prt n.op = 2 := ht.1
    have hns2 : c.ns = (p ++ [n]) ++ t.flat ++ (u.flat ++ q) := by rw [hns]; simp [Rx.flat]
    have hns3 : c.ns = (p ++ [n] ++ t.flat) ++ u.flat ++ q := by rw [hns]; simp [Rx.flat]
    have EA : EndsOk c t (p.length + 1) a := by
      have := ends_tree hc t ht.2.1 (p ++ [n]) _ hns2 a ha
      rwa [show (p ++ [n]).length = p.length + 1 by simp] at this
    have EB : ∀ k, k ≤ c.s.size → EndsOk c u (p.length + 1 + t.flat.length) k := fun k hk => by
      have := ends_tree hc u ht.2.2 (p ++ [n] ++ t.flat) _ hns3 k hk
      rwa [show (p ++ [n] ++ t.flat).length = p.length + 1 + t.flat.length by simp; omega] at this
    have hop : n.op = 3 ∨ n.op = 4 := by
      unfold prt at hp
      split at hp
      · assumption
      · split at hp <;> cases hp
    refine ends_of hc ht hns a ha ?_
    rcases hop with h | h
    · exact look_cat hc n t u ht hns h a ha EA EB
    · exact look_or hc n t u ht hns h a ha EA (EB a ha)
/-- A reader that is new. -/
theorem cx_new {w1 : World} {b off cap : Nat} {t : Rx} (hn : NsAt w1 b off t.flat) (hlt : b < w1.heap.size) (hf : faultL t.flat = 0) (hw : ∀ n ∈ t.flat, n.wf) (s : ByteArray) (hs : s.size ≤ 400) (hT : Tab w1) :
    (Cx.mk w1 (w1.heap.size + 1) w1.heap.size b off cap t.flat s).Good ∧ (Cx.mk w1 (w1.heap.size + 1) w1.heap.size b off cap t.flat s).At ((w1.alloc (.map #[] 0)).alloc (.cells #[.slice (some ⟨b, off, none⟩) t.flat.length cap, .string s, .map (some w1.heap.size)] 92)) := by
  refine ⟨⟨hn, hlt, hf, hw, hs, hT, Nat.le_succ _, Nat.le_refl _, by simp⟩, ⟨((Below.refl _ w1).alloc (Nat.le_refl _) _).alloc (by simp) _, ?_, ?_⟩⟩
  · have := World.alloc_heap_new (w1.alloc (.map #[] 0)) (.cells #[.slice (some ⟨b, off, none⟩) t.flat.length cap, .string s, .map (some w1.heap.size)] 92)
    rwa [World.size_alloc] at this
  · exact (Kn.made w1 _).kept (World.grownBy_alloc _ _ none) (by simp)
set_option maxHeartbeats 4000000 in
theorem mends_any (t : Rx) (v : Value) (s : ByteArray) (i : Nat) (l : List Nat) (w : World) (hT : Tab w) (ht : t.Ok) (hN : NsIn w v t.flat) (hw : ∀ n ∈ t.flat, n.wf) (hE : meanE t.flat s.size i = 0) (hl : EndsR s.data.toList t i l) :
    Calls Tryd.prog 15 #[v, .string s, .int .i64 (i : Int)] w fun e w' => ∃ u, e = .returned (.tuple #[u, .nilIface]) ∧ Below w.heap.size w w' ∧ IsIn w' u l := by
  obtain ⟨hf, h4, _, hi⟩ := (meanE_zero _ _ _).1 hE
  have C := mcheck_any t.flat v s w hN (by unfold maxLen; omega)
  rw [(meanF_zero _ _).2 ⟨hf, h4⟩, show errV 0 = .nilIface from rfl] at C
  replace C := hid C
  obtain ⟨a, cap, rfl, hm, h | ⟨b, off, rfl, hlt, hn⟩⟩ := hN
  · exact absurd t.flat_pos (by rw [h]; simp)
  have i0 : (0 : Int) ≤ (i : Int) := by omega
  have i1 : (i : Int) ≤ (s.size : Int) := by omega
  have hle := el_ends hl (by rw [Array.length_toList]; exact h4)
  have HX : Hid (∀ w1, Below w.heap.size w w1 → (Cx.mk w1 (w1.heap.size + 1) w1.heap.size b off cap t.flat s).Good ∧ (Cx.mk w1 (w1.heap.size + 1) w1.heap.size b off cap t.flat s).At ((w1.alloc (.map #[] 0)).alloc (.cells #[.slice (some ⟨b, off, none⟩) t.flat.length cap, .string s, .map (some w1.heap.size)] 92))) := fun w1 hb => cx_new (hn.below hb hlt) (Nat.lt_of_lt_of_le hlt hb.size) hf hw s h4 (hT.below hb (Nat.le_refl _))
  have hi' : i ≤ s.size := by omega
  replace hT := hid hT
  replace hle := hid hle
  clear hn hE hl hw
  go_enter Tryd.func15, Tryd.ntmps15
  go_wp2_with fail
  refine C.out.mono ?_
  rintro e w1 ⟨rfl, hb⟩
  obtain ⟨hG, hA⟩ := HX.out w1 hb
  have HE := hid (ends_tree hG t ht [] [] (by simp) i hi' _ hA)
  replace hA := hid hA
  replace hG := hid hG
  replace hb := hid hb
  clear HX C
  go_wp2_with fail
  refine (reading_any _ _ _ _ _).mono ?_
  rintro e w2 ⟨rfl, rfl⟩
  go_wp2_with fail
  refine Calls.mono HE.out ?_
  rintro e w3 ⟨rfl, hA3, _⟩
  have hB3 := hid (hb.out.trans (hA3.bel.mono hb.out.size))
  have CC := hid (collect_any (fs s.data.toList t i) w3 (hT.out.below hB3.out (Nat.le_refl _)))
  rw [hle.out] at CC
  replace hA3 := hid hA3
  clear HE hA
  unfold plV at CC ⊢
  go_wp2_with fail
  refine CC.out.mono ?_
  rintro e w4 ⟨u, rfl, hu, hb4⟩
  obtain ⟨ua, ucap, rfl, _⟩ := isIn_form hu
  go_wp2
  go_ret2
  exact ⟨_, rfl, hB3.out.trans (hb4.mono hB3.out.size), hu⟩
set_option maxHeartbeats 4000000 in
theorem mends_bad (ns : List Nd) (v : Value) (s : ByteArray) (i : Int) (w : World) (hN : NsIn w v ns) (hs : s.size ≤ maxLen) (hE : ¬ meanE ns s.size i = 0) :
    Calls Tryd.prog 15 #[v, .string s, .int .i64 i] w fun e w' => ∃ u, e = .returned (.tuple #[u, errV (meanE ns s.size i)]) ∧ Below w.heap.size w w' ∧ IsIn w' u [] := by
  have C := hid (mcheck_any ns v s w hN hs)
  by_cases hF : meanF ns s.size = 0
  · have he : meanE ns s.size i = 1 := by
      unfold meanE at hE ⊢
      rw [if_pos hF] at hE ⊢
      by_cases h : 0 ≤ i ∧ i ≤ s.size
      · rw [if_pos h] at hE; exact absurd rfl hE
      · rw [if_neg h]
    have hout : i < 0 ∨ (s.size : Int) < i := by
      unfold meanE at hE
      rw [if_pos hF] at hE
      by_cases h : 0 ≤ i ∧ i ≤ s.size
      · rw [if_pos h] at hE; exact absurd rfl hE
      · omega
    rw [he, show errV 1 = .iface 23 (.int .i64 1) from rfl]
    rw [hF, show errV 0 = .nilIface from rfl] at C
    obtain ⟨a, cap, rfl, hm, _⟩ := hN
    clear hE he hF
    by_cases i0 : i < 0
    · clear hout
      go_enter Tryd.func15, Tryd.ntmps15
      go_wp2_with fail
      refine C.out.mono ?_
      rintro e w1 ⟨rfl, hb⟩
      go_wp2
      go_ret2
      exact ⟨_, rfl, hb, isIn_nil _⟩
    · have i1 : (s.size : Int) < i := by omega
      have i2 : 0 ≤ i := by omega
      clear hout i0
      go_enter Tryd.func15, Tryd.ntmps15
      go_wp2_with fail
      refine C.out.mono ?_
      rintro e w1 ⟨rfl, hb⟩
      go_wp2
      go_ret2
      exact ⟨_, rfl, hb, isIn_nil _⟩
  · have he : meanE ns s.size i = meanF ns s.size := by
      unfold meanE
      rw [if_neg hF]
    rw [he]
    rw [show errV (meanF ns s.size) = .iface 23 (.int .i64 (meanF ns s.size)) by unfold errV; rw [if_neg hF]] at C ⊢
    obtain ⟨a, cap, rfl, hm, _⟩ := hN
    clear hE he
    go_enter Tryd.func15, Tryd.ntmps15
    go_wp2_with fail
    refine C.out.mono ?_
    rintro e w1 ⟨rfl, hb⟩
    go_wp2
    go_ret2
    exact ⟨_, rfl, hb, isIn_nil _⟩
theorem meanN : MeanN := ⟨fun ns v s i w hN _ hs hE => mends_bad ns v s i w hN hs hE, fun t v s i l w hT ht hN hw hE hl => mends_any t v s i l w hT ht hN hw hE hl⟩
end Go.Proofs.YteobcgajaebabaaDoor
namespace Go.Proofs.YteobcgajaebabaaDoor
set_option linter.unusedSimpArgs false
set_option linter.unusedVariables false
set_option maxRecDepth 100000
open Go.RowKit

/-- A step. -/
structure St where
  op : Int
  c : C4
  x : Int
  y : Int
/-- The steps ss lie from an address on. -/
def SsAt (w : World) (b off : Nat) (ss : List St) : Prop := ∀ i n, ss[i]? = some n →
  w.cell? ⟨b, off + i * 7, none⟩ = some (.int .i64 n.op) ∧ w.cell? ⟨b, off + i * 7 + 1, none⟩ = some (.int .u64 n.c.a) ∧ w.cell? ⟨b, off + i * 7 + 2, none⟩ = some (.int .u64 n.c.b) ∧ w.cell? ⟨b, off + i * 7 + 3, none⟩ = some (.int .u64 n.c.c) ∧ w.cell? ⟨b, off + i * 7 + 4, none⟩ = some (.int .u64 n.c.d) ∧ w.cell? ⟨b, off + i * 7 + 5, none⟩ = some (.int .i64 n.x) ∧ w.cell? ⟨b, off + i * 7 + 6, none⟩ = some (.int .i64 n.y)
/-- A slice that reads as the steps ss. -/
def SsIn (w : World) (v : Value) (ss : List St) : Prop := ∃ a cap, v = .slice a ss.length cap ∧ ss.length ≤ maxLen ∧ (ss = [] ∨ ∃ b off, a = some ⟨b, off, none⟩ ∧ b < w.heap.size ∧ SsAt w b off ss)
theorem SsAt.below {w w' : World} {B b off : Nat} {ss : List St} (h : SsAt w b off ss) (hb : Below B w w') (hlt : b < B) : SsAt w' b off ss := by
  intro i n hn
  obtain ⟨h0, h1, h2, h3, h4, h5, h6⟩ := h i n hn
  exact ⟨(hb.cell (p := ⟨b, _, none⟩) hlt).trans h0, (hb.cell (p := ⟨b, _, none⟩) hlt).trans h1, (hb.cell (p := ⟨b, _, none⟩) hlt).trans h2, (hb.cell (p := ⟨b, _, none⟩) hlt).trans h3, (hb.cell (p := ⟨b, _, none⟩) hlt).trans h4, (hb.cell (p := ⟨b, _, none⟩) hlt).trans h5, (hb.cell (p := ⟨b, _, none⟩) hlt).trans h6⟩
theorem SsIn.below {w w' : World} {v : Value} {ss : List St} (h : SsIn w v ss) (hb : Below w.heap.size w w') : SsIn w' v ss := by
  obtain ⟨a, cap, rfl, hm, h | ⟨b, off, rfl, hlt, hn⟩⟩ := h
  · exact ⟨a, cap, rfl, hm, Or.inl h⟩
  · exact ⟨_, cap, rfl, hm, Or.inr ⟨b, off, rfl, Nat.lt_of_lt_of_le hlt hb.size, hn.below hb hlt⟩⟩
theorem ssIn_form {w : World} {v : Value} {ss : List St} (h : SsIn w v ss) : ∃ a cap, v = .slice a ss.length cap ∧ ss.length ≤ maxLen := by
  obtain ⟨a, cap, h1, h2, _⟩ := h
  exact ⟨a, cap, h1, h2⟩
theorem ssIn_nil (w : World) : SsIn w (.slice none 0 0) [] := ⟨none, 0, rfl, by simp, Or.inl rfl⟩
/-- A number is none that may be, of a step of a program of N. -/
abbrev stRange (N : Nat) (s : St) : Prop := s.op < 1 ∨ 5 < s.op ∨ (s.op ≠ 5 ∧ (s.x < 0 ∨ (N : Int) ≤ s.x)) ∨ (s.op = 2 ∧ (s.y < 0 ∨ (N : Int) ≤ s.y))
/-- A field that its Op has not is not 0. -/
abbrev stShape (s : St) : Prop := (s.op ≠ 1 ∧ ¬ s.c.eqb z4 = true) ∨ (s.op ≠ 2 ∧ s.y ≠ 0) ∨ (s.op = 5 ∧ s.x ≠ 0)
def stBad (N : Nat) (s : St) : Int := if stRange N s then 1 else if stShape s then 2 else 0
def stScan (N : Nat) : List St → Int
  | [] => 0
  | s :: r => if stBad N s = 0 then stScan N r else stBad N s
/-- What is wrong with a program. -/
def stepsF (ss : List St) : Int := if 200 < ss.length then 3 else if ss.length = 0 then 4 else stScan ss.length ss
theorem stBad_range {N : Nat} {s : St} (h : stRange N s) : stBad N s = 1 := by unfold stBad; rw [if_pos h]
theorem stBad_shape {N : Nat} {s : St} (h : ¬ stRange N s) (h2 : stShape s) : stBad N s = 2 := by unfold stBad; rw [if_neg h, if_pos h2]
theorem stBad_ok {N : Nat} {s : St} (h : ¬ stRange N s) (h2 : ¬ stShape s) : stBad N s = 0 := by unfold stBad; rw [if_neg h, if_neg h2]
theorem stBad_zero {N : Nat} {s : St} (h : stBad N s = 0) : ¬ stRange N s ∧ ¬ stShape s := by
  unfold stBad at h
  by_cases h1 : stRange N s
  · rw [if_pos h1] at h; cases h
  · rw [if_neg h1] at h
    by_cases h2 : stShape s
    · rw [if_pos h2] at h; cases h
    · exact ⟨h1, h2⟩
theorem stScan_drop (N : Nat) : ∀ (ss : List St) (i : Nat) (n : St), ss[i]? = some n → stScan N (ss.drop i) = if stBad N n = 0 then stScan N (ss.drop (i + 1)) else stBad N n
  | [], i, n, h => by simp at h
  | s :: r, 0, n, h => by
    simp at h
    subst h
    rfl
  | s :: r, i + 1, n, h => by
    rw [List.drop_succ_cons, List.drop_succ_cons]
    exact stScan_drop N r i n (by simpa using h)
theorem stScan_all (N : Nat) : ∀ (ss : List St), stScan N ss = 0 → ∀ s ∈ ss, stBad N s = 0
  | [], _, s, hs => by cases hs
  | a :: r, h, s, hs => by
    unfold stScan at h
    by_cases h0 : stBad N a = 0
    · rw [if_pos h0] at h
      rcases List.mem_cons.1 hs with rfl | hs
      · exact h0
      · exact stScan_all N r h s hs
    · rw [if_neg h0] at h
      exact absurd h h0
theorem stepsF_zero {ss : List St} (h : stepsF ss = 0) : ss.length ≤ 200 ∧ 0 < ss.length ∧ ∀ s ∈ ss, ¬ stRange ss.length s ∧ ¬ stShape s := by
  unfold stepsF at h
  by_cases h1 : 200 < ss.length
  · rw [if_pos h1] at h; cases h
  · rw [if_neg h1] at h
    by_cases h2 : ss.length = 0
    · rw [if_pos h2] at h; cases h
    · rw [if_neg h2] at h
      exact ⟨by omega, by omega, fun s hs => stBad_zero (stScan_all _ _ h s hs)⟩
def SsOk (ss : List St) : Prop := ∀ s ∈ ss, s.c.ok
end Go.Proofs.YteobcgajaebabaaDoor
namespace Go.Proofs.YteobcgajaebabaaDoor
set_option linter.unusedSimpArgs false
set_option linter.unusedVariables false
set_option maxRecDepth 100000
open Go.RowKit
/-- A step that is not known yet. -/
abbrev stZ : St := ⟨0, z4, 0, 0⟩
/-- A fork. -/
abbrev stF (x y : Nat) : St := ⟨2, z4, x, y⟩
/-- The last step. -/
abbrev stD : St := ⟨5, z4, 0, 0⟩
/-- The steps of a tree, the first of them being step p. -/
def Rx.cod : Rx → Nat → List St
  | .leaf n, p => if n.op = 1 then [⟨1, n.c, ((p + 1 : Nat) : Int), 0⟩] else if n.op = 8 then [⟨3, z4, ((p + 1 : Nat) : Int), 0⟩] else if n.op = 9 then [⟨4, z4, ((p + 1 : Nat) : Int), 0⟩] else []
  | .one n a, p =>
    if n.op = 5 then stF (p + 1) (p + 1 + (a.cod (p + 1)).length + 1) :: (a.cod (p + 1) ++ [stF (p + 1) (p + 1 + (a.cod (p + 1)).length + 1)])
    else if n.op = 6 then a.cod p ++ [stF p (p + (a.cod p).length + 1)]
    else stF (p + 1) (p + 1 + (a.cod (p + 1)).length) :: a.cod (p + 1)
  | .two n a b, p =>
    if n.op = 3 then a.cod p ++ b.cod (p + (a.cod p).length)
    else stF (p + 1) (p + 1 + (a.cod (p + 1)).length + 1) :: (a.cod (p + 1) ++ (stF (p + 1 + (a.cod (p + 1)).length + 1 + (b.cod (p + 1 + (a.cod (p + 1)).length + 1)).length) (p + 1 + (a.cod (p + 1)).length + 1 + (b.cod (p + 1 + (a.cod (p + 1)).length + 1)).length) :: b.cod (p + 1 + (a.cod (p + 1)).length + 1)))
theorem Rx.cod_len : ∀ (t : Rx) (p : Nat), (t.cod p).length ≤ 2 * t.flat.length
  | .leaf n, p => by
    simp only [Rx.cod, Rx.flat]
    repeat' split
    all_goals simp
  | .one n a, p => by
    have h1 := a.cod_len p
    have h2 := a.cod_len (p + 1)
    simp only [Rx.cod, Rx.flat]
    repeat' split
    all_goals simp
    all_goals omega
  | .two n a b, p => by
    have h1 := a.cod_len p
    have h2 := a.cod_len (p + 1)
    have h3 := b.cod_len (p + (a.cod p).length)
    have h4 := b.cod_len (p + 1 + (a.cod (p + 1)).length + 1)
    simp only [Rx.cod, Rx.flat]
    repeat' split
    all_goals simp
    all_goals omega
/-- The program of a tree. -/
def Rx.prog (t : Rx) : List St := t.cod 0 ++ [stD]
end Go.Proofs.YteobcgajaebabaaDoor
namespace Go.Proofs.YteobcgajaebabaaDoor
set_option linter.unusedSimpArgs false
set_option linter.unusedVariables false
set_option maxRecDepth 100000
open Go.RowKit

/-- The spots behind a spot. -/
def nx (ss : List St) (s : List UInt8) (q : Nat) : List Nat :=
  match ss[q / (s.length + 1)]? with
  | none => []
  | some n =>
    if n.op = 1 then
      (match s[q % (s.length + 1)]? with
       | some c => if n.c.has c.toNat = true then [n.x.toNat * (s.length + 1) + q % (s.length + 1) + 1] else []
       | none => [])
    else if n.op = 2 then [n.x.toNat * (s.length + 1) + q % (s.length + 1), n.y.toNat * (s.length + 1) + q % (s.length + 1)]
    else if n.op = 3 then (if q % (s.length + 1) = 0 then [n.x.toNat * (s.length + 1) + q % (s.length + 1)] else [])
    else if n.op = 4 then (if q % (s.length + 1) = s.length then [n.x.toNat * (s.length + 1) + q % (s.length + 1)] else [])
    else []
/-- A spot at which it is done. -/
def dn (ss : List St) (s : List UInt8) (q : Nat) : Bool :=
  match ss[q / (s.length + 1)]? with
  | none => false
  | some n => decide (n.op = 5)
/-- The spots that are come to. -/
inductive Rch (ss : List St) (s : List UInt8) (q0 : Nat) : Nat → Prop
  | base : Rch ss s q0 q0
  | step (q q' : Nat) : Rch ss s q0 q → q' ∈ nx ss s q → Rch ss s q0 q'
/-- l is all ends of a program from place i, rising. -/
def RunR (ss : List St) (s : List UInt8) (i : Nat) (l : List Nat) : Prop := l.Pairwise (· < ·) ∧ ∀ j, j ∈ l ↔ ∃ q, Rch ss s i q ∧ dn ss s q = true ∧ q % (s.length + 1) = j
theorem spot_lt {N n x a : Nat} (hx : x < N) (ha : a < n) : x * n + a < N * n := by
  have h1 : (x + 1) * n ≤ N * n := Nat.mul_le_mul_right _ hx
  rw [Nat.succ_mul] at h1
  omega
/-- Of a program that may be each spot behind one is one. -/
theorem nx_lt {ss : List St} (s : List UInt8) (h : stepsF ss = 0) {q q' : Nat} (hq : q' ∈ nx ss s q) : q' < ss.length * (s.length + 1) := by
  obtain ⟨_, _, hall⟩ := stepsF_zero h
  unfold nx at hq
  cases hn : ss[q / (s.length + 1)]? with
  | none => rw [hn] at hq; cases hq
  | some n =>
    rw [hn] at hq
    simp only at hq
    have hr := (hall n (List.mem_of_getElem? hn)).1
    have hm : q % (s.length + 1) < s.length + 1 := Nat.mod_lt _ (by omega)
    have hx : n.op ≠ 5 → n.x.toNat < ss.length := fun h5 => by
      have : ¬ (n.x < 0 ∨ (ss.length : Int) ≤ n.x) := fun h => hr (Or.inr (Or.inr (Or.inl ⟨h5, h⟩)))
      omega
    have hy : n.op = 2 → n.y.toNat < ss.length := fun h2 => by
      have : ¬ (n.y < 0 ∨ (ss.length : Int) ≤ n.y) := fun h => hr (Or.inr (Or.inr (Or.inr ⟨h2, h⟩)))
      omega
    split at hq
    · rename_i h1
      split at hq
      · rename_i c hc
        split at hq
        · rw [List.mem_singleton] at hq
          subst hq
          have hlt : q % (s.length + 1) < s.length := by
            rcases Nat.lt_or_ge (q % (s.length + 1)) s.length with h' | h'
            · exact h'
            · rw [List.getElem?_eq_none h'] at hc; cases hc
          rw [Nat.add_assoc]
          exact spot_lt (hx (by omega)) (by omega)
        · cases hq
      · cases hq
    · split at hq
      · rename_i h2
        rw [List.mem_cons, List.mem_singleton] at hq
        rcases hq with rfl | rfl
        · exact spot_lt (hx (by omega)) hm
        · exact spot_lt (hy h2) hm
      · split at hq
        · rename_i h3
          split at hq
          · rw [List.mem_singleton] at hq
            subst hq
            exact spot_lt (hx (by omega)) hm
          · cases hq
        · split at hq
          · rename_i h4
            split at hq
            · rw [List.mem_singleton] at hq
              subst hq
              exact spot_lt (hx (by omega)) hm
            · cases hq
          · cases hq
theorem rch_lt {ss : List St} {s : List UInt8} (h : stepsF ss = 0) {i : Nat} (hi : i ≤ s.length) {q : Nat} (hq : Rch ss s i q) : q < ss.length * (s.length + 1) := by
  induction hq with
  | base =>
    have := (stepsF_zero h).2.1
    have := spot_lt (N := ss.length) (n := s.length + 1) (x := 0) (a := i) this (by omega)
    omega
  | step q q' _ hn _ => exact nx_lt s h hn
/-- What holds while spots are gone through, one by one. -/
structure Bfs (ss : List St) (s : List UInt8) (q0 : Nat) (seen : Nat → Bool) (Q : List Nat) (en : Nat → Bool) : Prop where
  start : seen q0 = true
  rch : ∀ q, seen q = true → Rch ss s q0 q
  que : ∀ q ∈ Q, seen q = true
  done : ∀ q, seen q = true → q ∈ Q ∨ ((∀ q' ∈ nx ss s q, seen q' = true) ∧ (dn ss s q = true → en (q % (s.length + 1)) = true))
  sound : ∀ a, en a = true → ∃ q, Rch ss s q0 q ∧ dn ss s q = true ∧ q % (s.length + 1) = a
/-- While those behind one, q, are gone through: rest is left. -/
structure BfsM (ss : List St) (s : List UInt8) (q0 : Nat) (seen : Nat → Bool) (Q : List Nat) (en : Nat → Bool) (q : Nat) (rest : List Nat) : Prop where
  start : seen q0 = true
  rch : ∀ q, seen q = true → Rch ss s q0 q
  que : ∀ q ∈ Q, seen q = true
  mine : Rch ss s q0 q
  sub : ∀ q' ∈ rest, q' ∈ nx ss s q
  left : ∀ q' ∈ nx ss s q, seen q' = true ∨ q' ∈ rest
  tell : dn ss s q = true → en (q % (s.length + 1)) = true
  done : ∀ p, seen p = true → p = q ∨ p ∈ Q ∨ ((∀ q' ∈ nx ss s p, seen q' = true) ∧ (dn ss s p = true → en (p % (s.length + 1)) = true))
  sound : ∀ a, en a = true → ∃ q, Rch ss s q0 q ∧ dn ss s q = true ∧ q % (s.length + 1) = a
def setB (p : Nat → Bool) (a : Nat) : Nat → Bool := fun j => if j = a then true else p j
theorem setB_same (p : Nat → Bool) (a : Nat) : setB p a a = true := by simp [setB]
theorem setB_old {p : Nat → Bool} {a j : Nat} (h : p j = true) : setB p a j = true := by unfold setB; split <;> simp_all
theorem setB_or {p : Nat → Bool} {a j : Nat} (h : setB p a j = true) : j = a ∨ p j = true := by
  unfold setB at h
  split at h
  · exact Or.inl ‹_›
  · exact Or.inr h
theorem Bfs.init (ss : List St) (s : List UInt8) (q0 : Nat) : Bfs ss s q0 (setB (fun _ => false) q0) [q0] (fun _ => false) where
  start := setB_same _ _
  rch := fun q h => by
    rcases setB_or h with rfl | h
    · exact .base
    · cases h
  que := fun q h => by rw [List.mem_singleton.1 h]; exact setB_same _ _
  done := fun q h => by
    rcases setB_or h with rfl | h
    · exact Or.inl (by simp)
    · cases h
  sound := fun a h => by cases h
theorem Bfs.pop {ss : List St} {s : List UInt8} {q0 : Nat} {seen : Nat → Bool} {q : Nat} {Q : List Nat} {en : Nat → Bool} (h : Bfs ss s q0 seen (q :: Q) en) (en' : Nat → Bool) (he : en' = if dn ss s q = true then setB en (q % (s.length + 1)) else en) : BfsM ss s q0 seen Q en' q (nx ss s q) := by
  have hmono : ∀ a, en a = true → en' a = true := fun a ha => by
    rw [he]
    split
    · exact setB_old ha
    · exact ha
  have hq := h.rch q (h.que q (by simp))
  refine ⟨h.start, h.rch, fun p hp => h.que p (by simp [hp]), hq, fun _ h => h, fun _ h => Or.inr h, fun hd => ?_, fun p hp => ?_, fun a ha => ?_⟩
  · rw [he, if_pos hd]; exact setB_same _ _
  · rcases h.done p hp with hm | ⟨h1, h2⟩
    · rcases List.mem_cons.1 hm with rfl | hm
      · exact Or.inl rfl
      · exact Or.inr (Or.inl hm)
    · exact Or.inr (Or.inr ⟨h1, fun hd => hmono _ (h2 hd)⟩)
  · rw [he] at ha
    split at ha
    · rename_i hd
      rcases setB_or ha with rfl | ha
      · exact ⟨q, hq, hd, rfl⟩
      · exact h.sound a ha
    · exact h.sound a ha
theorem BfsM.skip {ss : List St} {s : List UInt8} {q0 : Nat} {seen : Nat → Bool} {q x : Nat} {Q rest : List Nat} {en : Nat → Bool} (h : BfsM ss s q0 seen Q en q (x :: rest)) (hx : seen x = true) : BfsM ss s q0 seen Q en q rest :=
  ⟨h.start, h.rch, h.que, h.mine, fun p hp => h.sub p (by simp [hp]), fun p hp => by
    rcases h.left p hp with h1 | h1
    · exact Or.inl h1
    · rcases List.mem_cons.1 h1 with rfl | h1
      · exact Or.inl hx
      · exact Or.inr h1, h.tell, h.done, h.sound⟩
theorem BfsM.add {ss : List St} {s : List UInt8} {q0 : Nat} {seen : Nat → Bool} {q x : Nat} {Q rest : List Nat} {en : Nat → Bool} (h : BfsM ss s q0 seen Q en q (x :: rest)) : BfsM ss s q0 (setB seen x) (Q ++ [x]) en q rest where
  start := setB_old h.start
  rch := fun p hp => by
    rcases setB_or hp with rfl | hp
    · exact .step q p h.mine (h.sub p (by simp))
    · exact h.rch p hp
  que := fun p hp => by
    rcases List.mem_append.1 hp with hp | hp
    · exact setB_old (h.que p hp)
    · rw [List.mem_singleton.1 hp]; exact setB_same _ _
  mine := h.mine
  sub := fun p hp => h.sub p (by simp [hp])
  left := fun p hp => by
    rcases h.left p hp with h1 | h1
    · exact Or.inl (setB_old h1)
    · rcases List.mem_cons.1 h1 with rfl | h1
      · exact Or.inl (setB_same _ _)
      · exact Or.inr h1
  tell := h.tell
  done := fun p hp => by
    rcases setB_or hp with rfl | hp
    · exact Or.inr (Or.inl (by simp))
    · rcases h.done p hp with h1 | h1 | ⟨h1, h2⟩
      · exact Or.inl h1
      · exact Or.inr (Or.inl (by simp [h1]))
      · exact Or.inr (Or.inr ⟨fun r hr => setB_old (h1 r hr), h2⟩)
  sound := h.sound
theorem BfsM.fin {ss : List St} {s : List UInt8} {q0 : Nat} {seen : Nat → Bool} {q : Nat} {Q : List Nat} {en : Nat → Bool} (h : BfsM ss s q0 seen Q en q []) : Bfs ss s q0 seen Q en :=
  ⟨h.start, h.rch, h.que, fun p hp => by
    rcases h.done p hp with rfl | h1 | h1
    · refine Or.inr ⟨fun r hr => ?_, h.tell⟩
      rcases h.left r hr with h2 | h2
      · exact h2
      · cases h2
    · exact Or.inl h1
    · exact Or.inr h1, h.sound⟩
/-- Where nothing is left all is known. -/
theorem Bfs.all {ss : List St} {s : List UInt8} {q0 : Nat} {seen : Nat → Bool} {en : Nat → Bool} (h : Bfs ss s q0 seen [] en) (j : Nat) : en j = true ↔ ∃ q, Rch ss s q0 q ∧ dn ss s q = true ∧ q % (s.length + 1) = j := by
  have hs : ∀ q, Rch ss s q0 q → seen q = true := fun q hq => by
    induction hq with
    | base => exact h.start
    | step q q' _ hn ih =>
      rcases h.done q ih with h1 | ⟨h1, _⟩
      · cases h1
      · exact h1 q' hn
  constructor
  · exact h.sound j
  · rintro ⟨q, hq, hd, rfl⟩
    rcases h.done q (hs q hq) with h1 | ⟨_, h1⟩
    · cases h1
    · exact h1 hd
/-- The ends, as a list. -/
theorem Bfs.list {ss : List St} {s : List UInt8} {i : Nat} {seen : Nat → Bool} {en : Nat → Bool} (h : Bfs ss s i seen [] en) : RunR ss s i ((List.range (s.length + 1)).filter en) := by
  refine ⟨List.Pairwise.filter _ List.pairwise_lt_range, fun j => ?_⟩
  rw [List.mem_filter, List.mem_range, ← h.all j]
  refine ⟨fun h' => h'.2, fun h' => ⟨?_, h'⟩⟩
  obtain ⟨q, _, _, rfl⟩ := h.sound j h'
  exact Nat.mod_lt _ (by omega)
end Go.Proofs.YteobcgajaebabaaDoor
