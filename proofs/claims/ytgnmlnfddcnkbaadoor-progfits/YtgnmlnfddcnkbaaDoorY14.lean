/- Package mean: ends, from look. (Made by wip/tools/genen.py.) Package mean: ends, of every tree. The library's Collect over a set of places. Package mean: Ends, of every tree. A program, all ways at once: what is come to at one place, and the next one: plain mathematics. -/
import Derived.Test.YtgnmlnfddcnkbaaDoorY10
import Derived.Test.YtgnmlnfddcnkbaaDoorY11
import Derived.Test.YtgnmlnfddcnkbaaDoorY13
import Derived.Test.YtgnmlnfddcnkbaaDoorY06
import Derived.Test.YtgnmlnfddcnkbaaDoorY05
namespace Go.Proofs.YtgnmlnfddcnkbaaDoor
set_option linter.unusedSimpArgs false
set_option linter.unusedVariables false
set_option maxRecDepth 100000
open Go.RowKit
set_option maxHeartbeats 4000000 in
theorem ends_known (c : Cx) (i a : Nat) (p : Nat → Bool) (w : World) (hA : c.At w) (hW : c.W0.heap.size ≤ w.heap.size)
    (hl : ∀ w' : World, w'.heap[c.M]? = w.heap[c.M]? → (Instr.lookup 116 (.map (some c.M)) (spotV i a) true).run Tryd.prog w' = .ok (.tuple #[plV p, .bool true]) w') :
    Calls Tryd.prog 32 #[.pointer (some ⟨c.rb, 0, none⟩), .int .i64 (i : Int), .int .i64 (a : Int)] w fun e w' => e = .returned (plV p) ∧ c.At w' ∧ w.grownBy w' (some c.M) := by
  unfold plV at hl
  obtain ⟨rb, hrb⟩ : ∃ rb, rb = c.rb := ⟨_, rfl⟩
  obtain ⟨M, hM⟩ : ∃ M, M = c.M := ⟨_, rfl⟩
  rw [← hrb]
  have hlt := hA.lt
  have hMlt := hA.kn.lt
  rw [← hrb] at hlt
  rw [← hM] at hMlt hl
  unfold spotV at hl
  obtain ⟨w2, hw2⟩ : ∃ w2, w2 = (w.alloc (.cells #[.int .u64 0, .int .u64 0, .int .u64 0, .int .u64 0, .int .u64 0, .int .u64 0, .int .u64 0] 78)).alloc (.cells #[.int .i64 (i : Int), .int .i64 (a : Int)] 120) := ⟨_, rfl⟩
  have hZ : Hp w2 w.heap.size noP := by rw [hw2]; exact (Hp.zero _ _ rfl).alloc _
  have hs0 : w2.heap[w.heap.size + 1]? = some (.cells #[.int .i64 (i : Int), .int .i64 (a : Int)] 120 (0, 0)) := by
    rw [hw2]
    have := World.alloc_heap_new (w.alloc (.cells #[.int .u64 0, .int .u64 0, .int .u64 0, .int .u64 0, .int .u64 0, .int .u64 0, .int .u64 0] 78)) (.cells #[.int .i64 (i : Int), .int .i64 (a : Int)] 120)
    rwa [World.size_alloc] at this
  have hg2 : w.grownBy w2 (some M) := by rw [hw2]; exact (World.grownBy_alloc _ _ _).trans (World.grownBy_alloc _ _ _)
  have hA2 : c.At w2 := by rw [hw2]; exact (hA.alloc _).alloc _
  have hsz : w2.heap.size = w.heap.size + 2 := by rw [hw2]; simp
  have hMh : w2.heap[M]? = w.heap[M]? := by rw [hw2, Below.heap_alloc _ _ _ (by simp; omega), Below.heap_alloc _ _ _ hMlt]
  have l0 := hl w2 hMh
  have l1 : ∀ o, _ := fun o => hl (w2.alloc o) ((Below.heap_alloc w2 o M (by omega)).trans hMh)
  have l2 := hl w2.drew hMh
  have l3 : ∀ o, _ := fun o => hl (w2.alloc o).drew ((Below.heap_alloc w2 o M (by omega)).trans hMh)
  have l4 : ∀ o, _ := fun o => hl (w2.drew.alloc o) ((Below.heap_alloc w2 o M (by omega)).trans hMh)
  have s0 : w2.cell? ⟨w.heap.size + 1, 0, none⟩ = some (.int .i64 (i : Int)) := by rw [Lib.cell_of_heap hs0]; rfl
  have s1 : w2.cell? ⟨w.heap.size + 1, 1, none⟩ = some (.int .i64 (a : Int)) := by rw [Lib.cell_of_heap hs0]; rfl
  have s2 : ∀ o, (w2.alloc o).cell? ⟨w.heap.size + 1, 0, none⟩ = some (.int .i64 (i : Int)) := fun o => by rw [Lib.cell_of_heap ((Below.heap_alloc w2 o _ (by omega)).trans hs0)]; rfl
  have s3 : ∀ o, (w2.alloc o).cell? ⟨w.heap.size + 1, 1, none⟩ = some (.int .i64 (a : Int)) := fun o => by rw [Lib.cell_of_heap ((Below.heap_alloc w2 o _ (by omega)).trans hs0)]; rfl
  have d0 : w2.cell? ⟨rb, 2, none⟩ = some (.map (some M)) := by rw [hrb, hM]; exact hA2.c2
  have d1 : ∀ o, (w2.alloc o).cell? ⟨rb, 2, none⟩ = some (.map (some M)) := fun o => by rw [hrb, hM]; exact (hA2.alloc o).c2
  replace hrb := hid hrb
  replace hM := hid hM
  clear hl
  go_enter Tryd.func32, Tryd.ntmps32
  go_wp2_with fail
  rw [← hw2]
  clear hw2
  go_region
  clear l0 l1 l2 l3 l4 s0 s1 s2 s3 d0 d1
  have h3 : Hp (w2.alloc (.cells #[.int .u64 (wd p 0), .int .u64 (wd p 1), .int .u64 (wd p 2), .int .u64 (wd p 3), .int .u64 (wd p 4), .int .u64 (wd p 5), .int .u64 (wd p 6)] 78)).drew w.heap.size noP := (hZ.alloc _).drew
  have hA3 : c.At (w2.alloc (.cells #[.int .u64 (wd p 0), .int .u64 (wd p 1), .int .u64 (wd p 2), .int .u64 (wd p 3), .int .u64 (wd p 4), .int .u64 (wd p 5), .int .u64 (wd p 6)] 78)).drew := (hA2.alloc _).drew
  have hg3 : w.grownBy (w2.alloc (.cells #[.int .u64 (wd p 0), .int .u64 (wd p 1), .int .u64 (wd p 2), .int .u64 (wd p 3), .int .u64 (wd p 4), .int .u64 (wd p 5), .int .u64 (wd p 6)] 78)).drew (some M) := grown_drew (hg2.trans (World.grownBy_alloc w2 _ _))
  have hs3 : (w2.alloc (.cells #[.int .u64 (wd p 0), .int .u64 (wd p 1), .int .u64 (wd p 2), .int .u64 (wd p 3), .int .u64 (wd p 4), .int .u64 (wd p 5), .int .u64 (wd p 6)] 78)).drew.heap[w.heap.size + 1]? = some (.cells #[.int .i64 (i : Int), .int .i64 (a : Int)] 120 (0, 0)) := (Below.heap_alloc w2 _ _ (by omega)).trans hs0
  have hz3 : (w2.alloc (.cells #[.int .u64 (wd p 0), .int .u64 (wd p 1), .int .u64 (wd p 2), .int .u64 (wd p 3), .int .u64 (wd p 4), .int .u64 (wd p 5), .int .u64 (wd p 6)] 78)).drew.heap.size = w.heap.size + 3 := by
    show (w2.alloc _).heap.size = _
    rw [World.size_alloc, hsz]
  have hP3 : Hp (w2.alloc (.cells #[.int .u64 (wd p 0), .int .u64 (wd p 1), .int .u64 (wd p 2), .int .u64 (wd p 3), .int .u64 (wd p 4), .int .u64 (wd p 5), .int .u64 (wd p 6)] 78)).drew (w.heap.size + 2) p := (Hp.new w2 p _ hsz.symm).drew
  clear hZ hs0 hg2 hA2 hs3
  generalize (w2.alloc (.cells #[.int .u64 (wd p 0), .int .u64 (wd p 1), .int .u64 (wd p 2), .int .u64 (wd p 3), .int .u64 (wd p 4), .int .u64 (wd p 5), .int .u64 (wd p 6)] 78)).drew = w3 at *
  clear hMh hsz
  obtain ⟨c0, c1, c2, c3, c4, c5, c6⟩ := hP3.all
  obtain ⟨d0, d1, d2, d3, d4, d5, d6⟩ := h3.all
  obtain ⟨f0, f1, f2, f3, f4, f5, f6⟩ := h3.frz
  go_wp2
  have hq := h3.put7 p
  obtain ⟨e0, e1, e2, e3, e4, e5, e6⟩ := hq.all
  rw [hM.out] at hMlt
  rw [hrb.out] at hlt
  refine bodyPost_ret (v := plV p) (by simp [results, Tryd.results32, go_sem, plV, e0, e1, e2, e3, e4, e5, e6]) rfl ⟨rfl, hA3.turn (grown_put7 _ _ _) (fun r e => by cases e; exact ⟨hW, by omega, by omega⟩), ?_⟩
  rw [← hM.out]
  exact grown_new hg3 (grown_put7 w3 w.heap.size p) (Nat.le_refl _)
set_option maxHeartbeats 4000000 in
theorem ends_new (c : Cx) (i a : Nat) (hi : i < 60) (ha : a < 401) (p : Nat → Bool) (hok : c.ok i a (plV p)) (hcM : c.W0.heap.size ≤ c.M) (hne : c.rb ≠ c.M) (w : World) (hA : c.At w) (hW : c.W0.heap.size ≤ w.heap.size)
    (hL : ∀ w, c.At w → Calls Tryd.prog 57 #[.pointer (some ⟨c.rb, 0, none⟩), .int .i64 (i : Int), .int .i64 (a : Int)] w fun e w' => e = .returned (plV p) ∧ c.At w' ∧ w.grownBy w' (some c.M))
    (hl : ∀ w' : World, w'.heap[c.M]? = w.heap[c.M]? → (Instr.lookup 116 (.map (some c.M)) (spotV i a) true).run Tryd.prog w' = .ok (.tuple #[.agg #[.int .u64 0, .int .u64 0, .int .u64 0, .int .u64 0, .int .u64 0, .int .u64 0, .int .u64 0], .bool false]) w') :
    Calls Tryd.prog 32 #[.pointer (some ⟨c.rb, 0, none⟩), .int .i64 (i : Int), .int .i64 (a : Int)] w fun e w' => e = .returned (plV p) ∧ c.At w' ∧ w.grownBy w' (some c.M) := by
  replace hL := hid hL
  obtain ⟨rb, hrb⟩ : ∃ rb, rb = c.rb := ⟨_, rfl⟩
  obtain ⟨M, hM⟩ : ∃ M, M = c.M := ⟨_, rfl⟩
  rw [← hrb]
  have hlt := hA.lt
  have hMlt := hA.kn.lt
  rw [← hrb] at hlt
  rw [← hM] at hMlt hl
  unfold spotV at hl
  obtain ⟨w2, hw2⟩ : ∃ w2, w2 = (w.alloc (.cells #[.int .u64 0, .int .u64 0, .int .u64 0, .int .u64 0, .int .u64 0, .int .u64 0, .int .u64 0] 78)).alloc (.cells #[.int .i64 (i : Int), .int .i64 (a : Int)] 120) := ⟨_, rfl⟩
  have hZ : Hp w2 w.heap.size noP := by rw [hw2]; exact (Hp.zero _ _ rfl).alloc _
  have hs0 : w2.heap[w.heap.size + 1]? = some (.cells #[.int .i64 (i : Int), .int .i64 (a : Int)] 120 (0, 0)) := by
    rw [hw2]
    have := World.alloc_heap_new (w.alloc (.cells #[.int .u64 0, .int .u64 0, .int .u64 0, .int .u64 0, .int .u64 0, .int .u64 0, .int .u64 0] 78)) (.cells #[.int .i64 (i : Int), .int .i64 (a : Int)] 120)
    rwa [World.size_alloc] at this
  have hg2 : w.grownBy w2 (some M) := by rw [hw2]; exact (World.grownBy_alloc _ _ _).trans (World.grownBy_alloc _ _ _)
  have hA2 : c.At w2 := by rw [hw2]; exact (hA.alloc _).alloc _
  have hsz : w2.heap.size = w.heap.size + 2 := by rw [hw2]; simp
  have hMh : w2.heap[M]? = w.heap[M]? := by rw [hw2, Below.heap_alloc _ _ _ (by simp; omega), Below.heap_alloc _ _ _ hMlt]
  have l0 := hl w2 hMh
  have l1 : ∀ o, _ := fun o => hl (w2.alloc o) ((Below.heap_alloc w2 o M (by omega)).trans hMh)
  have l2 := hl w2.drew hMh
  have l3 : ∀ o, _ := fun o => hl (w2.alloc o).drew ((Below.heap_alloc w2 o M (by omega)).trans hMh)
  have l4 : ∀ o, _ := fun o => hl (w2.drew.alloc o) ((Below.heap_alloc w2 o M (by omega)).trans hMh)
  have s0 : w2.cell? ⟨w.heap.size + 1, 0, none⟩ = some (.int .i64 (i : Int)) := by rw [Lib.cell_of_heap hs0]; rfl
  have s1 : w2.cell? ⟨w.heap.size + 1, 1, none⟩ = some (.int .i64 (a : Int)) := by rw [Lib.cell_of_heap hs0]; rfl
  have s2 : ∀ o, (w2.alloc o).cell? ⟨w.heap.size + 1, 0, none⟩ = some (.int .i64 (i : Int)) := fun o => by rw [Lib.cell_of_heap ((Below.heap_alloc w2 o _ (by omega)).trans hs0)]; rfl
  have s3 : ∀ o, (w2.alloc o).cell? ⟨w.heap.size + 1, 1, none⟩ = some (.int .i64 (a : Int)) := fun o => by rw [Lib.cell_of_heap ((Below.heap_alloc w2 o _ (by omega)).trans hs0)]; rfl
  have d0 : w2.cell? ⟨rb, 2, none⟩ = some (.map (some M)) := by rw [hrb, hM]; exact hA2.c2
  have d1 : ∀ o, (w2.alloc o).cell? ⟨rb, 2, none⟩ = some (.map (some M)) := fun o => by rw [hrb, hM]; exact (hA2.alloc o).c2
  replace hrb := hid hrb
  replace hM := hid hM
  clear hl
  go_enter Tryd.func32, Tryd.ntmps32
  go_wp2_with fail
  rw [← hw2]
  clear hw2
  go_region
  clear l0 l1 l2 l3 l4 s0 s1 s2 s3 d0 d1
  have h3 : Hp (w2.alloc (.cells #[.int .u64 0, .int .u64 0, .int .u64 0, .int .u64 0, .int .u64 0, .int .u64 0, .int .u64 0] 78)).drew w.heap.size noP := (hZ.alloc _).drew
  have hA3 : c.At (w2.alloc (.cells #[.int .u64 0, .int .u64 0, .int .u64 0, .int .u64 0, .int .u64 0, .int .u64 0, .int .u64 0] 78)).drew := (hA2.alloc _).drew
  have hg3 : w.grownBy (w2.alloc (.cells #[.int .u64 0, .int .u64 0, .int .u64 0, .int .u64 0, .int .u64 0, .int .u64 0, .int .u64 0] 78)).drew (some M) := grown_drew (hg2.trans (World.grownBy_alloc w2 _ _))
  have hs3 : (w2.alloc (.cells #[.int .u64 0, .int .u64 0, .int .u64 0, .int .u64 0, .int .u64 0, .int .u64 0, .int .u64 0] 78)).drew.heap[w.heap.size + 1]? = some (.cells #[.int .i64 (i : Int), .int .i64 (a : Int)] 120 (0, 0)) := (Below.heap_alloc w2 _ _ (by omega)).trans hs0
  have hz3 : (w2.alloc (.cells #[.int .u64 0, .int .u64 0, .int .u64 0, .int .u64 0, .int .u64 0, .int .u64 0, .int .u64 0] 78)).drew.heap.size = w.heap.size + 3 := by
    show (w2.alloc _).heap.size = _
    rw [World.size_alloc, hsz]
  clear hZ hs0 hg2 hA2
  generalize (w2.alloc (.cells #[.int .u64 0, .int .u64 0, .int .u64 0, .int .u64 0, .int .u64 0, .int .u64 0, .int .u64 0] 78)).drew = w3 at *
  clear hMh hsz
  go_wp2_with fail
  rw [hrb.out]
  refine (hL.out _ hA3).mono ?_
  rintro e w4 ⟨rfl, hA4, hg4⟩
  rw [← hrb.out]
  have h4 := h3.grown hg4 (by rw [← hM.out]; simp; omega)
  have hs4 := (hg4.block (w.heap.size + 1) (by omega) (by rw [← hM.out]; simp; omega)).trans hs3
  have hz4 := hg4.size
  clear hL h3 hs3 hA3
  obtain ⟨w5, hw5⟩ : ∃ w5, w5 = w4.alloc (.cells #[.int .u64 (wd p 0), .int .u64 (wd p 1), .int .u64 (wd p 2), .int .u64 (wd p 3), .int .u64 (wd p 4), .int .u64 (wd p 5), .int .u64 (wd p 6)] 78) := ⟨_, rfl⟩
  have hP5 : Hp w5 w4.heap.size p := by rw [hw5]; exact Hp.new w4 p _ rfl
  have h5 : Hp w5 w.heap.size noP := by rw [hw5]; exact h4.alloc _
  have hA5 : c.At w5 := by rw [hw5]; exact hA4.alloc _
  have hg5 : w4.grownBy w5 (some M) := by rw [hw5]; exact World.grownBy_alloc _ _ _
  have hs5 : w5.heap[w.heap.size + 1]? = some (.cells #[.int .i64 (i : Int), .int .i64 (a : Int)] 120 (0, 0)) := by rw [hw5]; exact (Below.heap_alloc w4 _ _ (by omega)).trans hs4
  have hz5 : w5.heap.size = w4.heap.size + 1 := by rw [hw5]; simp
  have s0 : w5.cell? ⟨w.heap.size + 1, 0, none⟩ = some (.int .i64 (i : Int)) := by rw [Lib.cell_of_heap hs5]; rfl
  have s1 : w5.cell? ⟨w.heap.size + 1, 1, none⟩ = some (.int .i64 (a : Int)) := by rw [Lib.cell_of_heap hs5]; rfl
  have d0 : w5.cell? ⟨rb, 2, none⟩ = some (.map (some M)) := by rw [hrb.out, hM.out]; exact hA5.c2
  obtain ⟨c0, c1, c2, c3, c4, c5, c6⟩ := hP5.all
  obtain ⟨w6, hrun, hk6, hg6⟩ := hA5.drew.kn.store i a (plV p) hi ha hok
  rw [← hM.out] at hrun hg6
  replace hk6 := hid hk6
  unfold spotV plV at hrun
  unfold plV
  go_wp2_with fail
  rw [← hw5]
  clear hw5
  go_region
  have hA6 : c.At w6 := ⟨hA5.drew.bel.grown hg6 hA5.bel.size (fun k e => by cases e; rw [hM.out]; exact hcM), (hg6.block c.rb hA5.lt (by rw [hM.out]; simpa using hne)).trans hA5.rd, hk6.out⟩
  have hP6 : Hp w6 w4.heap.size p := hP5.drew.grown hg6 (by simp; omega)
  have h6 : Hp w6 w.heap.size noP := h5.drew.grown hg6 (by simp; omega)
  have hgw : w.grownBy w6 (some M) := ((hg3.trans (by rw [hM.out]; exact hg4)).trans (grown_drew hg5)).trans hg6
  clear s0 s1 d0 c0 c1 c2 c3 c4 c5 c6 hrun hk6 hP5 h5 hA5 hA4 h4 hs4 hs5 hok
  obtain ⟨c0, c1, c2, c3, c4, c5, c6⟩ := hP6.all
  obtain ⟨d0, d1, d2, d3, d4, d5, d6⟩ := h6.all
  obtain ⟨f0, f1, f2, f3, f4, f5, f6⟩ := h6.frz
  go_wp2
  have hq := h6.put7 p
  obtain ⟨e0, e1, e2, e3, e4, e5, e6⟩ := hq.all
  rw [hM.out] at hMlt
  rw [hrb.out] at hlt
  refine bodyPost_ret (v := plV p) (by simp [results, Tryd.results32, go_sem, plV, e0, e1, e2, e3, e4, e5, e6]) rfl ⟨rfl, hA6.turn (grown_put7 _ _ _) (fun r e => by cases e; exact ⟨hW, by omega, by omega⟩), ?_⟩
  rw [← hM.out]
  exact grown_new hgw (grown_put7 w6 w.heap.size p) (Nat.le_refl _)
theorem ends_of {c : Cx} (hc : c.Good) {t : Rx} (ht : t.Ok) {p q : List Nd} (hns : c.ns = p ++ t.flat ++ q) (a : Nat) (ha : a ≤ c.s.size) (hL : LookOk c t p.length a) : EndsOk c t p.length a := by
  intro w hA
  have h1 := flat_lt hns
  have h2 := hc.len
  have h3 := hc.size
  have hW := hA.bel.size
  rcases hA.kn.look p.length a (by omega) (by omega) with ⟨x, hx, hl⟩ | hl
  · rw [Cx.ok_one ht hns hx] at hl
    exact ends_known c _ a _ w hA hW hl
  · exact ends_new c _ a (by omega) (by omega) _ ⟨t, p, q, ht, hns, rfl, ha, rfl⟩ hc.hM hc.ne w hA hW hL hl
end Go.Proofs.YtgnmlnfddcnkbaaDoor
namespace Go.Proofs.YtgnmlnfddcnkbaaDoor
set_option linter.unusedSimpArgs false
set_option linter.unusedVariables false
set_option maxRecDepth 100000
open Go.RowKit
theorem op_range {c : Cx} (hc : c.Good) {n : Nd} (h : n ∈ c.ns) : 1 ≤ n.op ∧ n.op ≤ 9 := (((faultL_zero c.ns).1 hc.fault).2.1 n h).1
/-- ends, at every tree of a pattern that may be, from every place. -/
theorem ends_tree {c : Cx} (hc : c.Good) : ∀ (t : Rx), t.Ok → ∀ (p q : List Nd), c.ns = p ++ t.flat ++ q → ∀ a, a ≤ c.s.size → EndsOk c t p.length a
  | .leaf n, ht, p, q, hns, a, ha => by
    have hr := op_range hc (n := n) (by rw [hns]; simp [Rx.flat])
    have hp : prt n.op = 0 := ht
    refine ends_of hc ht hns a ha ?_
    by_cases h1 : n.op = 1
    · by_cases hin : a < c.s.size
      · exact look_byteIn hc n hns h1 a ha hin
      · exact look_byteOut hc n hns h1 a ha (by omega)
    · by_cases h8 : n.op = 8
      · exact look_begin hc n hns h8 a ha
      · by_cases h9 : n.op = 9
        · exact look_end hc n hns h9 a ha
        · have h2 : n.op = 2 := by
            unfold prt at hp
            split at hp
            · cases hp
            · split at hp
              · cases hp
              · omega
          exact look_empty hc n hns h2 a ha
  | .one n t, ht, p, q, hns, a, ha => by
    have hp : prt n.op = 1 := ht.1
    have hns2 : c.ns = (p ++ [n]) ++ t.flat ++ q := by rw [hns]; simp [Rx.flat]
    have EA : ∀ k, k ≤ c.s.size → EndsOk c t (p.length + 1) k := fun k hk => by
      have := ends_tree hc t ht.2 (p ++ [n]) q hns2 k hk
      rwa [show (p ++ [n]).length = p.length + 1 by simp] at this
    have hop : n.op = 5 ∨ n.op = 6 ∨ n.op = 7 := by
      unfold prt at hp
      split at hp
      · cases hp
      · split at hp
        · assumption
        · cases hp
    have key : ∀ d k, k ≤ c.s.size → c.s.size - k ≤ d → EndsOk c (.one n t) p.length k := by
      intro d
      induction d with
      | zero =>
        intro k hk hd
        have ES : ∀ j, k < j → j ≤ c.s.size → EndsOk c (.one n t) p.length j := fun j h1 h2 => absurd h2 (by omega)
        refine ends_of hc ht hns k hk ?_
        rcases hop with h | h | h
        · exact look_star hc n t hns h k hk (EA k hk) ES
        · exact look_plus hc n t hns h k hk (EA k hk) ES
        · exact look_opt hc n t hns h k hk (EA k hk)
      | succ d ih =>
        intro k hk hd
        have ES : ∀ j, k < j → j ≤ c.s.size → EndsOk c (.one n t) p.length j := fun j h1 h2 => ih j h2 (by omega)
        refine ends_of hc ht hns k hk ?_
        rcases hop with h | h | h
        · exact look_star hc n t hns h k hk (EA k hk) ES
        · exact look_plus hc n t hns h k hk (EA k hk) ES
        · exact look_opt hc n t hns h k hk (EA k hk)
    exact key _ a ha (Nat.le_refl _)
  | .two n t u, ht, p, q, hns, a, ha => by
    have hp : prt n.op = 2 := ht.1
    have hns2 : c.ns = (p ++ [n]) ++ t.flat ++ (u.flat ++ q) := by rw [hns]; simp [Rx.flat]
    have hns3 : c.ns = (p ++ [n] ++ t.flat) ++ u.flat ++ q := by rw [hns]; simp [Rx.flat]
    have EA : EndsOk c t (p.length + 1) a := by
      have := ends_tree hc t ht.2.1 (p ++ [n]) _ hns2 a ha
      rwa [show (p ++ [n]).length = p.length + 1 by simp] at this
    have EB : ∀ k, k ≤ c.s.size → EndsOk c u (p.length + 1 + t.flat.length) k := fun k hk => by
      have := ends_tree hc u ht.2.2 (p ++ [n] ++ t.flat) _ hns3 k hk
      rwa [show (p ++ [n] ++ t.flat).length = p.length + 1 + t.flat.length by simp; omega] at this
    have hop : n.op = 3 ∨ n.op = 4 := by
      unfold prt at hp
      split at hp
      · assumption
      · split at hp <;> cases hp
    refine ends_of hc ht hns a ha ?_
    rcases hop with h | h
    · exact look_cat hc n t u ht hns h a ha EA EB
    · exact look_or hc n t u ht hns h a ha EA (EB a ha)
/-- A reader that is new. -/
theorem cx_new {w1 : World} {b off cap : Nat} {t : Rx} (hn : NsAt w1 b off t.flat) (hlt : b < w1.heap.size) (hf : faultL t.flat = 0) (hw : ∀ n ∈ t.flat, n.wf) (s : ByteArray) (hs : s.size ≤ 400) (hT : Tab w1) :
    (Cx.mk w1 (w1.heap.size + 1) w1.heap.size b off cap t.flat s).Good ∧ (Cx.mk w1 (w1.heap.size + 1) w1.heap.size b off cap t.flat s).At ((w1.alloc (.map #[] 0)).alloc (.cells #[.slice (some ⟨b, off, none⟩) t.flat.length cap, .string s, .map (some w1.heap.size)] 118)) := by
  refine ⟨⟨hn, hlt, hf, hw, hs, hT, Nat.le_succ _, Nat.le_refl _, by simp⟩, ⟨((Below.refl _ w1).alloc (Nat.le_refl _) _).alloc (by simp) _, ?_, ?_⟩⟩
  · have := World.alloc_heap_new (w1.alloc (.map #[] 0)) (.cells #[.slice (some ⟨b, off, none⟩) t.flat.length cap, .string s, .map (some w1.heap.size)] 118)
    rwa [World.size_alloc] at this
  · exact (Kn.made w1 _).kept (World.grownBy_alloc _ _ none) (by simp)
end Go.Proofs.YtgnmlnfddcnkbaaDoor
namespace Go.Proofs.YtgnmlnfddcnkbaaDoor
set_option linter.unusedSimpArgs false
set_option linter.unusedVariables false
set_option maxRecDepth 100000
open Go.RowKit Go.Shelf
attribute [local go_sem] Oper.semAt_some

set_option maxHeartbeats 2000000 in
theorem appendSeq_in (n : Nat) (hn : 3 ≤ n) (p : Nat → Bool) (w : World) (hT : Tab w) :
    CallsIn Fence.wide n Tryd.prog 56 #[.slice none 0 0, .func (.func 33) #[plV p] #[]] w fun e W' => ∃ u, e = .returned u ∧ IsOwn W' w.heap.size u (el p 448) ∧ Below w.heap.size w W' := by
  have hinfo : (Tryd.prog.info? 3).map (fun i => (i.zero, i.size, i.bytes)) = some (some (.int .i64 0), 1, 8) := by kernel_rfl
  obtain ⟨i0, hi, hz0, hz1, hz2⟩ := info_parts hinfo
  have hel : (el p 448).length ≤ 448 := el_len p 448
  refine callsIn_of_wp_marks Tryd.func56 rfl trivial ?_ rfl
  simp only [Tryd.ntmps56, List.size_toArray, List.length_cons, List.length_nil, Nat.reduceAdd, Nat.reduceSub, Array.replicate_succ, Array.replicate_zero, List.push_toArray, List.append_toArray, List.nil_append, List.cons_append]
  gi_wp2
  have bO := Boxed.new w 34 (.slice none 0 0)
  have hB0 : Below w.heap.size w (w.alloc (.cells #[.slice none 0 0] 34)) := (Below.refl _ w).alloc (Nat.le_refl _) _
  refine wpIn_runs rfl (by omega) 33 #[plV p] rfl trivial enters_rising (fun x : Nat => Value.int .i64 (x : Int)) Tab (el p 448) (rises (n - 1) (by omega) p) rfl
    (fun pre W => (∃ v, Boxed W w.heap.size 34 v ∧ W.ownsRow w.heap.size 3 1 v pre.length (isCells pre) ∧ True) ∧ Below w.heap.size w W)
    (OwnFrom.and (Own.from (holdsRow_own w.heap.size w.heap.size 34 3 1 (fun pre : List Nat => pre.length) (fun pre => isCells pre) (fun pre v => True)) _) (ownFrom_below (Nat.le_refl _) (by simp)))
    (fun pre W h => hT.below h.2 (Nat.le_refl _))
    ⟨⟨_, bO, World.ownsRow_nil _ _ _ _, trivial⟩, hB0⟩
    (fun x => { tmps := #[.slice none 0 0, .func (.func 33) #[plV p] #[], .pointer (some ⟨w.heap.size, 0, none⟩), undef, .slice none 0 0, .int .i64 (x : Int), .func (.func 33) #[plV p] #[], .int .i64 (x : Int), undef, undef, undef, undef, undef], defers := [] }) ?assign ?body ?done
  case assign =>
    intro l x W K hK
    gi_wp2
    exact hK
  case body =>
    rintro l pre x rest W hx ⟨⟨v, hv, hrow, _⟩, hB⟩
    have hc := hv.cell
    have hpl : pre.length < 448 := by
      have := congrArg List.length hx
      simp at this
      omega
    gi_wp2_with (gi_at_builtin; refine wpListIn_append_own _ rfl _ _ 34 rfl w.heap.size 3 i0 (.int .i64 0) 1 8 Tryd.underlying34 hi hz0 hz1 hz2 rfl (by decide) _ _ _ rfl (hrow.alloc _) ⟨W.heap.size, 0, none⟩ 1 1 [.int .i64 (x : Int)] rfl rfl (cell_one_new _ _ _) (by simp [Value.oneCell']) (by unfold maxLen; omega) (by omega) (by have := hB.size; simp; omega) ?_; intro v' w1 hown' hgrow _; obtain ⟨g', cap', rfl⟩ := ownsRow_succ hown'; obtain ⟨hv1, hv2, hr2, hk2, hb2⟩ := hv.appended (by decide) hrow hB.size (Nat.le_refl _) hown' hgrow; have hc1 := hv1.cell; have hf1 := hv1.frozen)
    exact ⟨hk2.from _, ⟨_, hv2, by simpa [isCells] using hr2, trivial⟩, hB.trans hb2⟩
  case done =>
    rintro D W hD ⟨⟨v, hv, hrow, _⟩, hB⟩ hK
    have hc := hv.cell
    gi_wp2
    refine ⟨by simp, .inl ⟨_, _, rfl, run_takeDeferred hK, ?_⟩⟩
    exact ⟨_, results_tmp rfl _ _ _, v, rfl, ownsRow_putObj hrow _ hK rfl, hB.trans (belowK_b (w := w) (Nat.le_refl _) W D _ _ (by simp at hD; omega) hK rfl rfl)⟩
theorem collect_any (p : Nat → Bool) (w : World) (hT : Tab w) :
    Calls Tryd.prog 30 #[.func (.func 33) #[plV p] #[]] w fun e W' => ∃ u, e = .returned u ∧ IsIn W' u (el p 448) ∧ Below w.heap.size w W' := by
  have C := hid ((callsIn_wide (n := 3)).1 (appendSeq_in 3 (by omega) p w hT))
  have hel : (el p 448).length ≤ 448 := el_len p 448
  go_enter Tryd.func30, Tryd.ntmps30
  go_wp2_with fail
  refine C.out.mono ?_
  rintro e w1 ⟨u, rfl, hu, hb⟩
  obtain ⟨a, cap, rfl⟩ := hu.form
  go_wp2
  go_ret
  exact ⟨_, rfl, hu.isIn (by unfold maxLen; omega), hb⟩
end Go.Proofs.YtgnmlnfddcnkbaaDoor
namespace Go.Proofs.YtgnmlnfddcnkbaaDoor
set_option linter.unusedSimpArgs false
set_option linter.unusedVariables false
set_option maxRecDepth 100000
open Go.RowKit
set_option maxHeartbeats 4000000 in
theorem mends_any (t : Rx) (v : Value) (s : ByteArray) (i : Nat) (l : List Nat) (w : World) (hT : Tab w) (ht : t.Ok) (hN : NsIn w v t.flat) (hw : ∀ n ∈ t.flat, n.wf) (hE : meanE t.flat s.size i = 0) (hl : EndsR s.data.toList t i l) :
    Calls Tryd.prog 12 #[v, .string s, .int .i64 (i : Int)] w fun e w' => ∃ u, e = .returned (.tuple #[u, .nilIface]) ∧ Below w.heap.size w w' ∧ IsIn w' u l := by
  obtain ⟨hf, h4, _, hi⟩ := (meanE_zero _ _ _).1 hE
  have C := mcheck_any t.flat v s w hN (by unfold maxLen; omega)
  rw [(meanF_zero _ _).2 ⟨hf, h4⟩, show errV 0 = .nilIface from rfl] at C
  replace C := hid C
  obtain ⟨a, cap, rfl, hm, h | ⟨b, off, rfl, hlt, hn⟩⟩ := hN
  · exact absurd t.flat_pos (by rw [h]; simp)
  have i0 : (0 : Int) ≤ (i : Int) := by omega
  have i1 : (i : Int) ≤ (s.size : Int) := by omega
  have hle := el_ends hl (by rw [Array.length_toList]; exact h4)
  have HX : Hid (∀ w1, Below w.heap.size w w1 → (Cx.mk w1 (w1.heap.size + 1) w1.heap.size b off cap t.flat s).Good ∧ (Cx.mk w1 (w1.heap.size + 1) w1.heap.size b off cap t.flat s).At ((w1.alloc (.map #[] 0)).alloc (.cells #[.slice (some ⟨b, off, none⟩) t.flat.length cap, .string s, .map (some w1.heap.size)] 118))) := fun w1 hb => cx_new (hn.below hb hlt) (Nat.lt_of_lt_of_le hlt hb.size) hf hw s h4 (hT.below hb (Nat.le_refl _))
  have hi' : i ≤ s.size := by omega
  replace hT := hid hT
  replace hle := hid hle
  clear hn hE hl hw
  go_enter Tryd.func12, Tryd.ntmps12
  go_wp2_with fail
  refine C.out.mono ?_
  rintro e w1 ⟨rfl, hb⟩
  obtain ⟨hG, hA⟩ := HX.out w1 hb
  have HE := hid (ends_tree hG t ht [] [] (by simp) i hi' _ hA)
  replace hA := hid hA
  replace hG := hid hG
  replace hb := hid hb
  clear HX C
  go_wp2_with fail
  refine (reading_any _ _ _ _ _).mono ?_
  rintro e w2 ⟨rfl, rfl⟩
  go_wp2_with fail
  refine Calls.mono HE.out ?_
  rintro e w3 ⟨rfl, hA3, _⟩
  have hB3 := hid (hb.out.trans (hA3.bel.mono hb.out.size))
  have CC := hid (collect_any (fs s.data.toList t i) w3 (hT.out.below hB3.out (Nat.le_refl _)))
  rw [hle.out] at CC
  replace hA3 := hid hA3
  clear HE hA
  unfold plV at CC ⊢
  go_wp2_with fail
  refine CC.out.mono ?_
  rintro e w4 ⟨u, rfl, hu, hb4⟩
  obtain ⟨ua, ucap, rfl, _⟩ := isIn_form hu
  go_wp2
  go_ret2
  exact ⟨_, rfl, hB3.out.trans (hb4.mono hB3.out.size), hu⟩
set_option maxHeartbeats 4000000 in
theorem mends_bad (ns : List Nd) (v : Value) (s : ByteArray) (i : Int) (w : World) (hN : NsIn w v ns) (hs : s.size ≤ maxLen) (hE : ¬ meanE ns s.size i = 0) :
    Calls Tryd.prog 12 #[v, .string s, .int .i64 i] w fun e w' => ∃ u, e = .returned (.tuple #[u, errV (meanE ns s.size i)]) ∧ Below w.heap.size w w' ∧ IsIn w' u [] := by
  have C := hid (mcheck_any ns v s w hN hs)
  by_cases hF : meanF ns s.size = 0
  · have he : meanE ns s.size i = 1 := by
      unfold meanE at hE ⊢
      rw [if_pos hF] at hE ⊢
      by_cases h : 0 ≤ i ∧ i ≤ s.size
      · rw [if_pos h] at hE; exact absurd rfl hE
      · rw [if_neg h]
    have hout : i < 0 ∨ (s.size : Int) < i := by
      unfold meanE at hE
      rw [if_pos hF] at hE
      by_cases h : 0 ≤ i ∧ i ≤ s.size
      · rw [if_pos h] at hE; exact absurd rfl hE
      · omega
    rw [he, show errV 1 = .iface 45 (.int .i64 1) from rfl]
    rw [hF, show errV 0 = .nilIface from rfl] at C
    obtain ⟨a, cap, rfl, hm, _⟩ := hN
    clear hE he hF
    by_cases i0 : i < 0
    · clear hout
      go_enter Tryd.func12, Tryd.ntmps12
      go_wp2_with fail
      refine C.out.mono ?_
      rintro e w1 ⟨rfl, hb⟩
      go_wp2
      go_ret2
      exact ⟨_, rfl, hb, isIn_nil _⟩
    · have i1 : (s.size : Int) < i := by omega
      have i2 : 0 ≤ i := by omega
      clear hout i0
      go_enter Tryd.func12, Tryd.ntmps12
      go_wp2_with fail
      refine C.out.mono ?_
      rintro e w1 ⟨rfl, hb⟩
      go_wp2
      go_ret2
      exact ⟨_, rfl, hb, isIn_nil _⟩
  · have he : meanE ns s.size i = meanF ns s.size := by
      unfold meanE
      rw [if_neg hF]
    rw [he]
    rw [show errV (meanF ns s.size) = .iface 45 (.int .i64 (meanF ns s.size)) by unfold errV; rw [if_neg hF]] at C ⊢
    obtain ⟨a, cap, rfl, hm, _⟩ := hN
    clear hE he
    go_enter Tryd.func12, Tryd.ntmps12
    go_wp2_with fail
    refine C.out.mono ?_
    rintro e w1 ⟨rfl, hb⟩
    go_wp2
    go_ret2
    exact ⟨_, rfl, hb, isIn_nil _⟩
theorem meanN : MeanN := ⟨fun ns v s i w hN _ hs hE => mends_bad ns v s i w hN hs hE, fun t v s i l w hT ht hN hw hE hl => mends_any t v s i l w hT ht hN hw hE hl⟩
end Go.Proofs.YtgnmlnfddcnkbaaDoor
namespace Go.Proofs.YtgnmlnfddcnkbaaDoor
set_option linter.unusedSimpArgs false
set_option linter.unusedVariables false
set_option maxRecDepth 100000
open Go.RowKit

/-- As many steps as one likes at one place. -/
inductive Sta (ss : List St) (s : List UInt8) (a : Nat) : Nat → Nat → Prop
  | nil (k : Nat) : Sta ss s a k k
  | cons (k k1 k2 : Nat) : Stp ss s k a k1 a → Sta ss s a k1 k2 → Sta ss s a k k2
theorem Sta.snoc {ss : List St} {s : List UInt8} {a k k1 k2 : Nat} (h : Sta ss s a k k1) (h2 : Stp ss s k1 a k2 a) : Sta ss s a k k2 := by
  induction h with
  | nil k => exact .cons _ _ _ h2 (.nil _)
  | cons k k1 k2 h _ ih => exact .cons _ _ _ h (ih h2)
theorem Sta.trans {ss : List St} {s : List UInt8} {a k k1 k2 : Nat} (h : Sta ss s a k k1) (h2 : Sta ss s a k1 k2) : Sta ss s a k k2 := by
  induction h with
  | nil k => exact h2
  | cons k k1 k2 h _ ih => exact .cons _ _ _ h (ih h2)
/-- What is seen, S, has become S' by going on from the steps K. -/
structure Vst (ss : List St) (s : List UInt8) (a : Nat) (S S' K : List Nat) : Prop where
  pre : ∃ m, S' = S ++ m
  has : ∀ k ∈ K, k ∈ S'
  sound : ∀ x ∈ S', x ∈ S ∨ ∃ k ∈ K, Sta ss s a k x
  shut : ∀ x ∈ S', x ∈ S ∨ ∀ y, Stp ss s x a y a → y ∈ S'
theorem Vst.sub {ss : List St} {s : List UInt8} {a : Nat} {S S' K : List Nat} (h : Vst ss s a S S' K) : ∀ x ∈ S, x ∈ S' := fun x hx => by
  obtain ⟨m, rfl⟩ := h.pre
  simp [hx]
theorem Vst.refl (ss : List St) (s : List UInt8) (a : Nat) (S K : List Nat) (h : ∀ k ∈ K, k ∈ S) : Vst ss s a S S K := ⟨⟨[], by simp⟩, h, fun x hx => Or.inl hx, fun x hx => Or.inl hx⟩
theorem Vst.comp {ss : List St} {s : List UInt8} {a : Nat} {S S1 S2 K L : List Nat} (h : Vst ss s a S S1 K) (g : Vst ss s a S1 S2 L) : Vst ss s a S S2 (K ++ L) where
  pre := by
    obtain ⟨m, rfl⟩ := h.pre
    obtain ⟨m', rfl⟩ := g.pre
    exact ⟨m ++ m', by simp⟩
  has := fun k hk => by
    rcases List.mem_append.1 hk with hk | hk
    · exact g.sub k (h.has k hk)
    · exact g.has k hk
  sound := fun x hx => by
    rcases g.sound x hx with h1 | ⟨k, hk, h1⟩
    · rcases h.sound x h1 with h2 | ⟨k, hk, h2⟩
      · exact Or.inl h2
      · exact Or.inr ⟨k, by simp [hk], h2⟩
    · exact Or.inr ⟨k, by simp [hk], h1⟩
  shut := fun x hx => by
    rcases g.shut x hx with h1 | h1
    · rcases h.shut x h1 with h2 | h2
      · exact Or.inl h2
      · exact Or.inr fun y hy => g.sub y (h2 y hy)
    · exact Or.inr h1
/-- One that was not seen is entered; behind it are K. -/
theorem Vst.enter {ss : List St} {s : List UInt8} {a k : Nat} {S S' K : List Nat} (h : Vst ss s a (S ++ [k]) S' K) (hK : ∀ y, Stp ss s k a y a ↔ y ∈ K) : Vst ss s a S S' [k] where
  pre := by
    obtain ⟨m, rfl⟩ := h.pre
    exact ⟨k :: m, by simp⟩
  has := fun x hx => by
    rw [List.mem_singleton.1 hx]
    exact h.sub k (by simp)
  sound := fun x hx => by
    rcases h.sound x hx with h1 | ⟨y, hy, h1⟩
    · rcases List.mem_append.1 h1 with h2 | h2
      · exact Or.inl h2
      · rw [List.mem_singleton.1 h2]
        exact Or.inr ⟨k, by simp, .nil _⟩
    · exact Or.inr ⟨k, by simp, .cons _ _ _ ((hK y).2 hy) h1⟩
  shut := fun x hx => by
    rcases h.shut x hx with h1 | h1
    · rcases List.mem_append.1 h1 with h2 | h2
      · exact Or.inl h2
      · rw [List.mem_singleton.1 h2]
        exact Or.inr fun y hy => h.has y ((hK y).1 hy)
    · exact Or.inr h1
/-- F is what is come to from b, at a place. -/
def Clo (ss : List St) (s : List UInt8) (a : Nat) (b F : List Nat) : Prop := ∀ k, k ∈ F ↔ ∃ k0 ∈ b, Sta ss s a k0 k
theorem Vst.clo {ss : List St} {s : List UInt8} {a : Nat} {b F : List Nat} (h : Vst ss s a [] F b) : Clo ss s a b F := by
  intro k
  constructor
  · intro hk
    rcases h.sound k hk with h1 | h1
    · cases h1
    · exact h1
  · rintro ⟨k0, hk0, h1⟩
    have h2 := h.has k0 hk0
    clear hk0
    induction h1 with
    | nil k => exact h2
    | cons k k1 k2 hs _ ih =>
      refine ih ?_
      rcases h.shut k h2 with h3 | h3
      · cases h3
      · exact h3 k1 hs
/-- What is come to from step 0 at place i. -/
inductive Rc (ss : List St) (s : List UInt8) (i : Nat) : Nat → Nat → Prop
  | base : Rc ss s i 0 i
  | step (k a k' a' : Nat) : Rc ss s i k a → Stp ss s k a k' a' → Rc ss s i k' a'
theorem Rc.sta {ss : List St} {s : List UInt8} {i k a k' : Nat} (h : Rc ss s i k a) (h2 : Sta ss s a k k') : Rc ss s i k' a := by
  induction h2 with
  | nil k => exact h
  | cons k k1 k2 hs _ ih => exact ih (.step _ _ _ _ h hs)
theorem Rc.le {ss : List St} {s : List UInt8} {i k a : Nat} (hi : i ≤ s.length) (h : Rc ss s i k a) : i ≤ a ∧ a ≤ s.length := by
  induction h with
  | base => exact ⟨Nat.le_refl _, hi⟩
  | step k a k' a' _ hs ih =>
    refine ⟨?_, stp_le ih.2 hs⟩
    obtain ⟨n, _, ⟨_, _, h, _⟩ | ⟨_, _, h⟩ | ⟨_, _, h, _⟩ | ⟨_, _, h, _⟩⟩ := hs <;> omega
theorem stp_place {ss : List St} {s : List UInt8} {k a k' a' : Nat} (hs : Stp ss s k a k' a') : a' = a ∨ a' = a + 1 := by
  obtain ⟨n, _, ⟨_, _, h, _⟩ | ⟨_, _, h⟩ | ⟨_, _, h, _⟩ | ⟨_, _, h, _⟩⟩ := hs <;> omega
/-- The last byte that was taken. -/
theorem Rc.last {ss : List St} {s : List UInt8} {i k a : Nat} (h : Rc ss s i k a) : (a = i ∧ Sta ss s a 0 k) ∨ ∃ a0 k0 k1, a = a0 + 1 ∧ Rc ss s i k0 a0 ∧ Stp ss s k0 a0 k1 (a0 + 1) ∧ Sta ss s a k1 k := by
  induction h with
  | base => exact Or.inl ⟨rfl, .nil _⟩
  | step k a k' a' hr hs ih =>
    rcases stp_place hs with rfl | rfl
    · rcases ih with ⟨h1, h2⟩ | ⟨a0, k0, k1, h1, h2, h3, h4⟩
      · exact Or.inl ⟨h1, h2.snoc hs⟩
      · exact Or.inr ⟨a0, k0, k1, h1, h2, h3, h4.snoc hs⟩
    · exact Or.inr ⟨a, k, k', rfl, hr, hs, .nil _⟩
/-- b is where the program begins at place a. -/
def Bgn (ss : List St) (s : List UInt8) (i a : Nat) (b : List Nat) : Prop := ∀ k, Rc ss s i k a ↔ ∃ k0 ∈ b, Sta ss s a k0 k
/-- b' is where it goes on behind the byte at a place. -/
def Tkn (ss : List St) (s : List UInt8) (a : Nat) (F b' : List Nat) : Prop := ∀ k', k' ∈ b' ↔ ∃ k ∈ F, Stp ss s k a k' (a + 1)
theorem bgn_init (ss : List St) (s : List UInt8) (i : Nat) (hi : i ≤ s.length) : Bgn ss s i i [0] := by
  intro k
  constructor
  · intro h
    rcases h.last with ⟨_, h1⟩ | ⟨a0, k0, k1, h1, h2, _, _⟩
    · exact ⟨0, by simp, h1⟩
    · have := (h2.le hi).1
      omega
  · rintro ⟨k0, hk, h⟩
    rw [List.mem_singleton.1 hk] at h
    exact Rc.base.sta h
theorem Bgn.clo {ss : List St} {s : List UInt8} {i a : Nat} {b F : List Nat} (h : Bgn ss s i a b) (hF : Clo ss s a b F) (k : Nat) : k ∈ F ↔ Rc ss s i k a := (hF k).trans (h k).symm
theorem Bgn.next {ss : List St} {s : List UInt8} {i a : Nat} {b F b' : List Nat} (hia : i ≤ a) (h : Bgn ss s i a b) (hF : Clo ss s a b F) (hT : Tkn ss s a F b') : Bgn ss s i (a + 1) b' := by
  intro k
  constructor
  · intro hr
    rcases hr.last with ⟨h1, _⟩ | ⟨a0, k0, k1, h1, h2, h3, h4⟩
    · omega
    · obtain rfl : a0 = a := by omega
      exact ⟨k1, (hT k1).2 ⟨k0, (h.clo hF k0).2 h2, h3⟩, h4⟩
  · rintro ⟨k1, hk1, h4⟩
    obtain ⟨k0, hk0, h3⟩ := (hT k1).1 hk1
    exact (Rc.step _ _ _ _ ((h.clo hF k0).1 hk0) h3).sta h4
/-- A place at which it is done. -/
def Dne (ss : List St) (k : Nat) : Prop := ∃ n, ss[k]? = some n ∧ n.op = 5
theorem rc_rch {ss : List St} {s : List UInt8} {i k a : Nat} (hi : i ≤ s.length) (h : Rc ss s i k a) : Rch ss s i (k * (s.length + 1) + a) := by
  induction h with
  | base => simpa using Rch.base
  | step k a k' a' hr hs ih =>
    have ha := (hr.le hi).2
    exact .step _ _ ih ((nx_stp ss s ha).2 ⟨k', a', hs, stp_le ha hs, rfl⟩)
theorem pth_rc {ss : List St} {s : List UInt8} {i m k a k' a' : Nat} (h : Pth ss s m k a k' a') : Rc ss s i k a → Rc ss s i k' a' := by
  induction h with
  | nil k a => exact id
  | cons m k a k1 a1 k' a' hs _ ih => exact fun hr => ih (.step _ _ _ _ hr hs)
theorem run_mem {ss : List St} {s : List UInt8} {i : Nat} (hi : i ≤ s.length) {l : List Nat} (hl : RunR ss s i l) (j : Nat) : j ∈ l ↔ ∃ k, Rc ss s i k j ∧ Dne ss k := by
  rw [hl.2 j]
  constructor
  · rintro ⟨q, hq, hd, rfl⟩
    obtain ⟨n, k, a, ha, rfl, hp⟩ := rch_pth ss s hi hq
    have hsd := spot_div (N := s.length + 1) (k := k) (a := a) (by omega)
    rw [hsd.2]
    refine ⟨k, pth_rc hp .base, ?_⟩
    unfold dn at hd
    rw [hsd.1] at hd
    cases hn : ss[k]? with
    | none => rw [hn] at hd; cases hd
    | some n => rw [hn] at hd; exact ⟨n, hn, of_decide_eq_true hd⟩
  · rintro ⟨k, hr, n, hn, h5⟩
    have ha := (hr.le hi).2
    have hsd := spot_div (N := s.length + 1) (k := k) (a := j) (by omega)
    refine ⟨_, rc_rch hi hr, ?_, hsd.2⟩
    unfold dn
    rw [hsd.1, hn]
    exact decide_eq_true h5
/-- The ends ahead of a place. -/
def ahead (l : List Nat) (a : Nat) : List Nat := l.filter fun j => decide (j < a)
theorem ahead_yes {l : List Nat} (hl : l.Pairwise (· < ·)) (a : Nat) (ha : a ∈ l) : ahead l (a + 1) = ahead l a ++ [a] := by
  induction l with
  | nil => cases ha
  | cons x r ih =>
    rw [List.pairwise_cons] at hl
    rcases List.mem_cons.1 ha with rfl | ha
    · have h1 : ahead r (a + 1) = [] := List.filter_eq_nil_iff.2 fun j hj => by
        have := hl.1 j hj
        simp
        omega
      have h2 : ahead r a = [] := List.filter_eq_nil_iff.2 fun j hj => by
        have := hl.1 j hj
        simp
        omega
      unfold ahead at h1 h2 ⊢
      simp [h1, h2]
    · have hx := hl.1 a ha
      have := ih hl.2 ha
      unfold ahead at this ⊢
      simp [this, show x < a + 1 by omega, hx]
theorem ahead_no {l : List Nat} (a : Nat) (ha : ¬ a ∈ l) : ahead l (a + 1) = ahead l a := by
  unfold ahead
  refine List.filter_congr fun j hj => ?_
  have : j ≠ a := fun e => ha (e ▸ hj)
  rw [decide_eq_decide]
  omega
theorem ahead_all {l : List Nat} (a : Nat) (h : ∀ j ∈ l, j < a) : ahead l a = l := List.filter_eq_self.2 fun j hj => decide_eq_true (h j hj)
theorem ahead_none {l : List Nat} (a : Nat) (h : ∀ j ∈ l, a ≤ j) : ahead l a = [] := List.filter_eq_nil_iff.2 fun j hj => by
  have := h j hj
  simp
  omega
/-- Where nothing is begun nothing is come to, there and behind. -/
theorem Bgn.none {ss : List St} {s : List UInt8} {i a : Nat} (h : Bgn ss s i a []) (hia : i ≤ a) : ∀ k a', Rc ss s i k a' → a' < a := by
  have key : ∀ d k, ¬ Rc ss s i k (a + d) := by
    intro d
    induction d with
    | zero =>
      intro k hr
      obtain ⟨k0, hk0, _⟩ := (h k).1 hr
      cases hk0
    | succ d ih =>
      intro k hr
      rcases hr.last with ⟨h1, _⟩ | ⟨a0, k0, k1, h1, h2, _, _⟩
      · omega
      · obtain rfl : a0 = a + d := by omega
        exact ih k0 h2
  intro k a' hr
  rcases Nat.lt_or_ge a' a with h1 | h1
  · exact h1
  · obtain ⟨d, rfl⟩ : ∃ d, a' = a + d := ⟨a' - a, by omega⟩
    exact absurd hr (key d k)
/-- Numbers below N, each once, are N at most. -/
theorem nodup_le (N : Nat) : ∀ (l : List Nat), l.Nodup → (∀ x ∈ l, x < N) → l.length ≤ N := by
  induction N with
  | zero =>
    intro l _ h
    cases l with
    | nil => simp
    | cons x r => exact absurd (h x (by simp)) (by omega)
  | succ N ih =>
    intro l hn h
    have h1 := ih (l.erase N) (hn.erase N) fun x hx => by
      have h2 := h x (List.mem_of_mem_erase hx)
      have h3 : x ≠ N := fun e => by
        subst e
        exact hn.not_mem_erase hx
      omega
    by_cases hN : N ∈ l
    · rw [List.length_erase_of_mem hN] at h1
      omega
    · rw [List.erase_of_not_mem hN] at h1
      omega
end Go.Proofs.YtgnmlnfddcnkbaaDoor
