/- Package mean: ends, from look. (Made by wip/tools/genen.py.) Package mean: ends, of every tree. What the document asks of package mean's Yes. Package mean: Yes. make of a row of bools. What the document's own functions answer: joined. -/
import Derived.Test.YteeamifjldoihaaDoorY15
import Derived.Test.YteeamifjldoihaaDoorY16
import Derived.Test.YteeamifjldoihaaDoorY18
import Derived.Test.YteeamifjldoihaaDoorY14
import Derived.Test.YteeamifjldoihaaDoorY02
import Derived.Test.YteeamifjldoihaaDoorY03
import Derived.Test.YteeamifjldoihaaDoorY17
import Derived.Test.YteeamifjldoihaaDoorY13
import Derived.OwnWalk
import Derived.KernelRfl
namespace Go.Proofs.YteeamifjldoihaaDoor
set_option linter.unusedSimpArgs false
set_option linter.unusedVariables false
set_option maxRecDepth 100000
open Go.RowKit
set_option maxHeartbeats 4000000 in
theorem ends_known (c : Cx) (i a : Nat) (p : Nat → Bool) (w : World) (hA : c.At w) (hW : c.W0.heap.size ≤ w.heap.size)
    (hl : ∀ w' : World, w'.heap[c.M]? = w.heap[c.M]? → (Instr.lookup 98 (.map (some c.M)) (spotV i a) true).run Tryd.prog w' = .ok (.tuple #[plV p, .bool true]) w') :
    Calls Tryd.prog 28 #[.pointer (some ⟨c.rb, 0, none⟩), .int .i64 (i : Int), .int .i64 (a : Int)] w fun e w' => e = .returned (plV p) ∧ c.At w' ∧ w.grownBy w' (some c.M) := by
  unfold plV at hl
  obtain ⟨rb, hrb⟩ : ∃ rb, rb = c.rb := ⟨_, rfl⟩
  obtain ⟨M, hM⟩ : ∃ M, M = c.M := ⟨_, rfl⟩
  rw [← hrb]
  have hlt := hA.lt
  have hMlt := hA.kn.lt
  rw [← hrb] at hlt
  rw [← hM] at hMlt hl
  unfold spotV at hl
  obtain ⟨w2, hw2⟩ : ∃ w2, w2 = (w.alloc (.cells #[.int .u64 0, .int .u64 0, .int .u64 0, .int .u64 0, .int .u64 0, .int .u64 0, .int .u64 0] 72)).alloc (.cells #[.int .i64 (i : Int), .int .i64 (a : Int)] 102) := ⟨_, rfl⟩
  have hZ : Hp w2 w.heap.size noP := by rw [hw2]; exact (Hp.zero _ _ rfl).alloc _
  have hs0 : w2.heap[w.heap.size + 1]? = some (.cells #[.int .i64 (i : Int), .int .i64 (a : Int)] 102 (0, 0)) := by
    rw [hw2]
    have := World.alloc_heap_new (w.alloc (.cells #[.int .u64 0, .int .u64 0, .int .u64 0, .int .u64 0, .int .u64 0, .int .u64 0, .int .u64 0] 72)) (.cells #[.int .i64 (i : Int), .int .i64 (a : Int)] 102)
    rwa [World.size_alloc] at this
  have hg2 : w.grownBy w2 (some M) := by rw [hw2]; exact (World.grownBy_alloc _ _ _).trans (World.grownBy_alloc _ _ _)
  have hA2 : c.At w2 := by rw [hw2]; exact (hA.alloc _).alloc _
  have hsz : w2.heap.size = w.heap.size + 2 := by rw [hw2]; simp
  have hMh : w2.heap[M]? = w.heap[M]? := by rw [hw2, Below.heap_alloc _ _ _ (by simp; omega), Below.heap_alloc _ _ _ hMlt]
  have l0 := hl w2 hMh
  have l1 : ∀ o, _ := fun o => hl (w2.alloc o) ((Below.heap_alloc w2 o M (by omega)).trans hMh)
  have l2 := hl w2.drew hMh
  have l3 : ∀ o, _ := fun o => hl (w2.alloc o).drew ((Below.heap_alloc w2 o M (by omega)).trans hMh)
  have l4 : ∀ o, _ := fun o => hl (w2.drew.alloc o) ((Below.heap_alloc w2 o M (by omega)).trans hMh)
  have s0 : w2.cell? ⟨w.heap.size + 1, 0, none⟩ = some (.int .i64 (i : Int)) := by rw [Lib.cell_of_heap hs0]; rfl
  have s1 : w2.cell? ⟨w.heap.size + 1, 1, none⟩ = some (.int .i64 (a : Int)) := by rw [Lib.cell_of_heap hs0]; rfl
  have s2 : ∀ o, (w2.alloc o).cell? ⟨w.heap.size + 1, 0, none⟩ = some (.int .i64 (i : Int)) := fun o => by rw [Lib.cell_of_heap ((Below.heap_alloc w2 o _ (by omega)).trans hs0)]; rfl
  have s3 : ∀ o, (w2.alloc o).cell? ⟨w.heap.size + 1, 1, none⟩ = some (.int .i64 (a : Int)) := fun o => by rw [Lib.cell_of_heap ((Below.heap_alloc w2 o _ (by omega)).trans hs0)]; rfl
  have d0 : w2.cell? ⟨rb, 2, none⟩ = some (.map (some M)) := by rw [hrb, hM]; exact hA2.c2
  have d1 : ∀ o, (w2.alloc o).cell? ⟨rb, 2, none⟩ = some (.map (some M)) := fun o => by rw [hrb, hM]; exact (hA2.alloc o).c2
  replace hrb := hid hrb
  replace hM := hid hM
  clear hl
  go_enter Tryd.func28, Tryd.ntmps28
  go_wp2_with fail
  rw [← hw2]
  clear hw2
  go_region
  clear l0 l1 l2 l3 l4 s0 s1 s2 s3 d0 d1
  have h3 : Hp (w2.alloc (.cells #[.int .u64 (wd p 0), .int .u64 (wd p 1), .int .u64 (wd p 2), .int .u64 (wd p 3), .int .u64 (wd p 4), .int .u64 (wd p 5), .int .u64 (wd p 6)] 72)).drew w.heap.size noP := (hZ.alloc _).drew
  have hA3 : c.At (w2.alloc (.cells #[.int .u64 (wd p 0), .int .u64 (wd p 1), .int .u64 (wd p 2), .int .u64 (wd p 3), .int .u64 (wd p 4), .int .u64 (wd p 5), .int .u64 (wd p 6)] 72)).drew := (hA2.alloc _).drew
  have hg3 : w.grownBy (w2.alloc (.cells #[.int .u64 (wd p 0), .int .u64 (wd p 1), .int .u64 (wd p 2), .int .u64 (wd p 3), .int .u64 (wd p 4), .int .u64 (wd p 5), .int .u64 (wd p 6)] 72)).drew (some M) := grown_drew (hg2.trans (World.grownBy_alloc w2 _ _))
  have hs3 : (w2.alloc (.cells #[.int .u64 (wd p 0), .int .u64 (wd p 1), .int .u64 (wd p 2), .int .u64 (wd p 3), .int .u64 (wd p 4), .int .u64 (wd p 5), .int .u64 (wd p 6)] 72)).drew.heap[w.heap.size + 1]? = some (.cells #[.int .i64 (i : Int), .int .i64 (a : Int)] 102 (0, 0)) := (Below.heap_alloc w2 _ _ (by omega)).trans hs0
  have hz3 : (w2.alloc (.cells #[.int .u64 (wd p 0), .int .u64 (wd p 1), .int .u64 (wd p 2), .int .u64 (wd p 3), .int .u64 (wd p 4), .int .u64 (wd p 5), .int .u64 (wd p 6)] 72)).drew.heap.size = w.heap.size + 3 := by
    show (w2.alloc _).heap.size = _
    rw [World.size_alloc, hsz]
  have hP3 : Hp (w2.alloc (.cells #[.int .u64 (wd p 0), .int .u64 (wd p 1), .int .u64 (wd p 2), .int .u64 (wd p 3), .int .u64 (wd p 4), .int .u64 (wd p 5), .int .u64 (wd p 6)] 72)).drew (w.heap.size + 2) p := (Hp.new w2 p _ hsz.symm).drew
  clear hZ hs0 hg2 hA2 hs3
  generalize (w2.alloc (.cells #[.int .u64 (wd p 0), .int .u64 (wd p 1), .int .u64 (wd p 2), .int .u64 (wd p 3), .int .u64 (wd p 4), .int .u64 (wd p 5), .int .u64 (wd p 6)] 72)).drew = w3 at *
  clear hMh hsz
  obtain ⟨c0, c1, c2, c3, c4, c5, c6⟩ := hP3.all
  obtain ⟨d0, d1, d2, d3, d4, d5, d6⟩ := h3.all
  obtain ⟨f0, f1, f2, f3, f4, f5, f6⟩ := h3.frz
  go_wp2
  have hq := h3.put7 p
  obtain ⟨e0, e1, e2, e3, e4, e5, e6⟩ := hq.all
  rw [hM.out] at hMlt
  rw [hrb.out] at hlt
  refine bodyPost_ret (v := plV p) (by simp [results, Tryd.results28, go_sem, plV, e0, e1, e2, e3, e4, e5, e6]) rfl ⟨rfl, hA3.turn (grown_put7 _ _ _) (fun r e => by cases e; exact ⟨hW, by omega, by omega⟩), ?_⟩
  rw [← hM.out]
  exact grown_new hg3 (grown_put7 w3 w.heap.size p) (Nat.le_refl _)
set_option maxHeartbeats 4000000 in
theorem ends_new (c : Cx) (i a : Nat) (hi : i < 60) (ha : a < 401) (p : Nat → Bool) (hok : c.ok i a (plV p)) (hcM : c.W0.heap.size ≤ c.M) (hne : c.rb ≠ c.M) (w : World) (hA : c.At w) (hW : c.W0.heap.size ≤ w.heap.size)
    (hL : ∀ w, c.At w → Calls Tryd.prog 49 #[.pointer (some ⟨c.rb, 0, none⟩), .int .i64 (i : Int), .int .i64 (a : Int)] w fun e w' => e = .returned (plV p) ∧ c.At w' ∧ w.grownBy w' (some c.M))
    (hl : ∀ w' : World, w'.heap[c.M]? = w.heap[c.M]? → (Instr.lookup 98 (.map (some c.M)) (spotV i a) true).run Tryd.prog w' = .ok (.tuple #[.agg #[.int .u64 0, .int .u64 0, .int .u64 0, .int .u64 0, .int .u64 0, .int .u64 0, .int .u64 0], .bool false]) w') :
    Calls Tryd.prog 28 #[.pointer (some ⟨c.rb, 0, none⟩), .int .i64 (i : Int), .int .i64 (a : Int)] w fun e w' => e = .returned (plV p) ∧ c.At w' ∧ w.grownBy w' (some c.M) := by
  replace hL := hid hL
  obtain ⟨rb, hrb⟩ : ∃ rb, rb = c.rb := ⟨_, rfl⟩
  obtain ⟨M, hM⟩ : ∃ M, M = c.M := ⟨_, rfl⟩
  rw [← hrb]
  have hlt := hA.lt
  have hMlt := hA.kn.lt
  rw [← hrb] at hlt
  rw [← hM] at hMlt hl
  unfold spotV at hl
  obtain ⟨w2, hw2⟩ : ∃ w2, w2 = (w.alloc (.cells #[.int .u64 0, .int .u64 0, .int .u64 0, .int .u64 0, .int .u64 0, .int .u64 0, .int .u64 0] 72)).alloc (.cells #[.int .i64 (i : Int), .int .i64 (a : Int)] 102) := ⟨_, rfl⟩
  have hZ : Hp w2 w.heap.size noP := by rw [hw2]; exact (Hp.zero _ _ rfl).alloc _
  have hs0 : w2.heap[w.heap.size + 1]? = some (.cells #[.int .i64 (i : Int), .int .i64 (a : Int)] 102 (0, 0)) := by
    rw [hw2]
    have := World.alloc_heap_new (w.alloc (.cells #[.int .u64 0, .int .u64 0, .int .u64 0, .int .u64 0, .int .u64 0, .int .u64 0, .int .u64 0] 72)) (.cells #[.int .i64 (i : Int), .int .i64 (a : Int)] 102)
    rwa [World.size_alloc] at this
  have hg2 : w.grownBy w2 (some M) := by rw [hw2]; exact (World.grownBy_alloc _ _ _).trans (World.grownBy_alloc _ _ _)
  have hA2 : c.At w2 := by rw [hw2]; exact (hA.alloc _).alloc _
  have hsz : w2.heap.size = w.heap.size + 2 := by rw [hw2]; simp
  have hMh : w2.heap[M]? = w.heap[M]? := by rw [hw2, Below.heap_alloc _ _ _ (by simp; omega), Below.heap_alloc _ _ _ hMlt]
  have l0 := hl w2 hMh
  have l1 : ∀ o, _ := fun o => hl (w2.alloc o) ((Below.heap_alloc w2 o M (by omega)).trans hMh)
  have l2 := hl w2.drew hMh
  have l3 : ∀ o, _ := fun o => hl (w2.alloc o).drew ((Below.heap_alloc w2 o M (by omega)).trans hMh)
  have l4 : ∀ o, _ := fun o => hl (w2.drew.alloc o) ((Below.heap_alloc w2 o M (by omega)).trans hMh)
  have s0 : w2.cell? ⟨w.heap.size + 1, 0, none⟩ = some (.int .i64 (i : Int)) := by rw [Lib.cell_of_heap hs0]; rfl
  have s1 : w2.cell? ⟨w.heap.size + 1, 1, none⟩ = some (.int .i64 (a : Int)) := by rw [Lib.cell_of_heap hs0]; rfl
  have s2 : ∀ o, (w2.alloc o).cell? ⟨w.heap.size + 1, 0, none⟩ = some (.int .i64 (i : Int)) := fun o => by rw [Lib.cell_of_heap ((Below.heap_alloc w2 o _ (by omega)).trans hs0)]; rfl
  have s3 : ∀ o, (w2.alloc o).cell? ⟨w.heap.size + 1, 1, none⟩ = some (.int .i64 (a : Int)) := fun o => by rw [Lib.cell_of_heap ((Below.heap_alloc w2 o _ (by omega)).trans hs0)]; rfl
  have d0 : w2.cell? ⟨rb, 2, none⟩ = some (.map (some M)) := by rw [hrb, hM]; exact hA2.c2
  have d1 : ∀ o, (w2.alloc o).cell? ⟨rb, 2, none⟩ = some (.map (some M)) := fun o => by rw [hrb, hM]; exact (hA2.alloc o).c2
  replace hrb := hid hrb
  replace hM := hid hM
  clear hl
  go_enter Tryd.func28, Tryd.ntmps28
  go_wp2_with fail
  rw [← hw2]
  clear hw2
  go_region
  clear l0 l1 l2 l3 l4 s0 s1 s2 s3 d0 d1
  have h3 : Hp (w2.alloc (.cells #[.int .u64 0, .int .u64 0, .int .u64 0, .int .u64 0, .int .u64 0, .int .u64 0, .int .u64 0] 72)).drew w.heap.size noP := (hZ.alloc _).drew
  have hA3 : c.At (w2.alloc (.cells #[.int .u64 0, .int .u64 0, .int .u64 0, .int .u64 0, .int .u64 0, .int .u64 0, .int .u64 0] 72)).drew := (hA2.alloc _).drew
  have hg3 : w.grownBy (w2.alloc (.cells #[.int .u64 0, .int .u64 0, .int .u64 0, .int .u64 0, .int .u64 0, .int .u64 0, .int .u64 0] 72)).drew (some M) := grown_drew (hg2.trans (World.grownBy_alloc w2 _ _))
  have hs3 : (w2.alloc (.cells #[.int .u64 0, .int .u64 0, .int .u64 0, .int .u64 0, .int .u64 0, .int .u64 0, .int .u64 0] 72)).drew.heap[w.heap.size + 1]? = some (.cells #[.int .i64 (i : Int), .int .i64 (a : Int)] 102 (0, 0)) := (Below.heap_alloc w2 _ _ (by omega)).trans hs0
  have hz3 : (w2.alloc (.cells #[.int .u64 0, .int .u64 0, .int .u64 0, .int .u64 0, .int .u64 0, .int .u64 0, .int .u64 0] 72)).drew.heap.size = w.heap.size + 3 := by
    show (w2.alloc _).heap.size = _
    rw [World.size_alloc, hsz]
  clear hZ hs0 hg2 hA2
  generalize (w2.alloc (.cells #[.int .u64 0, .int .u64 0, .int .u64 0, .int .u64 0, .int .u64 0, .int .u64 0, .int .u64 0] 72)).drew = w3 at *
  clear hMh hsz
  go_wp2_with fail
  rw [hrb.out]
  refine (hL.out _ hA3).mono ?_
  rintro e w4 ⟨rfl, hA4, hg4⟩
  rw [← hrb.out]
  have h4 := h3.grown hg4 (by rw [← hM.out]; simp; omega)
  have hs4 := (hg4.block (w.heap.size + 1) (by omega) (by rw [← hM.out]; simp; omega)).trans hs3
  have hz4 := hg4.size
  clear hL h3 hs3 hA3
  obtain ⟨w5, hw5⟩ : ∃ w5, w5 = w4.alloc (.cells #[.int .u64 (wd p 0), .int .u64 (wd p 1), .int .u64 (wd p 2), .int .u64 (wd p 3), .int .u64 (wd p 4), .int .u64 (wd p 5), .int .u64 (wd p 6)] 72) := ⟨_, rfl⟩
  have hP5 : Hp w5 w4.heap.size p := by rw [hw5]; exact Hp.new w4 p _ rfl
  have h5 : Hp w5 w.heap.size noP := by rw [hw5]; exact h4.alloc _
  have hA5 : c.At w5 := by rw [hw5]; exact hA4.alloc _
  have hg5 : w4.grownBy w5 (some M) := by rw [hw5]; exact World.grownBy_alloc _ _ _
  have hs5 : w5.heap[w.heap.size + 1]? = some (.cells #[.int .i64 (i : Int), .int .i64 (a : Int)] 102 (0, 0)) := by rw [hw5]; exact (Below.heap_alloc w4 _ _ (by omega)).trans hs4
  have hz5 : w5.heap.size = w4.heap.size + 1 := by rw [hw5]; simp
  have s0 : w5.cell? ⟨w.heap.size + 1, 0, none⟩ = some (.int .i64 (i : Int)) := by rw [Lib.cell_of_heap hs5]; rfl
  have s1 : w5.cell? ⟨w.heap.size + 1, 1, none⟩ = some (.int .i64 (a : Int)) := by rw [Lib.cell_of_heap hs5]; rfl
  have d0 : w5.cell? ⟨rb, 2, none⟩ = some (.map (some M)) := by rw [hrb.out, hM.out]; exact hA5.c2
  obtain ⟨c0, c1, c2, c3, c4, c5, c6⟩ := hP5.all
  obtain ⟨w6, hrun, hk6, hg6⟩ := hA5.drew.kn.store i a (plV p) hi ha hok
  rw [← hM.out] at hrun hg6
  replace hk6 := hid hk6
  unfold spotV plV at hrun
  unfold plV
  go_wp2_with fail
  rw [← hw5]
  clear hw5
  go_region
  have hA6 : c.At w6 := ⟨hA5.drew.bel.grown hg6 hA5.bel.size (fun k e => by cases e; rw [hM.out]; exact hcM), (hg6.block c.rb hA5.lt (by rw [hM.out]; simpa using hne)).trans hA5.rd, hk6.out⟩
  have hP6 : Hp w6 w4.heap.size p := hP5.drew.grown hg6 (by simp; omega)
  have h6 : Hp w6 w.heap.size noP := h5.drew.grown hg6 (by simp; omega)
  have hgw : w.grownBy w6 (some M) := ((hg3.trans (by rw [hM.out]; exact hg4)).trans (grown_drew hg5)).trans hg6
  clear s0 s1 d0 c0 c1 c2 c3 c4 c5 c6 hrun hk6 hP5 h5 hA5 hA4 h4 hs4 hs5 hok
  obtain ⟨c0, c1, c2, c3, c4, c5, c6⟩ := hP6.all
  obtain ⟨d0, d1, d2, d3, d4, d5, d6⟩ := h6.all
  obtain ⟨f0, f1, f2, f3, f4, f5, f6⟩ := h6.frz
  go_wp2
  have hq := h6.put7 p
  obtain ⟨e0, e1, e2, e3, e4, e5, e6⟩ := hq.all
  rw [hM.out] at hMlt
  rw [hrb.out] at hlt
  refine bodyPost_ret (v := plV p) (by simp [results, Tryd.results28, go_sem, plV, e0, e1, e2, e3, e4, e5, e6]) rfl ⟨rfl, hA6.turn (grown_put7 _ _ _) (fun r e => by cases e; exact ⟨hW, by omega, by omega⟩), ?_⟩
  rw [← hM.out]
  exact grown_new hgw (grown_put7 w6 w.heap.size p) (Nat.le_refl _)
theorem ends_of {c : Cx} (hc : c.Good) {t : Rx} (ht : t.Ok) {p q : List Nd} (hns : c.ns = p ++ t.flat ++ q) (a : Nat) (ha : a ≤ c.s.size) (hL : LookOk c t p.length a) : EndsOk c t p.length a := by
  intro w hA
  have h1 := flat_lt hns
  have h2 := hc.len
  have h3 := hc.size
  have hW := hA.bel.size
  rcases hA.kn.look p.length a (by omega) (by omega) with ⟨x, hx, hl⟩ | hl
  · rw [Cx.ok_one ht hns hx] at hl
    exact ends_known c _ a _ w hA hW hl
  · exact ends_new c _ a (by omega) (by omega) _ ⟨t, p, q, ht, hns, rfl, ha, rfl⟩ hc.hM hc.ne w hA hW hL hl
end Go.Proofs.YteeamifjldoihaaDoor
namespace Go.Proofs.YteeamifjldoihaaDoor
set_option linter.unusedSimpArgs false
set_option linter.unusedVariables false
set_option maxRecDepth 100000
open Go.RowKit
theorem op_range {c : Cx} (hc : c.Good) {n : Nd} (h : n ∈ c.ns) : 1 ≤ n.op ∧ n.op ≤ 9 := (((faultL_zero c.ns).1 hc.fault).2.1 n h).1
/-- ends, at every tree of a pattern that may be, from every place. -/
theorem ends_tree {c : Cx} (hc : c.Good) : ∀ (t : Rx), t.Ok → ∀ (p q : List Nd), c.ns = p ++ t.flat ++ q → ∀ a, a ≤ c.s.size → EndsOk c t p.length a
  | .leaf n, ht, p, q, hns, a, ha => by
    have hr := op_range hc (n := n) (by rw [hns]; simp [Rx.flat])
    have hp : prt n.op = 0 := ht
    refine ends_of hc ht hns a ha ?_
    by_cases h1 : n.op = 1
    · by_cases hin : a < c.s.size
      · exact look_byteIn hc n hns h1 a ha hin
      · exact look_byteOut hc n hns h1 a ha (by omega)
    · by_cases h8 : n.op = 8
      · exact look_begin hc n hns h8 a ha
      · by_cases h9 : n.op = 9
        · exact look_end hc n hns h9 a ha
        · have h2 : n.op = 2 := by
            unfold prt at hp
            split at hp
            · cases hp
            · split at hp
              · cases hp
              · omega
          exact look_empty hc n hns h2 a ha
  | .one n t, ht, p, q, hns, a, ha => by
    have hp : prt n.op = 1 := ht.1
    have hns2 : c.ns = (p ++ [n]) ++ t.flat ++ q := by rw [hns]; simp [Rx.flat]
    have EA : ∀ k, k ≤ c.s.size → EndsOk c t (p.length + 1) k := fun k hk => by
      have := ends_tree hc t ht.2 (p ++ [n]) q hns2 k hk
      rwa [show (p ++ [n]).length = p.length + 1 by simp] at this
    have hop : n.op = 5 ∨ n.op = 6 ∨ n.op = 7 := by
      unfold prt at hp
      split at hp
      · cases hp
      · split at hp
        · assumption
        · cases hp
    have key : ∀ d k, k ≤ c.s.size → c.s.size - k ≤ d → EndsOk c (.one n t) p.length k := by
      intro d
      induction d with
      | zero =>
        intro k hk hd
        have ES : ∀ j, k < j → j ≤ c.s.size → EndsOk c (.one n t) p.length j := fun j h1 h2 => absurd h2 (by omega)
        refine ends_of hc ht hns k hk ?_
        rcases hop with h | h | h
        · exact look_star hc n t hns h k hk (EA k hk) ES
        · exact look_plus hc n t hns h k hk (EA k hk) ES
        · exact look_opt hc n t hns h k hk (EA k hk)
      | succ d ih =>
        intro k hk hd
        have ES : ∀ j, k < j → j ≤ c.s.size → EndsOk c (.one n t) p.length j := fun j h1 h2 => ih j h2 (by omega)
        refine ends_of hc ht hns k hk ?_
        rcases hop with h | h | h
        · exact look_star hc n t hns h k hk (EA k hk) ES
        · exact look_plus hc n t hns h k hk (EA k hk) ES
        · exact look_opt hc n t hns h k hk (EA k hk)
    exact key _ a ha (Nat.le_refl _)
  | .two n t u, ht, p, q, hns, a, ha => by
    have hp : prt n.op = 2 := ht.1
    have hns2 : c.ns = (p ++ [n]) ++ t.flat ++ (u.flat ++ q) := by rw [hns]; simp [Rx.flat]
    have hns3 : c.ns = (p ++ [n] ++ t.flat) ++ u.flat ++ q := by rw [hns]; simp [Rx.flat]
    have EA : EndsOk c t (p.length + 1) a := by
      have := ends_tree hc t ht.2.1 (p ++ [n]) _ hns2 a ha
      rwa [show (p ++ [n]).length = p.length + 1 by simp] at this
    have EB : ∀ k, k ≤ c.s.size → EndsOk c u (p.length + 1 + t.flat.length) k := fun k hk => by
      have := ends_tree hc u ht.2.2 (p ++ [n] ++ t.flat) _ hns3 k hk
      rwa [show (p ++ [n] ++ t.flat).length = p.length + 1 + t.flat.length by simp; omega] at this
    have hop : n.op = 3 ∨ n.op = 4 := by
      unfold prt at hp
      split at hp
      · assumption
      · split at hp <;> cases hp
    refine ends_of hc ht hns a ha ?_
    rcases hop with h | h
    · exact look_cat hc n t u ht hns h a ha EA EB
    · exact look_or hc n t u ht hns h a ha EA (EB a ha)
/-- A reader that is new. -/
theorem cx_new {w1 : World} {b off cap : Nat} {t : Rx} (hn : NsAt w1 b off t.flat) (hlt : b < w1.heap.size) (hf : faultL t.flat = 0) (hw : ∀ n ∈ t.flat, n.wf) (s : ByteArray) (hs : s.size ≤ 400) (hT : Tab w1) :
    (Cx.mk w1 (w1.heap.size + 1) w1.heap.size b off cap t.flat s).Good ∧ (Cx.mk w1 (w1.heap.size + 1) w1.heap.size b off cap t.flat s).At ((w1.alloc (.map #[] 0)).alloc (.cells #[.slice (some ⟨b, off, none⟩) t.flat.length cap, .string s, .map (some w1.heap.size)] 100)) := by
  refine ⟨⟨hn, hlt, hf, hw, hs, hT, Nat.le_succ _, Nat.le_refl _, by simp⟩, ⟨((Below.refl _ w1).alloc (Nat.le_refl _) _).alloc (by simp) _, ?_, ?_⟩⟩
  · have := World.alloc_heap_new (w1.alloc (.map #[] 0)) (.cells #[.slice (some ⟨b, off, none⟩) t.flat.length cap, .string s, .map (some w1.heap.size)] 100)
    rwa [World.size_alloc] at this
  · exact (Kn.made w1 _).kept (World.grownBy_alloc _ _ none) (by simp)
end Go.Proofs.YteeamifjldoihaaDoor
namespace Go.Proofs.YteeamifjldoihaaDoor
set_option linter.unusedSimpArgs false
set_option linter.unusedVariables false
set_option maxRecDepth 100000
open Go.RowKit
/-- What the document asks of Yes. -/
structure MeanY : Prop where
  bad : ∀ ns v (s : ByteArray) w, NsIn w v ns → (∀ n ∈ ns, n.wf) → s.size ≤ maxLen → ¬ meanF ns s.size = 0 → Calls Tryd.prog 14 #[v, .string s] w fun e w' => e = .returned (.tuple #[.bool false, errV (meanF ns s.size)]) ∧ Below w.heap.size w w'
  yes : ∀ (t : Rx) v (s : ByteArray) (y : Bool) w, Tab w → t.Ok → NsIn w v t.flat → (∀ n ∈ t.flat, n.wf) → meanF t.flat s.size = 0 → (y = true ↔ Fit s.data.toList t 0 s.size) → Calls Tryd.prog 14 #[v, .string s] w fun e w' => e = .returned (.tuple #[.bool y, .nilIface]) ∧ Below w.heap.size w w'
end Go.Proofs.YteeamifjldoihaaDoor
namespace Go.Proofs.YteeamifjldoihaaDoor
set_option linter.unusedSimpArgs false
set_option linter.unusedVariables false
set_option maxRecDepth 100000
open Go.RowKit
set_option maxHeartbeats 4000000 in
theorem myes_any (t : Rx) (v : Value) (s : ByteArray) (y : Bool) (w : World) (hT : Tab w) (ht : t.Ok) (hN : NsIn w v t.flat) (hw : ∀ n ∈ t.flat, n.wf) (hE : meanF t.flat s.size = 0) (hy : y = true ↔ Fit s.data.toList t 0 s.size) :
    Calls Tryd.prog 14 #[v, .string s] w fun e w' => e = .returned (.tuple #[.bool y, .nilIface]) ∧ Below w.heap.size w w' := by
  obtain ⟨hf, h4⟩ := (meanF_zero _ _).1 hE
  have C := mcheck_any t.flat v s w hN (by unfold maxLen; omega)
  rw [hE, show errV 0 = .nilIface from rfl] at C
  replace C := hid C
  obtain ⟨a, cap, rfl, hm, h | ⟨b, off, rfl, hlt, hn⟩⟩ := hN
  · exact absurd t.flat_pos (by rw [h]; simp)
  have HX : Hid (∀ w1, Below w.heap.size w w1 → (Cx.mk w1 (w1.heap.size + 1) w1.heap.size b off cap t.flat s).Good ∧ (Cx.mk w1 (w1.heap.size + 1) w1.heap.size b off cap t.flat s).At ((w1.alloc (.map #[] 0)).alloc (.cells #[.slice (some ⟨b, off, none⟩) t.flat.length cap, .string s, .map (some w1.heap.size)] 100))) := fun w1 hb => cx_new (hn.below hb hlt) (Nat.lt_of_lt_of_le hlt hb.size) hf hw s h4 (hT.below hb (Nat.le_refl _))
  have hyy : fs s.data.toList t 0 s.size = y := by
    rw [Bool.eq_iff_iff, fs_iff, hy]
  have HP := hid (phas_any (fs s.data.toList t 0) s.size (by omega))
  rw [hyy] at HP
  clear hn hE hw hyy hy hT
  go_enter Tryd.func14, Tryd.ntmps14
  go_wp2_with fail
  refine C.out.mono ?_
  rintro e w1 ⟨rfl, hb⟩
  obtain ⟨hG, hA⟩ := HX.out w1 hb
  have HE := ends_tree hG t ht [] [] (by simp) 0 (Nat.zero_le _) _ hA
  replace HE := hid HE
  replace hA := hid hA
  replace hG := hid hG
  replace hb := hid hb
  clear HX C
  go_wp2_with fail
  refine (reading_any _ _ _ _ _).mono ?_
  rintro e w2 ⟨rfl, rfl⟩
  go_wp2_with fail
  refine Calls.mono HE.out ?_
  rintro e w3 ⟨rfl, hA3, _⟩
  have hB3 := hid (hb.out.trans (hA3.bel.mono hb.out.size))
  replace hA3 := hid hA3
  clear HE hA
  unfold plV at HP ⊢
  go_wp2_with fail
  refine Calls.mono (HP.out _) ?_
  rintro e w4 ⟨rfl, hb4⟩
  go_wp2
  go_ret2
  exact ⟨rfl, hB3.out.trans (hb4.mono hB3.out.size)⟩
set_option maxHeartbeats 4000000 in
theorem myes_bad (ns : List Nd) (v : Value) (s : ByteArray) (w : World) (hN : NsIn w v ns) (hs : s.size ≤ maxLen) (hE : ¬ meanF ns s.size = 0) :
    Calls Tryd.prog 14 #[v, .string s] w fun e w' => e = .returned (.tuple #[.bool false, errV (meanF ns s.size)]) ∧ Below w.heap.size w w' := by
  have C := hid (mcheck_any ns v s w hN hs)
  rw [show errV (meanF ns s.size) = .iface 24 (.int .i64 (meanF ns s.size)) by unfold errV; rw [if_neg hE]] at C ⊢
  obtain ⟨a, cap, rfl, hm, _⟩ := hN
  go_enter Tryd.func14, Tryd.ntmps14
  go_wp2_with fail
  refine C.out.mono ?_
  rintro e w1 ⟨rfl, hb⟩
  go_wp2
  go_ret2
  exact ⟨rfl, hb⟩
theorem meanY : MeanY := ⟨fun ns v s w hN _ hs hE => myes_bad ns v s w hN hs hE, fun t v s y w hT ht hN hw hE hy => myes_any t v s y w hT ht hN hw hE hy⟩
end Go.Proofs.YteeamifjldoihaaDoor
namespace Go.Proofs.YteeamifjldoihaaDoor
set_option linter.unusedSimpArgs false
set_option linter.unusedVariables false
set_option maxRecDepth 100000
open Go.RowKit
set_option maxHeartbeats 4000000 in
theorem made_bools (n : Nat) : madeCells #[Value.bool false] (n * 1) = Array.replicate n (Value.bool false) := by
  apply Array.ext
  · simp [madeCells]
  · intro i h1 h2
    simp [madeCells, Nat.mod_one]
theorem mkB (N : Nat) (hN : N ≤ 1000000) (u : World) : (Instr.makeSlice 64 (.int .i64 ((N : Int) + 1)) (.int .i64 ((N : Int) + 1))).run Tryd.prog u = .ok (.slice (some ⟨u.heap.size, 0, none⟩) (N + 1) (N + 1)) (u.alloc (.cells (rowB N fun _ => false) 4)) := by
  have hinfo : (Tryd.prog.info? 4).map (fun i => (i.zero, i.size, i.bytes)) = some (some (.bool false), 1, 1) := by kernel_rfl
  obtain ⟨i0, hi, hz0, hz1, hz2⟩ := info_parts hinfo
  have h := run_make (P := Tryd.prog) u 64 4 i0 (.bool false) Tryd.underlying64 hi hz0 .i64 .i64 ((N : Int) + 1) ((N : Int) + 1) (by omega) (Int.le_refl _) (by rw [hz2]; omega) (by omega)
  have e : ((N : Int) + 1).toNat = N + 1 := by omega
  rw [e, hz1, show (Value.bool false).cells = #[Value.bool false] from rfl, made_bools, rowB_new] at h
  exact h
theorem BsRow.new' (w : World) (N : Nat) (A : Nat → Bool) : BsRow (w.alloc (.cells (rowB N A) 4)) w.heap.size N A := by
  show (w.heap.push _)[w.heap.size]? = _
  simp
end Go.Proofs.YteeamifjldoihaaDoor
namespace Go.Proofs.YteeamifjldoihaaDoor
set_option linter.unusedSimpArgs false
set_option linter.unusedVariables false
set_option maxRecDepth 100000
open Go.RowKit
set_option maxHeartbeats 4000000 in
theorem joined_any (N : Nat) (hN : N ≤ 1000000) (A B : Nat → Bool) (v u : Value) (w : World) (hA : BsIn w v N A) (hB : BsIn w u N B) :
    Calls Tryd.prog 43 #[v, u] w fun e w' => ∃ x, e = .returned x ∧ Below w.heap.size w w' ∧ BsIn w' x N fun i => A i || B i := by
  obtain ⟨b1, o1, c1, rfl, l1, hA⟩ := hA
  obtain ⟨b2, o2, c2, rfl, l2, hB⟩ := hB
  have hmk := mkB N hN
  obtain ⟨g, hg⟩ : ∃ g, g = w.heap.size := ⟨_, rfl⟩
  have HNew : Hid (BsRow (w.alloc (.cells (rowB N fun _ => false) 4)) g N fun _ => false) := hg ▸ BsRow.new' w N _
  go_enter Tryd.func43, Tryd.ntmps43
  go_wp2
  rw [← hg]
  have HG := hid hg
  clear hg
  go_loopw [6] (fun v wr => ∃ (i : Nat) (C : Nat → Bool), i ≤ N + 1 ∧ v = .int .i64 i ∧ BsRow wr g N C ∧ Hid (∀ j, C j = (decide (j < i) && (A j || B j))) ∧ Below w.heap.size w wr) (fun v _ => N + 1 - (intOf v).toNat)
  case atStart => exact ⟨0, fun _ => false, by omega, rfl, HNew.out, fun j => by simp, (Below.refl _ _).alloc (Nat.le_refl _) _⟩
  case round =>
    obtain ⟨i, C, hi, rfl, hR, HC, hb⟩ := hrel
    by_cases hil : i < N + 1
    · have a0 := (hA.below hb l1) i (by omega)
      have d0 := (hB.below hb l2) i (by omega)
      have f0 := hR.free i
      have g0 := hR.at i (by omega)
      rw [Nat.zero_add] at g0
      have i0 : (0 : Int) ≤ (i : Int) := by omega
      have i1 : (i : Int) < (N : Int) + 1 := by omega
      cases hx : A i <;> cases hy : B i
      all_goals
        rw [hx] at a0
        rw [hy] at d0
        have HR := hid (hR.set i (A i || B i))
        rw [hx, hy] at HR
        have HC2 : Hid (∀ j, upd C i (A i || B i) j = (decide (j < i + 1) && (A j || B j))) := by
          intro j
          unfold upd
          split
          · rename_i e; subst e; simp
          · rename_i e; rw [HC.out j]; congr 1; exact decide_eq_decide.2 (by omega)
        rw [hx, hy] at HC2
        have HB := hid (hb.setCell (p := ⟨g, i, none⟩) (by simp [HG.out]) (.bool (A i || B i)))
        rw [hx, hy] at HB
        clear hx hy hb hR
        go_wp2
        exact ⟨⟨i + 1, _, by omega, by go_num, HR.out, HC2, HB.out⟩, by simp [intOf]; omega⟩
    · go_wp2
      go_ret
      refine ⟨_, rfl, hb, (hR.congr fun j hj => ?_).isIn _⟩
      rw [HC.out j, decide_eq_true (by omega), Bool.true_and]
end Go.Proofs.YteeamifjldoihaaDoor
