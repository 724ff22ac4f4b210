/- Package mean: ends, from look. (Made by wip/tools/genen.py.) Package mean: Ends, of every tree. What the document's own functions answer: Count. What the document's own functions answer: Parts, EndOf. -/
import Derived.Test.YtlejbnmeeonblaaDoorY07
import Derived.Test.YtlejbnmeeonblaaDoorY08
import Derived.Test.YtlejbnmeeonblaaDoorY09
import Derived.Test.YtlejbnmeeonblaaDoorY10
import Derived.Test.YtlejbnmeeonblaaDoorY02
namespace Go.Proofs.YtlejbnmeeonblaaDoor
set_option linter.unusedSimpArgs false
set_option linter.unusedVariables false
set_option maxRecDepth 100000
open Go.RowKit
set_option maxHeartbeats 4000000 in
theorem ends_known (c : Cx) (i a : Nat) (p : Nat → Bool) (w : World) (hA : c.At w) (hW : c.W0.heap.size ≤ w.heap.size)
    (hl : ∀ w' : World, w'.heap[c.M]? = w.heap[c.M]? → (Instr.lookup 78 (.map (some c.M)) (spotV i a) true).run Tryd.prog w' = .ok (.tuple #[plV p, .bool true]) w') :
    Calls Tryd.prog 24 #[.pointer (some ⟨c.rb, 0, none⟩), .int .i64 (i : Int), .int .i64 (a : Int)] w fun e w' => e = .returned (plV p) ∧ c.At w' ∧ w.grownBy w' (some c.M) := by
  unfold plV at hl
  obtain ⟨rb, hrb⟩ : ∃ rb, rb = c.rb := ⟨_, rfl⟩
  obtain ⟨M, hM⟩ : ∃ M, M = c.M := ⟨_, rfl⟩
  rw [← hrb]
  have hlt := hA.lt
  have hMlt := hA.kn.lt
  rw [← hrb] at hlt
  rw [← hM] at hMlt hl
  unfold spotV at hl
  obtain ⟨w2, hw2⟩ : ∃ w2, w2 = (w.alloc (.cells #[.int .u64 0, .int .u64 0, .int .u64 0, .int .u64 0, .int .u64 0, .int .u64 0, .int .u64 0] 62)).alloc (.cells #[.int .i64 (i : Int), .int .i64 (a : Int)] 82) := ⟨_, rfl⟩
  have hZ : Hp w2 w.heap.size noP := by rw [hw2]; exact (Hp.zero _ _ rfl).alloc _
  have hs0 : w2.heap[w.heap.size + 1]? = some (.cells #[.int .i64 (i : Int), .int .i64 (a : Int)] 82 (0, 0)) := by
    rw [hw2]
    have := World.alloc_heap_new (w.alloc (.cells #[.int .u64 0, .int .u64 0, .int .u64 0, .int .u64 0, .int .u64 0, .int .u64 0, .int .u64 0] 62)) (.cells #[.int .i64 (i : Int), .int .i64 (a : Int)] 82)
    rwa [World.size_alloc] at this
  have hg2 : w.grownBy w2 (some M) := by rw [hw2]; exact (World.grownBy_alloc _ _ _).trans (World.grownBy_alloc _ _ _)
  have hA2 : c.At w2 := by rw [hw2]; exact (hA.alloc _).alloc _
  have hsz : w2.heap.size = w.heap.size + 2 := by rw [hw2]; simp
  have hMh : w2.heap[M]? = w.heap[M]? := by rw [hw2, Below.heap_alloc _ _ _ (by simp; omega), Below.heap_alloc _ _ _ hMlt]
  have l0 := hl w2 hMh
  have l1 : ∀ o, _ := fun o => hl (w2.alloc o) ((Below.heap_alloc w2 o M (by omega)).trans hMh)
  have l2 := hl w2.drew hMh
  have l3 : ∀ o, _ := fun o => hl (w2.alloc o).drew ((Below.heap_alloc w2 o M (by omega)).trans hMh)
  have l4 : ∀ o, _ := fun o => hl (w2.drew.alloc o) ((Below.heap_alloc w2 o M (by omega)).trans hMh)
  have s0 : w2.cell? ⟨w.heap.size + 1, 0, none⟩ = some (.int .i64 (i : Int)) := by rw [Lib.cell_of_heap hs0]; rfl
  have s1 : w2.cell? ⟨w.heap.size + 1, 1, none⟩ = some (.int .i64 (a : Int)) := by rw [Lib.cell_of_heap hs0]; rfl
  have s2 : ∀ o, (w2.alloc o).cell? ⟨w.heap.size + 1, 0, none⟩ = some (.int .i64 (i : Int)) := fun o => by rw [Lib.cell_of_heap ((Below.heap_alloc w2 o _ (by omega)).trans hs0)]; rfl
  have s3 : ∀ o, (w2.alloc o).cell? ⟨w.heap.size + 1, 1, none⟩ = some (.int .i64 (a : Int)) := fun o => by rw [Lib.cell_of_heap ((Below.heap_alloc w2 o _ (by omega)).trans hs0)]; rfl
  have d0 : w2.cell? ⟨rb, 2, none⟩ = some (.map (some M)) := by rw [hrb, hM]; exact hA2.c2
  have d1 : ∀ o, (w2.alloc o).cell? ⟨rb, 2, none⟩ = some (.map (some M)) := fun o => by rw [hrb, hM]; exact (hA2.alloc o).c2
  replace hrb := hid hrb
  replace hM := hid hM
  clear hl
  go_enter Tryd.func24, Tryd.ntmps24
  go_wp2_with fail
  rw [← hw2]
  clear hw2
  go_region
  clear l0 l1 l2 l3 l4 s0 s1 s2 s3 d0 d1
  have h3 : Hp (w2.alloc (.cells #[.int .u64 (wd p 0), .int .u64 (wd p 1), .int .u64 (wd p 2), .int .u64 (wd p 3), .int .u64 (wd p 4), .int .u64 (wd p 5), .int .u64 (wd p 6)] 62)).drew w.heap.size noP := (hZ.alloc _).drew
  have hA3 : c.At (w2.alloc (.cells #[.int .u64 (wd p 0), .int .u64 (wd p 1), .int .u64 (wd p 2), .int .u64 (wd p 3), .int .u64 (wd p 4), .int .u64 (wd p 5), .int .u64 (wd p 6)] 62)).drew := (hA2.alloc _).drew
  have hg3 : w.grownBy (w2.alloc (.cells #[.int .u64 (wd p 0), .int .u64 (wd p 1), .int .u64 (wd p 2), .int .u64 (wd p 3), .int .u64 (wd p 4), .int .u64 (wd p 5), .int .u64 (wd p 6)] 62)).drew (some M) := grown_drew (hg2.trans (World.grownBy_alloc w2 _ _))
  have hs3 : (w2.alloc (.cells #[.int .u64 (wd p 0), .int .u64 (wd p 1), .int .u64 (wd p 2), .int .u64 (wd p 3), .int .u64 (wd p 4), .int .u64 (wd p 5), .int .u64 (wd p 6)] 62)).drew.heap[w.heap.size + 1]? = some (.cells #[.int .i64 (i : Int), .int .i64 (a : Int)] 82 (0, 0)) := (Below.heap_alloc w2 _ _ (by omega)).trans hs0
  have hz3 : (w2.alloc (.cells #[.int .u64 (wd p 0), .int .u64 (wd p 1), .int .u64 (wd p 2), .int .u64 (wd p 3), .int .u64 (wd p 4), .int .u64 (wd p 5), .int .u64 (wd p 6)] 62)).drew.heap.size = w.heap.size + 3 := by
    show (w2.alloc _).heap.size = _
    rw [World.size_alloc, hsz]
  have hP3 : Hp (w2.alloc (.cells #[.int .u64 (wd p 0), .int .u64 (wd p 1), .int .u64 (wd p 2), .int .u64 (wd p 3), .int .u64 (wd p 4), .int .u64 (wd p 5), .int .u64 (wd p 6)] 62)).drew (w.heap.size + 2) p := (Hp.new w2 p _ hsz.symm).drew
  clear hZ hs0 hg2 hA2 hs3
  generalize (w2.alloc (.cells #[.int .u64 (wd p 0), .int .u64 (wd p 1), .int .u64 (wd p 2), .int .u64 (wd p 3), .int .u64 (wd p 4), .int .u64 (wd p 5), .int .u64 (wd p 6)] 62)).drew = w3 at *
  clear hMh hsz
  obtain ⟨c0, c1, c2, c3, c4, c5, c6⟩ := hP3.all
  obtain ⟨d0, d1, d2, d3, d4, d5, d6⟩ := h3.all
  obtain ⟨f0, f1, f2, f3, f4, f5, f6⟩ := h3.frz
  go_wp2
  have hq := h3.put7 p
  obtain ⟨e0, e1, e2, e3, e4, e5, e6⟩ := hq.all
  rw [hM.out] at hMlt
  rw [hrb.out] at hlt
  refine bodyPost_ret (v := plV p) (by simp [results, Tryd.results24, go_sem, plV, e0, e1, e2, e3, e4, e5, e6]) rfl ⟨rfl, hA3.turn (grown_put7 _ _ _) (fun r e => by cases e; exact ⟨hW, by omega, by omega⟩), ?_⟩
  rw [← hM.out]
  exact grown_new hg3 (grown_put7 w3 w.heap.size p) (Nat.le_refl _)
set_option maxHeartbeats 4000000 in
theorem ends_new (c : Cx) (i a : Nat) (hi : i < 60) (ha : a < 401) (p : Nat → Bool) (hok : c.ok i a (plV p)) (hcM : c.W0.heap.size ≤ c.M) (hne : c.rb ≠ c.M) (w : World) (hA : c.At w) (hW : c.W0.heap.size ≤ w.heap.size)
    (hL : ∀ w, c.At w → Calls Tryd.prog 34 #[.pointer (some ⟨c.rb, 0, none⟩), .int .i64 (i : Int), .int .i64 (a : Int)] w fun e w' => e = .returned (plV p) ∧ c.At w' ∧ w.grownBy w' (some c.M))
    (hl : ∀ w' : World, w'.heap[c.M]? = w.heap[c.M]? → (Instr.lookup 78 (.map (some c.M)) (spotV i a) true).run Tryd.prog w' = .ok (.tuple #[.agg #[.int .u64 0, .int .u64 0, .int .u64 0, .int .u64 0, .int .u64 0, .int .u64 0, .int .u64 0], .bool false]) w') :
    Calls Tryd.prog 24 #[.pointer (some ⟨c.rb, 0, none⟩), .int .i64 (i : Int), .int .i64 (a : Int)] w fun e w' => e = .returned (plV p) ∧ c.At w' ∧ w.grownBy w' (some c.M) := by
  replace hL := hid hL
  obtain ⟨rb, hrb⟩ : ∃ rb, rb = c.rb := ⟨_, rfl⟩
  obtain ⟨M, hM⟩ : ∃ M, M = c.M := ⟨_, rfl⟩
  rw [← hrb]
  have hlt := hA.lt
  have hMlt := hA.kn.lt
  rw [← hrb] at hlt
  rw [← hM] at hMlt hl
  unfold spotV at hl
  obtain ⟨w2, hw2⟩ : ∃ w2, w2 = (w.alloc (.cells #[.int .u64 0, .int .u64 0, .int .u64 0, .int .u64 0, .int .u64 0, .int .u64 0, .int .u64 0] 62)).alloc (.cells #[.int .i64 (i : Int), .int .i64 (a : Int)] 82) := ⟨_, rfl⟩
  have hZ : Hp w2 w.heap.size noP := by rw [hw2]; exact (Hp.zero _ _ rfl).alloc _
  have hs0 : w2.heap[w.heap.size + 1]? = some (.cells #[.int .i64 (i : Int), .int .i64 (a : Int)] 82 (0, 0)) := by
    rw [hw2]
    have := World.alloc_heap_new (w.alloc (.cells #[.int .u64 0, .int .u64 0, .int .u64 0, .int .u64 0, .int .u64 0, .int .u64 0, .int .u64 0] 62)) (.cells #[.int .i64 (i : Int), .int .i64 (a : Int)] 82)
    rwa [World.size_alloc] at this
  have hg2 : w.grownBy w2 (some M) := by rw [hw2]; exact (World.grownBy_alloc _ _ _).trans (World.grownBy_alloc _ _ _)
  have hA2 : c.At w2 := by rw [hw2]; exact (hA.alloc _).alloc _
  have hsz : w2.heap.size = w.heap.size + 2 := by rw [hw2]; simp
  have hMh : w2.heap[M]? = w.heap[M]? := by rw [hw2, Below.heap_alloc _ _ _ (by simp; omega), Below.heap_alloc _ _ _ hMlt]
  have l0 := hl w2 hMh
  have l1 : ∀ o, _ := fun o => hl (w2.alloc o) ((Below.heap_alloc w2 o M (by omega)).trans hMh)
  have l2 := hl w2.drew hMh
  have l3 : ∀ o, _ := fun o => hl (w2.alloc o).drew ((Below.heap_alloc w2 o M (by omega)).trans hMh)
  have l4 : ∀ o, _ := fun o => hl (w2.drew.alloc o) ((Below.heap_alloc w2 o M (by omega)).trans hMh)
  have s0 : w2.cell? ⟨w.heap.size + 1, 0, none⟩ = some (.int .i64 (i : Int)) := by rw [Lib.cell_of_heap hs0]; rfl
  have s1 : w2.cell? ⟨w.heap.size + 1, 1, none⟩ = some (.int .i64 (a : Int)) := by rw [Lib.cell_of_heap hs0]; rfl
  have s2 : ∀ o, (w2.alloc o).cell? ⟨w.heap.size + 1, 0, none⟩ = some (.int .i64 (i : Int)) := fun o => by rw [Lib.cell_of_heap ((Below.heap_alloc w2 o _ (by omega)).trans hs0)]; rfl
  have s3 : ∀ o, (w2.alloc o).cell? ⟨w.heap.size + 1, 1, none⟩ = some (.int .i64 (a : Int)) := fun o => by rw [Lib.cell_of_heap ((Below.heap_alloc w2 o _ (by omega)).trans hs0)]; rfl
  have d0 : w2.cell? ⟨rb, 2, none⟩ = some (.map (some M)) := by rw [hrb, hM]; exact hA2.c2
  have d1 : ∀ o, (w2.alloc o).cell? ⟨rb, 2, none⟩ = some (.map (some M)) := fun o => by rw [hrb, hM]; exact (hA2.alloc o).c2
  replace hrb := hid hrb
  replace hM := hid hM
  clear hl
  go_enter Tryd.func24, Tryd.ntmps24
  go_wp2_with fail
  rw [← hw2]
  clear hw2
  go_region
  clear l0 l1 l2 l3 l4 s0 s1 s2 s3 d0 d1
  have h3 : Hp (w2.alloc (.cells #[.int .u64 0, .int .u64 0, .int .u64 0, .int .u64 0, .int .u64 0, .int .u64 0, .int .u64 0] 62)).drew w.heap.size noP := (hZ.alloc _).drew
  have hA3 : c.At (w2.alloc (.cells #[.int .u64 0, .int .u64 0, .int .u64 0, .int .u64 0, .int .u64 0, .int .u64 0, .int .u64 0] 62)).drew := (hA2.alloc _).drew
  have hg3 : w.grownBy (w2.alloc (.cells #[.int .u64 0, .int .u64 0, .int .u64 0, .int .u64 0, .int .u64 0, .int .u64 0, .int .u64 0] 62)).drew (some M) := grown_drew (hg2.trans (World.grownBy_alloc w2 _ _))
  have hs3 : (w2.alloc (.cells #[.int .u64 0, .int .u64 0, .int .u64 0, .int .u64 0, .int .u64 0, .int .u64 0, .int .u64 0] 62)).drew.heap[w.heap.size + 1]? = some (.cells #[.int .i64 (i : Int), .int .i64 (a : Int)] 82 (0, 0)) := (Below.heap_alloc w2 _ _ (by omega)).trans hs0
  have hz3 : (w2.alloc (.cells #[.int .u64 0, .int .u64 0, .int .u64 0, .int .u64 0, .int .u64 0, .int .u64 0, .int .u64 0] 62)).drew.heap.size = w.heap.size + 3 := by
    show (w2.alloc _).heap.size = _
    rw [World.size_alloc, hsz]
  clear hZ hs0 hg2 hA2
  generalize (w2.alloc (.cells #[.int .u64 0, .int .u64 0, .int .u64 0, .int .u64 0, .int .u64 0, .int .u64 0, .int .u64 0] 62)).drew = w3 at *
  clear hMh hsz
  go_wp2_with fail
  rw [hrb.out]
  refine (hL.out _ hA3).mono ?_
  rintro e w4 ⟨rfl, hA4, hg4⟩
  rw [← hrb.out]
  have h4 := h3.grown hg4 (by rw [← hM.out]; simp; omega)
  have hs4 := (hg4.block (w.heap.size + 1) (by omega) (by rw [← hM.out]; simp; omega)).trans hs3
  have hz4 := hg4.size
  clear hL h3 hs3 hA3
  obtain ⟨w5, hw5⟩ : ∃ w5, w5 = w4.alloc (.cells #[.int .u64 (wd p 0), .int .u64 (wd p 1), .int .u64 (wd p 2), .int .u64 (wd p 3), .int .u64 (wd p 4), .int .u64 (wd p 5), .int .u64 (wd p 6)] 62) := ⟨_, rfl⟩
  have hP5 : Hp w5 w4.heap.size p := by rw [hw5]; exact Hp.new w4 p _ rfl
  have h5 : Hp w5 w.heap.size noP := by rw [hw5]; exact h4.alloc _
  have hA5 : c.At w5 := by rw [hw5]; exact hA4.alloc _
  have hg5 : w4.grownBy w5 (some M) := by rw [hw5]; exact World.grownBy_alloc _ _ _
  have hs5 : w5.heap[w.heap.size + 1]? = some (.cells #[.int .i64 (i : Int), .int .i64 (a : Int)] 82 (0, 0)) := by rw [hw5]; exact (Below.heap_alloc w4 _ _ (by omega)).trans hs4
  have hz5 : w5.heap.size = w4.heap.size + 1 := by rw [hw5]; simp
  have s0 : w5.cell? ⟨w.heap.size + 1, 0, none⟩ = some (.int .i64 (i : Int)) := by rw [Lib.cell_of_heap hs5]; rfl
  have s1 : w5.cell? ⟨w.heap.size + 1, 1, none⟩ = some (.int .i64 (a : Int)) := by rw [Lib.cell_of_heap hs5]; rfl
  have d0 : w5.cell? ⟨rb, 2, none⟩ = some (.map (some M)) := by rw [hrb.out, hM.out]; exact hA5.c2
  obtain ⟨c0, c1, c2, c3, c4, c5, c6⟩ := hP5.all
  obtain ⟨w6, hrun, hk6, hg6⟩ := hA5.drew.kn.store i a (plV p) hi ha hok
  rw [← hM.out] at hrun hg6
  replace hk6 := hid hk6
  unfold spotV plV at hrun
  unfold plV
  go_wp2_with fail
  rw [← hw5]
  clear hw5
  go_region
  have hA6 : c.At w6 := ⟨hA5.drew.bel.grown hg6 hA5.bel.size (fun k e => by cases e; rw [hM.out]; exact hcM), (hg6.block c.rb hA5.lt (by rw [hM.out]; simpa using hne)).trans hA5.rd, hk6.out⟩
  have hP6 : Hp w6 w4.heap.size p := hP5.drew.grown hg6 (by simp; omega)
  have h6 : Hp w6 w.heap.size noP := h5.drew.grown hg6 (by simp; omega)
  have hgw : w.grownBy w6 (some M) := ((hg3.trans (by rw [hM.out]; exact hg4)).trans (grown_drew hg5)).trans hg6
  clear s0 s1 d0 c0 c1 c2 c3 c4 c5 c6 hrun hk6 hP5 h5 hA5 hA4 h4 hs4 hs5 hok
  obtain ⟨c0, c1, c2, c3, c4, c5, c6⟩ := hP6.all
  obtain ⟨d0, d1, d2, d3, d4, d5, d6⟩ := h6.all
  obtain ⟨f0, f1, f2, f3, f4, f5, f6⟩ := h6.frz
  go_wp2
  have hq := h6.put7 p
  obtain ⟨e0, e1, e2, e3, e4, e5, e6⟩ := hq.all
  rw [hM.out] at hMlt
  rw [hrb.out] at hlt
  refine bodyPost_ret (v := plV p) (by simp [results, Tryd.results24, go_sem, plV, e0, e1, e2, e3, e4, e5, e6]) rfl ⟨rfl, hA6.turn (grown_put7 _ _ _) (fun r e => by cases e; exact ⟨hW, by omega, by omega⟩), ?_⟩
  rw [← hM.out]
  exact grown_new hgw (grown_put7 w6 w.heap.size p) (Nat.le_refl _)
theorem ends_of {c : Cx} (hc : c.Good) {t : Rx} (ht : t.Ok) {p q : List Nd} (hns : c.ns = p ++ t.flat ++ q) (a : Nat) (ha : a ≤ c.s.size) (hL : LookOk c t p.length a) : EndsOk c t p.length a := by
  intro w hA
  have h1 := flat_lt hns
  have h2 := hc.len
  have h3 := hc.size
  have hW := hA.bel.size
  rcases hA.kn.look p.length a (by omega) (by omega) with ⟨x, hx, hl⟩ | hl
  · rw [Cx.ok_one ht hns hx] at hl
    exact ends_known c _ a _ w hA hW hl
  · exact ends_new c _ a (by omega) (by omega) _ ⟨t, p, q, ht, hns, rfl, ha, rfl⟩ hc.hM hc.ne w hA hW hL hl
end Go.Proofs.YtlejbnmeeonblaaDoor
namespace Go.Proofs.YtlejbnmeeonblaaDoor
set_option linter.unusedSimpArgs false
set_option linter.unusedVariables false
set_option maxRecDepth 100000
open Go.RowKit
theorem op_range {c : Cx} (hc : c.Good) {n : Nd} (h : n ∈ c.ns) : 1 ≤ n.op ∧ n.op ≤ 9 := (((faultL_zero c.ns).1 hc.fault).2.1 n h).1
/-- ends, at every tree of a pattern that may be, from every place. -/
theorem ends_tree {c : Cx} (hc : c.Good) : ∀ (t : Rx), t.Ok → ∀ (p q : List Nd), c.ns = p ++ t.flat ++ q → ∀ a, a ≤ c.s.size → EndsOk c t p.length a
  | .leaf n, ht, p, q, hns, a, ha => by
    have hr := op_range hc (n := n) (by rw [hns]; simp [Rx.flat])
    have hp : prt n.op = 0 := ht
    refine ends_of hc ht hns a ha ?_
    by_cases h1 : n.op = 1
    · by_cases hin : a < c.s.size
      · exact look_byteIn hc n hns h1 a ha hin
      · exact look_byteOut hc n hns h1 a ha (by omega)
    · by_cases h8 : n.op = 8
      · exact look_begin hc n hns h8 a ha
      · by_cases h9 : n.op = 9
        · exact look_end hc n hns h9 a ha
        · have h2 : n.op = 2 := by
            unfold prt at hp
            split at hp
            · cases hp
            · split at hp
              · cases hp
              · omega
          exact look_empty hc n hns h2 a ha
  | .one n t, ht, p, q, hns, a, ha => by
    have hp : prt n.op = 1 := ht.1
    have hns2 : c.ns = (p ++ [n]) ++ t.flat ++ q := by rw [hns]; simp [Rx.flat]
    have EA : ∀ k, k ≤ c.s.size → EndsOk c t (p.length + 1) k := fun k hk => by
      have := ends_tree hc t ht.2 (p ++ [n]) q hns2 k hk
      rwa [show (p ++ [n]).length = p.length + 1 by simp] at this
    have hop : n.op = 5 ∨ n.op = 6 ∨ n.op = 7 := by
      unfold prt at hp
      split at hp
      · cases hp
      · split at hp
        · assumption
        · cases hp
    have key : ∀ d k, k ≤ c.s.size → c.s.size - k ≤ d → EndsOk c (.one n t) p.length k := by
      intro d
      induction d with
      | zero =>
        intro k hk hd
        have ES : ∀ j, k < j → j ≤ c.s.size → EndsOk c (.one n t) p.length j := fun j h1 h2 => absurd h2 (by omega)
        refine ends_of hc ht hns k hk ?_
        rcases hop with h | h | h
        · exact look_star hc n t hns h k hk (EA k hk) ES
        · exact look_plus hc n t hns h k hk (EA k hk) ES
        · exact look_opt hc n t hns h k hk (EA k hk)
      | succ d ih =>
        intro k hk hd
        have ES : ∀ j, k < j → j ≤ c.s.size → EndsOk c (.one n t) p.length j := fun j h1 h2 => ih j h2 (by omega)
        refine ends_of hc ht hns k hk ?_
        rcases hop with h | h | h
        · exact look_star hc n t hns h k hk (EA k hk) ES
        · exact look_plus hc n t hns h k hk (EA k hk) ES
        · exact look_opt hc n t hns h k hk (EA k hk)
    exact key _ a ha (Nat.le_refl _)
  | .two n t u, ht, p, q, hns, a, ha => by
    have hp : prt n.op = 2 := ht.1
    have hns2 : c.ns = (p ++ [n]) ++ t.flat ++ (u.flat ++ q) := by rw [hns]; simp [Rx.flat]
    have hns3 : c.ns = (p ++ [n] ++ t.flat) ++ u.flat ++ q := by rw [hns]; simp [Rx.flat]
    have EA : EndsOk c t (p.length + 1) a := by
      have := ends_tree hc t ht.2.1 (p ++ [n]) _ hns2 a ha
      rwa [show (p ++ [n]).length = p.length + 1 by simp] at this
    have EB : ∀ k, k ≤ c.s.size → EndsOk c u (p.length + 1 + t.flat.length) k := fun k hk => by
      have := ends_tree hc u ht.2.2 (p ++ [n] ++ t.flat) _ hns3 k hk
      rwa [show (p ++ [n] ++ t.flat).length = p.length + 1 + t.flat.length by simp; omega] at this
    have hop : n.op = 3 ∨ n.op = 4 := by
      unfold prt at hp
      split at hp
      · assumption
      · split at hp <;> cases hp
    refine ends_of hc ht hns a ha ?_
    rcases hop with h | h
    · exact look_cat hc n t u ht hns h a ha EA EB
    · exact look_or hc n t u ht hns h a ha EA (EB a ha)
/-- A reader that is new. -/
theorem cx_new {w1 : World} {b off cap : Nat} {t : Rx} (hn : NsAt w1 b off t.flat) (hlt : b < w1.heap.size) (hf : faultL t.flat = 0) (hw : ∀ n ∈ t.flat, n.wf) (s : ByteArray) (hs : s.size ≤ 400) (hT : Tab w1) :
    (Cx.mk w1 (w1.heap.size + 1) w1.heap.size b off cap t.flat s).Good ∧ (Cx.mk w1 (w1.heap.size + 1) w1.heap.size b off cap t.flat s).At ((w1.alloc (.map #[] 0)).alloc (.cells #[.slice (some ⟨b, off, none⟩) t.flat.length cap, .string s, .map (some w1.heap.size)] 80)) := by
  refine ⟨⟨hn, hlt, hf, hw, hs, hT, Nat.le_succ _, Nat.le_refl _, by simp⟩, ⟨((Below.refl _ w1).alloc (Nat.le_refl _) _).alloc (by simp) _, ?_, ?_⟩⟩
  · have := World.alloc_heap_new (w1.alloc (.map #[] 0)) (.cells #[.slice (some ⟨b, off, none⟩) t.flat.length cap, .string s, .map (some w1.heap.size)] 80)
    rwa [World.size_alloc] at this
  · exact (Kn.made w1 _).kept (World.grownBy_alloc _ _ none) (by simp)
set_option maxHeartbeats 4000000 in
theorem mends_any (t : Rx) (v : Value) (s : ByteArray) (i : Nat) (l : List Nat) (w : World) (hT : Tab w) (ht : t.Ok) (hN : NsIn w v t.flat) (hw : ∀ n ∈ t.flat, n.wf) (hE : meanE t.flat s.size i = 0) (hl : EndsR s.data.toList t i l) :
    Calls Tryd.prog 12 #[v, .string s, .int .i64 (i : Int)] w fun e w' => ∃ u, e = .returned (.tuple #[u, .nilIface]) ∧ Below w.heap.size w w' ∧ IsIn w' u l := by
  obtain ⟨hf, h4, _, hi⟩ := (meanE_zero _ _ _).1 hE
  have C := mcheck_any t.flat v s w hN (by unfold maxLen; omega)
  rw [(meanF_zero _ _).2 ⟨hf, h4⟩, show errV 0 = .nilIface from rfl] at C
  replace C := hid C
  obtain ⟨a, cap, rfl, hm, h | ⟨b, off, rfl, hlt, hn⟩⟩ := hN
  · exact absurd t.flat_pos (by rw [h]; simp)
  have i0 : (0 : Int) ≤ (i : Int) := by omega
  have i1 : (i : Int) ≤ (s.size : Int) := by omega
  have hle := el_ends hl (by rw [Array.length_toList]; exact h4)
  have HX : Hid (∀ w1, Below w.heap.size w w1 → (Cx.mk w1 (w1.heap.size + 1) w1.heap.size b off cap t.flat s).Good ∧ (Cx.mk w1 (w1.heap.size + 1) w1.heap.size b off cap t.flat s).At ((w1.alloc (.map #[] 0)).alloc (.cells #[.slice (some ⟨b, off, none⟩) t.flat.length cap, .string s, .map (some w1.heap.size)] 80))) := fun w1 hb => cx_new (hn.below hb hlt) (Nat.lt_of_lt_of_le hlt hb.size) hf hw s h4 (hT.below hb (Nat.le_refl _))
  have hi' : i ≤ s.size := by omega
  replace hT := hid hT
  replace hle := hid hle
  clear hn hE hl hw
  go_enter Tryd.func12, Tryd.ntmps12
  go_wp2_with fail
  refine C.out.mono ?_
  rintro e w1 ⟨rfl, hb⟩
  obtain ⟨hG, hA⟩ := HX.out w1 hb
  have HE := hid (ends_tree hG t ht [] [] (by simp) i hi' _ hA)
  replace hA := hid hA
  replace hG := hid hG
  replace hb := hid hb
  clear HX C
  go_wp2_with fail
  refine (reading_any _ _ _ _ _).mono ?_
  rintro e w2 ⟨rfl, rfl⟩
  go_wp2_with fail
  refine Calls.mono HE.out ?_
  rintro e w3 ⟨rfl, hA3, _⟩
  have hB3 := hid (hb.out.trans (hA3.bel.mono hb.out.size))
  have CC := hid (collect_any (fs s.data.toList t i) w3 (hT.out.below hB3.out (Nat.le_refl _)))
  rw [hle.out] at CC
  replace hA3 := hid hA3
  clear HE hA
  unfold plV at CC ⊢
  go_wp2_with fail
  refine CC.out.mono ?_
  rintro e w4 ⟨u, rfl, hu, hb4⟩
  obtain ⟨ua, ucap, rfl, _⟩ := isIn_form hu
  go_wp2
  go_ret2
  exact ⟨_, rfl, hB3.out.trans (hb4.mono hB3.out.size), hu⟩
set_option maxHeartbeats 4000000 in
theorem mends_bad (ns : List Nd) (v : Value) (s : ByteArray) (i : Int) (w : World) (hN : NsIn w v ns) (hs : s.size ≤ maxLen) (hE : ¬ meanE ns s.size i = 0) :
    Calls Tryd.prog 12 #[v, .string s, .int .i64 i] w fun e w' => ∃ u, e = .returned (.tuple #[u, errV (meanE ns s.size i)]) ∧ Below w.heap.size w w' ∧ IsIn w' u [] := by
  have C := hid (mcheck_any ns v s w hN hs)
  by_cases hF : meanF ns s.size = 0
  · have he : meanE ns s.size i = 1 := by
      unfold meanE at hE ⊢
      rw [if_pos hF] at hE ⊢
      by_cases h : 0 ≤ i ∧ i ≤ s.size
      · rw [if_pos h] at hE; exact absurd rfl hE
      · rw [if_neg h]
    have hout : i < 0 ∨ (s.size : Int) < i := by
      unfold meanE at hE
      rw [if_pos hF] at hE
      by_cases h : 0 ≤ i ∧ i ≤ s.size
      · rw [if_pos h] at hE; exact absurd rfl hE
      · omega
    rw [he, show errV 1 = .iface 23 (.int .i64 1) from rfl]
    rw [hF, show errV 0 = .nilIface from rfl] at C
    obtain ⟨a, cap, rfl, hm, _⟩ := hN
    clear hE he hF
    by_cases i0 : i < 0
    · clear hout
      go_enter Tryd.func12, Tryd.ntmps12
      go_wp2_with fail
      refine C.out.mono ?_
      rintro e w1 ⟨rfl, hb⟩
      go_wp2
      go_ret2
      exact ⟨_, rfl, hb, isIn_nil _⟩
    · have i1 : (s.size : Int) < i := by omega
      have i2 : 0 ≤ i := by omega
      clear hout i0
      go_enter Tryd.func12, Tryd.ntmps12
      go_wp2_with fail
      refine C.out.mono ?_
      rintro e w1 ⟨rfl, hb⟩
      go_wp2
      go_ret2
      exact ⟨_, rfl, hb, isIn_nil _⟩
  · have he : meanE ns s.size i = meanF ns s.size := by
      unfold meanE
      rw [if_neg hF]
    rw [he]
    rw [show errV (meanF ns s.size) = .iface 23 (.int .i64 (meanF ns s.size)) by unfold errV; rw [if_neg hF]] at C ⊢
    obtain ⟨a, cap, rfl, hm, _⟩ := hN
    clear hE he
    go_enter Tryd.func12, Tryd.ntmps12
    go_wp2_with fail
    refine C.out.mono ?_
    rintro e w1 ⟨rfl, hb⟩
    go_wp2
    go_ret2
    exact ⟨_, rfl, hb, isIn_nil _⟩
theorem meanN : MeanN := ⟨fun ns v s i w hN _ hs hE => mends_bad ns v s i w hN hs hE, fun t v s i l w hT ht hN hw hE hl => mends_any t v s i l w hT ht hN hw hE hl⟩
end Go.Proofs.YtlejbnmeeonblaaDoor
namespace Go.Proofs.YtlejbnmeeonblaaDoor
set_option linter.unusedSimpArgs false
set_option linter.unusedVariables false
open Go.RowKit

set_option maxHeartbeats 1000000 in
theorem count_any (k : C4) (hk : k.ok) (w : World) :
    Calls Tryd.prog 14 #[k.v] w fun e w' => e = .returned (.int .i64 (cnt k.has 256)) ∧ Below w.heap.size w w' := by
  go_enter Tryd.func14, Tryd.ntmps14
  go_wp2
  go_loopw [3, 4] (fun u v wr => ∃ i c : Nat, i ≤ 256 ∧ c ≤ i ∧ Hid (c = cnt k.has i) ∧ v = .int .i64 i ∧ u = .int .i64 c ∧ Below w.heap.size w wr ∧ Hb wr w.heap.size k) (fun _ v _ => 256 - (intOf v).toNat)
  case atStart => exact ⟨0, 0, by omega, by omega, Eq.refl _, rfl, rfl, (Below.refl _ _).alloc (Nat.le_refl _) _, Hb.new _ k _ rfl⟩
  case round =>
    obtain ⟨i, c, hi, hc, HC, rfl, rfl, hB, hK⟩ := hrel
    obtain ⟨c0, c1, c2, c3, e0, e1, e2, e3⟩ := hK.all
    by_cases hlt : i < 256
    · have i1 : (i : Int) < 256 := by omega
      go_wp2_with fail
      refine (in_any k hk i hlt _).mono ?_
      rintro e w1 ⟨rfl, hb1⟩
      have hB1 := hB.trans (hb1.mono hB.size)
      have hK1 := hK.below hb1 hK.lt
      cases hn : k.has i
      · have HE : Hid (c = cnt k.has (i + 1)) := by show _ = _; rw [cnt, hn, HC.out]; rfl
        go_wp2
        exact ⟨⟨i + 1, c, by omega, by omega, HE, by go_num, by go_num, hB1, hK1⟩, by simp [intOf]; omega⟩
      · have HE : Hid (c + 1 = cnt k.has (i + 1)) := by show _ = _; rw [cnt, hn, HC.out]; rfl
        go_wp2
        exact ⟨⟨i + 1, c + 1, by omega, by omega, HE, by go_num, by go_num, hB1, hK1⟩, by simp [intOf]; omega⟩
    · have hi2 : i = 256 := by omega
      subst hi2
      go_wp2
      go_ret
      exact ⟨ret_int (by rw [HC.out]), hB⟩
end Go.Proofs.YtlejbnmeeonblaaDoor
namespace Go.Proofs.YtlejbnmeeonblaaDoor
set_option linter.unusedSimpArgs false
set_option linter.unusedVariables false
set_option maxRecDepth 100000
open Go.RowKit

set_option maxHeartbeats 400000 in
theorem parts_any (op : Int) (w : World) :
    Calls Tryd.prog 26 #[.int .i64 op] w fun e w' => e = .returned (.int .i64 (prt op)) ∧ w' = w := by
  by_cases h3 : op = 3
  · subst h3
    go_enter Tryd.func26, Tryd.ntmps26
    go_wp2
    go_ret
    exact ⟨rfl, rfl⟩
  · have b3 : (op == 3) = false := by simp [h3]
    by_cases h4 : op = 4
    · subst h4
      go_enter Tryd.func26, Tryd.ntmps26
      go_wp2
      go_ret
      exact ⟨rfl, rfl⟩
    · have b4 : (op == 4) = false := by simp [h4]
      by_cases h5 : op = 5
      · subst h5
        go_enter Tryd.func26, Tryd.ntmps26
        go_wp2
        go_ret
        exact ⟨rfl, rfl⟩
      · have b5 : (op == 5) = false := by simp [h5]
        by_cases h6 : op = 6
        · subst h6
          go_enter Tryd.func26, Tryd.ntmps26
          go_wp2
          go_ret
          exact ⟨rfl, rfl⟩
        · have b6 : (op == 6) = false := by simp [h6]
          by_cases h7 : op = 7
          · subst h7
            go_enter Tryd.func26, Tryd.ntmps26
            go_wp2
            go_ret
            exact ⟨rfl, rfl⟩
          · have b7 : (op == 7) = false := by simp [h7]
            have e0 : prt op = 0 := by unfold prt; simp [h3, h4, h5, h6, h7]
            rw [e0]
            clear h3 h4 h5 h6 h7 e0
            go_enter Tryd.func26, Tryd.ntmps26
            go_wp2
            go_ret
            exact ⟨rfl, rfl⟩
set_option maxHeartbeats 1000000 in
theorem endOf_walk (ns : List Nd) (b off cap f i : Nat) (hm : ns.length ≤ maxLen) (w : World) (hN : NsAt w b off ns)
    (ih : ∀ j, ns.length + 1 ≤ f + j → Calls Tryd.prog 15 #[.slice (some ⟨b, off, none⟩) ns.length cap, .int .i64 j] w fun e w' => e = .returned (.int .i64 (endI (endF ns f j))) ∧ w' = w)
    (hf : ns.length + 1 ≤ f + 1 + i) :
    Calls Tryd.prog 15 #[.slice (some ⟨b, off, none⟩) ns.length cap, .int .i64 i] w fun e w' => e = .returned (.int .i64 (endI (endF ns (f + 1) i))) ∧ w' = w := by
  have IH := (show Hid _ from ih)
  unfold maxLen at hm
  clear ih
  by_cases hi : i < ns.length
  · obtain ⟨n, hn⟩ : ∃ n, ns[i]? = some n := ⟨ns[i], List.getElem?_eq_getElem hi⟩
    obtain ⟨c0, _⟩ := hN i n hn
    have HF : Hid _ := endF_fin ns f i n hn
    have hp := prt_le n.op
    have i0 : (0 : Int) ≤ (i : Int) := by omega
    have i1 : (i : Int) < (ns.length : Int) := by omega
    have hd : decide (ns.length ≤ i) = false := by simp; omega
    clear hn
    go_enter Tryd.func15, Tryd.ntmps15
    go_wp2_with fail
    refine (parts_any _ _).mono ?_
    rintro e w1 ⟨rfl, rfl⟩
    generalize hpr : prt n.op = pr at *
    clear hpr
    go_wp2_with fail
    go_loop [1, 5] (fun v u => ∃ (m : Nat) (o : Option Nat), m ≤ 2 ∧ u = .int .i64 m ∧ v = .int .i64 (endI o) ∧ Hid (fin ns f m o = endF ns (f + 1) i) ∧ Hid (∀ j, o = some j → i < j ∧ j ≤ ns.length)) (fun _ u => (intOf u).toNat)
    case atStart => exact ⟨pr, some (i + 1), by omega, rfl, by go_num, HF.out.symm, fun j hj => by simp at hj; omega⟩
    case round =>
      obtain ⟨m, o, hm2, rfl, rfl, HX, HJ⟩ := hrel
      cases m with
      | zero =>
        go_wp2
        go_ret
        exact ⟨by rw [← HX.out]; rfl, rfl⟩
      | succ m =>
        have m0 : (0 : Int) < ((m + 1 : Nat) : Int) := by omega
        cases o with
        | none =>
          simp only [endI]
          go_wp2
          go_ret
          exact ⟨by rw [← HX.out, fin_none]; rfl, rfl⟩
        | some j =>
          have hj := HJ.out j rfl
          simp only [endI]
          go_wp2_with fail
          refine (IH.out j (by omega)).mono ?_
          rintro e w1 ⟨rfl, rfl⟩
          go_wp2
          refine ⟨⟨m, endF ns f j, by omega, by go_num, rfl, ?_, ?_⟩, by simp [intOf]⟩
          · rw [← HX.out]; exact (Eq.refl (fin ns f m (endF ns f j)))
          · intro k hk
            have := endF_gt ns f j k hk
            omega
  · have hd : decide (ns.length ≤ i) = true := by simp; omega
    have HF : Hid (endF ns (f + 1) i = none) := by
      show _ = _
      rw [endF, List.getElem?_eq_none (by omega)]
    go_enter Tryd.func15, Tryd.ntmps15
    go_wp2
    go_ret
    exact ⟨by rw [HF.out]; rfl, rfl⟩
set_option maxHeartbeats 1000000 in
theorem endOf_out (ns : List Nd) (a : Option Addr) (cap i : Nat) (hm : ns.length ≤ maxLen) (w : World) (hi : ns.length ≤ i) :
    Calls Tryd.prog 15 #[.slice a ns.length cap, .int .i64 i] w fun e w' => e = .returned (.int .i64 (-1)) ∧ w' = w := by
  unfold maxLen at hm
  have hd : decide (ns.length ≤ i) = true := by simp; omega
  go_enter Tryd.func15, Tryd.ntmps15
  go_wp2
  go_ret
  exact ⟨rfl, rfl⟩
theorem endOf_at (ns : List Nd) (b off cap : Nat) (hm : ns.length ≤ maxLen) (w : World) (hN : NsAt w b off ns) : ∀ (f i : Nat), ns.length + 1 ≤ f + i →
    Calls Tryd.prog 15 #[.slice (some ⟨b, off, none⟩) ns.length cap, .int .i64 i] w fun e w' => e = .returned (.int .i64 (endI (endF ns f i))) ∧ w' = w := by
  intro f
  induction f with
  | zero =>
    intro i h
    exact endOf_out ns _ cap i hm w (by omega)
  | succ f ih =>
    intro i h
    exact endOf_walk ns b off cap f i hm w hN ih (by omega)
theorem endOf_any (ns : List Nd) (v : Value) (i : Nat) (w : World) (hN : NsIn w v ns) :
    Calls Tryd.prog 15 #[v, .int .i64 i] w fun e w' => e = .returned (.int .i64 (endI (endE ns i))) ∧ w' = w := by
  obtain ⟨a, cap, rfl, hm, h | ⟨b, off, rfl, hlt, hn⟩⟩ := hN
  · subst h
    rw [endE_nil]
    exact endOf_out [] a cap i hm w (by simp)
  · exact endOf_at ns b off cap hm w hn (ns.length + 1) i (by omega)
end Go.Proofs.YtlejbnmeeonblaaDoor
