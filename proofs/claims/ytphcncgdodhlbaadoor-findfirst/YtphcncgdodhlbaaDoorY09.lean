/- Package mean: look, at nodes with parts. (Made by wip/tools/genlk.py.) class.Has. What the document's own functions (package winnowfanref1) answer: In, With, OfText, Others, Count. Sets of places in memory: rows of bools. A text's bytes. -/
import Derived.Test.YtphcncgdodhlbaaDoorY07
import Derived.Test.YtphcncgdodhlbaaDoorY08
import Derived.Test.YtphcncgdodhlbaaDoorY01
import Derived.Test.YtphcncgdodhlbaaDoorY02
import Derived.OwnWalk
import Derived.KernelRfl
namespace Go.Proofs.YtphcncgdodhlbaaDoor
set_option linter.unusedSimpArgs false
set_option linter.unusedVariables false
set_option maxRecDepth 100000
open Go.RowKit
set_option maxHeartbeats 4000000 in
theorem look_cat {c : Cx} (hc : c.Good) (n : Nd) (a1 b1 : Rx) (hok : (Rx.two n a1 b1).Ok) {p q : List Nd} (hns : c.ns = p ++ (Rx.two n a1 b1).flat ++ q) (hop : n.op = 3) (a : Nat) (ha : a ≤ c.s.size) (EA : EndsOk c a1 (p.length + 1) a) (EB : ∀ k, k ≤ c.s.size → EndsOk c b1 (p.length + 1 + a1.flat.length) k) : LookOk c (Rx.two n a1 b1) p.length a := by
  intro w hA
  have hlen := hc.len
  have hsz := hc.size
  have hpl := flat_lt hns
  have hW := hA.bel.size
  have hA0 := hA.lt
  have hM0 := hA.kn.lt
  have hn : c.ns[p.length]? = some n := by rw [hns, List.append_assoc, List.getElem?_append_right (Nat.le_refl _)]; simp [Rx.flat]
  have hZ : Hp (w.alloc (.cells #[.int .u64 0, .int .u64 0, .int .u64 0, .int .u64 0, .int .u64 0, .int .u64 0, .int .u64 0] 68)) w.heap.size noP := Hp.zero _ _ rfl
  have hA1 : c.At (w.alloc (.cells #[.int .u64 0, .int .u64 0, .int .u64 0, .int .u64 0, .int .u64 0, .int .u64 0, .int .u64 0] 68)) := hA.alloc _
  have hG1 : w.grownBy (w.alloc (.cells #[.int .u64 0, .int .u64 0, .int .u64 0, .int .u64 0, .int .u64 0, .int .u64 0, .int .u64 0] 68)) (some c.M) := World.grownBy_alloc _ _ _
  have hz1 : (w.alloc (.cells #[.int .u64 0, .int .u64 0, .int .u64 0, .int .u64 0, .int .u64 0, .int .u64 0, .int .u64 0] 68)).heap.size = w.heap.size + 1 := by simp
  obtain ⟨n0, n1, n2, n3, n4⟩ := (hc.nsAt.below hA1.bel hc.blt) _ _ hn
  rw [hop] at n0
  have c0 := hA1.c0
  have c1 := hA1.c1
  unfold Cx.v at c0
  have i0 : (0 : Int) ≤ (p.length : Int) := by omega
  have i1 : (p.length : Int) < (c.ns.length : Int) := by omega
  have s0 : (c.s.size : Int) ≤ 400 := by omega
  have ev : ((p.length + 1 : Nat) : Int) = (p.length : Int) + 1 := by omega
  have hres : fs c.S (.two n a1 b1) a = ov (Fit c.S b1) (el (fs c.S a1 a) 448) := fs_cat (by rw [Cx.S_len]; exact hsz) n a1 b1 a hop
  have HS := hid (fun w h => second_any hc hok.2.1 hns w h)
  unfold EndsOk at EA
  rw [ev] at EA
  replace EA := hid EA
  have HB := hid (fun w h => (callsIn_wide (n := 3)).1 (behind_in c hc b1 (p.length + 1 + a1.flat.length) (fs c.S a1 a) (fun k _ hk => EB k (by have := fit_le _ _ _ _ (fs_iff.1 hk); rw [Cx.S_len] at this; omega)) w h))
  clear hn hns hop n1 n2 n3 n4 EB hok
  go_enter Tryd.func40, Tryd.ntmps40
  go_wp2_with fail
  refine (HS.out _ hA1).mono ?_
  rintro e w1 ⟨rfl, hb2⟩
  have hA2 := hA1.below hb2
  have hZ2 := hZ.below hb2 hZ.lt
  have hG2 := hG1.trans (below_grown hb2 (some c.M))
  clear n0 c0 c1 HS
  go_wp2_with fail
  refine (EA.out _ hA2).mono ?_
  rintro e w2 ⟨rfl, hA3, hg3⟩
  have hZ3 := hZ2.grown hg3 (by intro e; injection e; omega)
  have hG3 := hG2.trans hg3
  clear EA
  go_wp2_with fail
  refine (HB.out _ hA3).mono ?_
  rintro e w3 ⟨rfl, hA4, hg4⟩
  have hZ4 := hZ3.grown hg4 (by intro e; injection e; omega)
  have hG4 := hG3.trans hg4
  clear HB
  obtain ⟨d0, d1, d2, d3, d4, d5, d6⟩ := hZ4.all
  obtain ⟨f0, f1, f2, f3, f4, f5, f6⟩ := hZ4.frz
  unfold plV
  go_wp2
  have hq := hZ4.put7 (ov (Fit c.S b1) (el (fs c.S a1 a) 448))
  obtain ⟨e0, e1, e2, e3, e4, e5, e6⟩ := hq.all
  refine bodyPost_ret (v := plV (ov (Fit c.S b1) (el (fs c.S a1 a) 448))) (by simp [results, Tryd.results40, go_sem, plV, e0, e1, e2, e3, e4, e5, e6]) rfl ⟨by rw [hres], hA4.turn (grown_put7 _ _ _) (fun r e => by cases e; exact ⟨hW, by omega, by omega⟩), grown_new hG4 (grown_put7 _ _ _) (Nat.le_refl _)⟩
set_option maxHeartbeats 4000000 in
theorem look_or {c : Cx} (hc : c.Good) (n : Nd) (a1 b1 : Rx) (hok : (Rx.two n a1 b1).Ok) {p q : List Nd} (hns : c.ns = p ++ (Rx.two n a1 b1).flat ++ q) (hop : n.op = 4) (a : Nat) (ha : a ≤ c.s.size) (EA : EndsOk c a1 (p.length + 1) a) (EB : EndsOk c b1 (p.length + 1 + a1.flat.length) a) : LookOk c (Rx.two n a1 b1) p.length a := by
  intro w hA
  have hlen := hc.len
  have hsz := hc.size
  have hpl := flat_lt hns
  have hW := hA.bel.size
  have hA0 := hA.lt
  have hM0 := hA.kn.lt
  have hn : c.ns[p.length]? = some n := by rw [hns, List.append_assoc, List.getElem?_append_right (Nat.le_refl _)]; simp [Rx.flat]
  have hZ : Hp (w.alloc (.cells #[.int .u64 0, .int .u64 0, .int .u64 0, .int .u64 0, .int .u64 0, .int .u64 0, .int .u64 0] 68)) w.heap.size noP := Hp.zero _ _ rfl
  have hA1 : c.At (w.alloc (.cells #[.int .u64 0, .int .u64 0, .int .u64 0, .int .u64 0, .int .u64 0, .int .u64 0, .int .u64 0] 68)) := hA.alloc _
  have hG1 : w.grownBy (w.alloc (.cells #[.int .u64 0, .int .u64 0, .int .u64 0, .int .u64 0, .int .u64 0, .int .u64 0, .int .u64 0] 68)) (some c.M) := World.grownBy_alloc _ _ _
  have hz1 : (w.alloc (.cells #[.int .u64 0, .int .u64 0, .int .u64 0, .int .u64 0, .int .u64 0, .int .u64 0, .int .u64 0] 68)).heap.size = w.heap.size + 1 := by simp
  obtain ⟨n0, n1, n2, n3, n4⟩ := (hc.nsAt.below hA1.bel hc.blt) _ _ hn
  rw [hop] at n0
  have c0 := hA1.c0
  have c1 := hA1.c1
  unfold Cx.v at c0
  have i0 : (0 : Int) ≤ (p.length : Int) := by omega
  have i1 : (p.length : Int) < (c.ns.length : Int) := by omega
  have s0 : (c.s.size : Int) ≤ 400 := by omega
  have ev : ((p.length + 1 : Nat) : Int) = (p.length : Int) + 1 := by omega
  have hres : fs c.S (.two n a1 b1) a = joinP (fs c.S a1 a) (fs c.S b1 a) := fs_or n a1 b1 a (by omega)
  have HS := hid (fun w h => second_any hc hok.2.1 hns w h)
  unfold EndsOk at EA EB
  rw [ev] at EA
  replace EA := hid EA
  replace EB := hid EB
  clear hn hns hop n1 n2 n3 n4 hok
  go_enter Tryd.func40, Tryd.ntmps40
  go_wp2_with fail
  refine (EA.out _ hA1).mono ?_
  rintro e w1 ⟨rfl, hA2, hg2⟩
  have hZ2 := hZ.grown hg2 (by intro e; injection e; omega)
  have hG2 := hG1.trans hg2
  clear EA n0 c0 c1
  go_wp2_with fail
  refine (HS.out _ hA2).mono ?_
  rintro e w2 ⟨rfl, hb3⟩
  have hA3 := hA2.below hb3
  have hZ3 := hZ2.below hb3 hZ2.lt
  have hG3 := hG2.trans (below_grown hb3 (some c.M))
  clear HS
  go_wp2_with fail
  refine (EB.out _ hA3).mono ?_
  rintro e w3 ⟨rfl, hA4, hg4⟩
  have hZ4 := hZ3.grown hg4 (by intro e; injection e; omega)
  have hG4 := hG3.trans hg4
  clear EB
  go_wp2_with fail
  refine (pjoined_any _ _ _).mono ?_
  rintro e w4 ⟨rfl, hb5⟩
  have hA5 := hA4.below hb5
  have hZ5 := hZ4.below hb5 hZ4.lt
  have hG5 := hG4.trans (below_grown hb5 (some c.M))
  obtain ⟨d0, d1, d2, d3, d4, d5, d6⟩ := hZ5.all
  obtain ⟨f0, f1, f2, f3, f4, f5, f6⟩ := hZ5.frz
  unfold plV
  go_wp2
  have hq := hZ5.put7 (joinP (fs c.S a1 a) (fs c.S b1 a))
  obtain ⟨e0, e1, e2, e3, e4, e5, e6⟩ := hq.all
  refine bodyPost_ret (v := plV (joinP (fs c.S a1 a) (fs c.S b1 a))) (by simp [results, Tryd.results40, go_sem, plV, e0, e1, e2, e3, e4, e5, e6]) rfl ⟨by rw [hres], hA5.turn (grown_put7 _ _ _) (fun r e => by cases e; exact ⟨hW, by omega, by omega⟩), grown_new hG5 (grown_put7 _ _ _) (Nat.le_refl _)⟩
set_option maxHeartbeats 4000000 in
theorem look_opt {c : Cx} (hc : c.Good) (n : Nd) (a1 : Rx) {p q : List Nd} (hns : c.ns = p ++ (Rx.one n a1).flat ++ q) (hop : n.op = 7) (a : Nat) (ha : a ≤ c.s.size) (EA : EndsOk c a1 (p.length + 1) a) : LookOk c (Rx.one n a1) p.length a := by
  intro w hA
  have hlen := hc.len
  have hsz := hc.size
  have hpl := flat_lt hns
  have hW := hA.bel.size
  have hA0 := hA.lt
  have hM0 := hA.kn.lt
  have hn : c.ns[p.length]? = some n := by rw [hns, List.append_assoc, List.getElem?_append_right (Nat.le_refl _)]; simp [Rx.flat]
  have hZ : Hp (w.alloc (.cells #[.int .u64 0, .int .u64 0, .int .u64 0, .int .u64 0, .int .u64 0, .int .u64 0, .int .u64 0] 68)) w.heap.size noP := Hp.zero _ _ rfl
  have hA1 : c.At (w.alloc (.cells #[.int .u64 0, .int .u64 0, .int .u64 0, .int .u64 0, .int .u64 0, .int .u64 0, .int .u64 0] 68)) := hA.alloc _
  have hG1 : w.grownBy (w.alloc (.cells #[.int .u64 0, .int .u64 0, .int .u64 0, .int .u64 0, .int .u64 0, .int .u64 0, .int .u64 0] 68)) (some c.M) := World.grownBy_alloc _ _ _
  have hz1 : (w.alloc (.cells #[.int .u64 0, .int .u64 0, .int .u64 0, .int .u64 0, .int .u64 0, .int .u64 0, .int .u64 0] 68)).heap.size = w.heap.size + 1 := by simp
  obtain ⟨n0, n1, n2, n3, n4⟩ := (hc.nsAt.below hA1.bel hc.blt) _ _ hn
  rw [hop] at n0
  have c0 := hA1.c0
  have c1 := hA1.c1
  unfold Cx.v at c0
  have i0 : (0 : Int) ≤ (p.length : Int) := by omega
  have i1 : (p.length : Int) < (c.ns.length : Int) := by omega
  have s0 : (c.s.size : Int) ≤ 400 := by omega
  have ev : ((p.length + 1 : Nat) : Int) = (p.length : Int) + 1 := by omega
  have hres : fs c.S (.one n a1) a = withP (fs c.S a1 a) a := fs_opt n a1 a (by rw [Cx.S_len]; exact ha) (by omega) (by omega)
  unfold EndsOk at EA
  rw [ev] at EA
  replace EA := hid EA
  clear hn hns hop n1 n2 n3 n4
  go_enter Tryd.func40, Tryd.ntmps40
  go_wp2_with fail
  refine (EA.out _ hA1).mono ?_
  rintro e w1 ⟨rfl, hA2, hg2⟩
  have hZ2 := hZ.grown hg2 (by intro e; injection e; omega)
  have hG2 := hG1.trans hg2
  clear EA n0 c0 c1
  go_wp2_with fail
  refine (pwith_any _ a (by omega) _).mono ?_
  rintro e w2 ⟨rfl, hb3⟩
  have hA3 := hA2.below hb3
  have hZ3 := hZ2.below hb3 hZ2.lt
  have hG3 := hG2.trans (below_grown hb3 (some c.M))
  obtain ⟨d0, d1, d2, d3, d4, d5, d6⟩ := hZ3.all
  obtain ⟨f0, f1, f2, f3, f4, f5, f6⟩ := hZ3.frz
  unfold plV
  go_wp2
  have hq := hZ3.put7 (withP (fs c.S a1 a) a)
  obtain ⟨e0, e1, e2, e3, e4, e5, e6⟩ := hq.all
  refine bodyPost_ret (v := plV (withP (fs c.S a1 a) a)) (by simp [results, Tryd.results40, go_sem, plV, e0, e1, e2, e3, e4, e5, e6]) rfl ⟨by rw [hres], hA3.turn (grown_put7 _ _ _) (fun r e => by cases e; exact ⟨hW, by omega, by omega⟩), grown_new hG3 (grown_put7 _ _ _) (Nat.le_refl _)⟩
set_option maxHeartbeats 4000000 in
theorem look_star {c : Cx} (hc : c.Good) (n : Nd) (a1 : Rx) {p q : List Nd} (hns : c.ns = p ++ (Rx.one n a1).flat ++ q) (hop : n.op = 5) (a : Nat) (ha : a ≤ c.s.size) (EA : EndsOk c a1 (p.length + 1) a) (ES : ∀ k, a < k → k ≤ c.s.size → EndsOk c (.one n a1) p.length k) : LookOk c (Rx.one n a1) p.length a := by
  intro w hA
  have hlen := hc.len
  have hsz := hc.size
  have hpl := flat_lt hns
  have hW := hA.bel.size
  have hA0 := hA.lt
  have hM0 := hA.kn.lt
  have hn : c.ns[p.length]? = some n := by rw [hns, List.append_assoc, List.getElem?_append_right (Nat.le_refl _)]; simp [Rx.flat]
  have hZ : Hp (w.alloc (.cells #[.int .u64 0, .int .u64 0, .int .u64 0, .int .u64 0, .int .u64 0, .int .u64 0, .int .u64 0] 68)) w.heap.size noP := Hp.zero _ _ rfl
  have hA1 : c.At (w.alloc (.cells #[.int .u64 0, .int .u64 0, .int .u64 0, .int .u64 0, .int .u64 0, .int .u64 0, .int .u64 0] 68)) := hA.alloc _
  have hG1 : w.grownBy (w.alloc (.cells #[.int .u64 0, .int .u64 0, .int .u64 0, .int .u64 0, .int .u64 0, .int .u64 0, .int .u64 0] 68)) (some c.M) := World.grownBy_alloc _ _ _
  have hz1 : (w.alloc (.cells #[.int .u64 0, .int .u64 0, .int .u64 0, .int .u64 0, .int .u64 0, .int .u64 0, .int .u64 0] 68)).heap.size = w.heap.size + 1 := by simp
  obtain ⟨n0, n1, n2, n3, n4⟩ := (hc.nsAt.below hA1.bel hc.blt) _ _ hn
  rw [hop] at n0
  have c0 := hA1.c0
  have c1 := hA1.c1
  unfold Cx.v at c0
  have i0 : (0 : Int) ≤ (p.length : Int) := by omega
  have i1 : (p.length : Int) < (c.ns.length : Int) := by omega
  have s0 : (c.s.size : Int) ≤ 400 := by omega
  have ev : ((p.length + 1 : Nat) : Int) = (p.length : Int) + 1 := by omega
  have hres : fs c.S (.one n a1) a = withP (joinP (ov (Go.Proofs.YtphcncgdodhlbaaDoor.hop c.S (.one n a1) a) (el (fs c.S a1 a) 448)) (fs c.S a1 a)) a := fs_star (by rw [Cx.S_len]; exact hsz) n a1 a (by rw [Cx.S_len]; exact ha) hop
  have HB := hid (fun w h => (callsIn_wide (n := 3)).1 (again_in c hc n a1 (by omega) p.length a (by omega) (fs c.S a1 a) (fun k hk _ hk2 => ES k hk (by have := fit_le _ _ _ _ (fs_iff.1 hk2); rw [Cx.S_len] at this; omega)) w h))
  unfold EndsOk at EA
  rw [ev] at EA
  replace EA := hid EA
  clear hn hns hop n1 n2 n3 n4 ES
  go_enter Tryd.func40, Tryd.ntmps40
  go_wp2_with fail
  refine (EA.out _ hA1).mono ?_
  rintro e w1 ⟨rfl, hA2, hg2⟩
  have hZ2 := hZ.grown hg2 (by intro e; injection e; omega)
  have hG2 := hG1.trans hg2
  clear EA n0 c0 c1
  go_wp2_with fail
  refine (HB.out _ hA2).mono ?_
  rintro e w2 ⟨rfl, hA3, hg3⟩
  have hZ3 := hZ2.grown hg3 (by intro e; injection e; omega)
  have hG3 := hG2.trans hg3
  clear HB
  go_wp2_with fail
  refine (pwith_any _ a (by omega) _).mono ?_
  rintro e w3 ⟨rfl, hb4⟩
  have hA4 := hA3.below hb4
  have hZ4 := hZ3.below hb4 hZ3.lt
  have hG4 := hG3.trans (below_grown hb4 (some c.M))
  obtain ⟨d0, d1, d2, d3, d4, d5, d6⟩ := hZ4.all
  obtain ⟨f0, f1, f2, f3, f4, f5, f6⟩ := hZ4.frz
  unfold plV
  go_wp2
  have hq := hZ4.put7 (withP (joinP (ov (Go.Proofs.YtphcncgdodhlbaaDoor.hop c.S (.one n a1) a) (el (fs c.S a1 a) 448)) (fs c.S a1 a)) a)
  obtain ⟨e0, e1, e2, e3, e4, e5, e6⟩ := hq.all
  refine bodyPost_ret (v := plV (withP (joinP (ov (Go.Proofs.YtphcncgdodhlbaaDoor.hop c.S (.one n a1) a) (el (fs c.S a1 a) 448)) (fs c.S a1 a)) a)) (by simp [results, Tryd.results40, go_sem, plV, e0, e1, e2, e3, e4, e5, e6]) rfl ⟨by rw [hres], hA4.turn (grown_put7 _ _ _) (fun r e => by cases e; exact ⟨hW, by omega, by omega⟩), grown_new hG4 (grown_put7 _ _ _) (Nat.le_refl _)⟩
set_option maxHeartbeats 4000000 in
theorem look_plus {c : Cx} (hc : c.Good) (n : Nd) (a1 : Rx) {p q : List Nd} (hns : c.ns = p ++ (Rx.one n a1).flat ++ q) (hop : n.op = 6) (a : Nat) (ha : a ≤ c.s.size) (EA : EndsOk c a1 (p.length + 1) a) (ES : ∀ k, a < k → k ≤ c.s.size → EndsOk c (.one n a1) p.length k) : LookOk c (Rx.one n a1) p.length a := by
  intro w hA
  have hlen := hc.len
  have hsz := hc.size
  have hpl := flat_lt hns
  have hW := hA.bel.size
  have hA0 := hA.lt
  have hM0 := hA.kn.lt
  have hn : c.ns[p.length]? = some n := by rw [hns, List.append_assoc, List.getElem?_append_right (Nat.le_refl _)]; simp [Rx.flat]
  have hZ : Hp (w.alloc (.cells #[.int .u64 0, .int .u64 0, .int .u64 0, .int .u64 0, .int .u64 0, .int .u64 0, .int .u64 0] 68)) w.heap.size noP := Hp.zero _ _ rfl
  have hA1 : c.At (w.alloc (.cells #[.int .u64 0, .int .u64 0, .int .u64 0, .int .u64 0, .int .u64 0, .int .u64 0, .int .u64 0] 68)) := hA.alloc _
  have hG1 : w.grownBy (w.alloc (.cells #[.int .u64 0, .int .u64 0, .int .u64 0, .int .u64 0, .int .u64 0, .int .u64 0, .int .u64 0] 68)) (some c.M) := World.grownBy_alloc _ _ _
  have hz1 : (w.alloc (.cells #[.int .u64 0, .int .u64 0, .int .u64 0, .int .u64 0, .int .u64 0, .int .u64 0, .int .u64 0] 68)).heap.size = w.heap.size + 1 := by simp
  obtain ⟨n0, n1, n2, n3, n4⟩ := (hc.nsAt.below hA1.bel hc.blt) _ _ hn
  rw [hop] at n0
  have c0 := hA1.c0
  have c1 := hA1.c1
  unfold Cx.v at c0
  have i0 : (0 : Int) ≤ (p.length : Int) := by omega
  have i1 : (p.length : Int) < (c.ns.length : Int) := by omega
  have s0 : (c.s.size : Int) ≤ 400 := by omega
  have ev : ((p.length + 1 : Nat) : Int) = (p.length : Int) + 1 := by omega
  have hres : fs c.S (.one n a1) a = joinP (ov (Go.Proofs.YtphcncgdodhlbaaDoor.hop c.S (.one n a1) a) (el (fs c.S a1 a) 448)) (fs c.S a1 a) := fs_plus (by rw [Cx.S_len]; exact hsz) n a1 a hop
  have HB := hid (fun w h => (callsIn_wide (n := 3)).1 (again_in c hc n a1 (by omega) p.length a (by omega) (fs c.S a1 a) (fun k hk _ hk2 => ES k hk (by have := fit_le _ _ _ _ (fs_iff.1 hk2); rw [Cx.S_len] at this; omega)) w h))
  unfold EndsOk at EA
  rw [ev] at EA
  replace EA := hid EA
  clear hn hns hop n1 n2 n3 n4 ES
  go_enter Tryd.func40, Tryd.ntmps40
  go_wp2_with fail
  refine (EA.out _ hA1).mono ?_
  rintro e w1 ⟨rfl, hA2, hg2⟩
  have hZ2 := hZ.grown hg2 (by intro e; injection e; omega)
  have hG2 := hG1.trans hg2
  clear EA n0 c0 c1
  go_wp2_with fail
  refine (HB.out _ hA2).mono ?_
  rintro e w2 ⟨rfl, hA3, hg3⟩
  have hZ3 := hZ2.grown hg3 (by intro e; injection e; omega)
  have hG3 := hG2.trans hg3
  clear HB
  obtain ⟨d0, d1, d2, d3, d4, d5, d6⟩ := hZ3.all
  obtain ⟨f0, f1, f2, f3, f4, f5, f6⟩ := hZ3.frz
  unfold plV
  go_wp2
  have hq := hZ3.put7 (joinP (ov (Go.Proofs.YtphcncgdodhlbaaDoor.hop c.S (.one n a1) a) (el (fs c.S a1 a) 448)) (fs c.S a1 a))
  obtain ⟨e0, e1, e2, e3, e4, e5, e6⟩ := hq.all
  refine bodyPost_ret (v := plV (joinP (ov (Go.Proofs.YtphcncgdodhlbaaDoor.hop c.S (.one n a1) a) (el (fs c.S a1 a) 448)) (fs c.S a1 a))) (by simp [results, Tryd.results40, go_sem, plV, e0, e1, e2, e3, e4, e5, e6]) rfl ⟨by rw [hres], hA3.turn (grown_put7 _ _ _) (fun r e => by cases e; exact ⟨hW, by omega, by omega⟩), grown_new hG3 (grown_put7 _ _ _) (Nat.le_refl _)⟩
end Go.Proofs.YtphcncgdodhlbaaDoor
namespace Go.Proofs.YtphcncgdodhlbaaDoor
set_option linter.unusedSimpArgs false
set_option linter.unusedVariables false
set_option maxRecDepth 100000
open Go.RowKit
set_option maxHeartbeats 400000 in
theorem has_any (k : C4) (x : Int) (w : World) (h : 0 ≤ x) (h2 : x < 256) :
    Calls Tryd.prog 62 #[k.v, .int .u8 x] w fun e w' => e = .returned (.bool (k.hasI x)) ∧ Below w.heap.size w w' := by
  have hw := k.get (x/64).toNat (by omega)
  go_enter Tryd.func62, Tryd.ntmps62
  go_wp2
  go_ret
  exact ⟨rfl, (Below.refl _ _).alloc (Nat.le_refl _) _⟩
end Go.Proofs.YtphcncgdodhlbaaDoor
namespace Go.Proofs.YtphcncgdodhlbaaDoor
set_option linter.unusedSimpArgs false
set_option linter.unusedVariables false
open Go.RowKit

theorem half_step (m i : Nat) : ((m / 2 ^ i : Nat) : Int) / 2 = ((m / 2 ^ (i + 1) : Nat) : Int) := by
  rw [Nat.pow_succ, ← Nat.div_div_eq_div_mul]
  omega
theorem tb_mod (m j : Nat) : (((m / 2 ^ j : Nat) : Int) % 2 == 1) = m.testBit j := by
  rw [tb_eq]
  generalize m / 2 ^ j = z
  by_cases h : z % 2 = 1
  · rw [h]
    have : (z : Int) % 2 = 1 := by omega
    rw [this]; rfl
  · have : ¬ (z : Int) % 2 = 1 := by omega
    simp only [h, decide_false]
    rw [beq_eq_false_iff_ne]
    exact this

theorem wrap_half (z : Nat) (h : z < 18446744073709551616) : Value.int IntKind.u64 (IntKind.u64.wrap ((z : Int) / 2)) = Value.int IntKind.u64 ((z / 2 : Nat) : Int) := by
  have e : (z : Int) / 2 = ((z / 2 : Nat) : Int) := by omega
  rw [e, u64_small _ (by omega)]
theorem wrap_twice (z : Nat) (h : z * 2 < 18446744073709551616) : Value.int IntKind.u64 (IntKind.u64.wrap ((z : Int) * 2)) = Value.int IntKind.u64 ((z * 2 : Nat) : Int) := by
  have e : (z : Int) * 2 = ((z * 2 : Nat) : Int) := by omega
  rw [e, u64_small _ h]
set_option maxHeartbeats 400000 in
theorem in_walk (k : C4) (x : Int) (h0 : 0 ≤ x) (hb : x < 256) (m : Nat) (hm : k.w (x / 64).toNat = (m : Int)) (hml : m < 18446744073709551616) (w : World) :
    Calls Tryd.prog 29 #[k.v, .int .i64 x] w fun e w' => e = .returned (.bool (m.testBit (x % 64).toNat)) ∧ Below w.heap.size w w' := by
  have hw := k.get (x / 64).toNat (by omega)
  rw [hm] at hw
  have HL := (show Hid _ from hml)
  clear hm hml
  go_enter Tryd.func29, Tryd.ntmps29
  go_wp2
  go_loop [5, 6] (fun n i => ∃ j z : Nat, (j : Int) ≤ x % 64 ∧ Hid (z = m / 2 ^ j) ∧ i = .int .i64 j ∧ n = .int .u64 (z : Int)) (fun _ i => (x % 64).toNat - (intOf i).toNat)
  case atStart => exact ⟨0, m, by omega, by show m = m / 2 ^ 0; simp, rfl, rfl⟩
  case round =>
    obtain ⟨j, z, hj, HZ, rfl, rfl⟩ := hrel
    by_cases hlt : (j : Int) < x % 64
    · go_wp2
      go_round
      case rel =>
        have hz : z < 18446744073709551616 := by rw [HZ.out]; exact Nat.lt_of_le_of_lt (Nat.div_le_self _ _) HL.out
        exact ⟨j + 1, z / 2, by omega, by show _ = _; rw [HZ.out, Nat.pow_succ, ← Nat.div_div_eq_div_mul], by go_num, wrap_half z hz⟩
      case measure => simp [intOf]; omega
    · have hj2 : (x % 64).toNat = j := by omega
      have HJ := (show Hid _ from hj2)
      clear hj2
      go_wp2
      go_ret
      refine ⟨?_, (Below.refl _ _).alloc (Nat.le_refl _) _⟩
      show Ending.returned (.bool ((z : Int) % 2 == 1)) = _
      rw [HJ.out, ← tb_mod, ← HZ.out]
theorem in_any (k : C4) (hk : k.ok) (b : Nat) (hb : b < 256) (w : World) :
    Calls Tryd.prog 29 #[k.v, .int .i64 b] w fun e w' => e = .returned (.bool (k.has b)) ∧ Below w.heap.size w w' := by
  obtain ⟨m, hm, hl⟩ := okW_nat (C4.ok_w hk (b / 64))
  have e1 : ((b : Int) / 64).toNat = b / 64 := by omega
  have e2 : ((b : Int) % 64).toNat = b % 64 := by omega
  have h := in_walk k b (by omega) (by omega) m (by rw [e1]; exact hm) hl w
  rw [e2] at h
  have e3 : k.has b = m.testBit (b % 64) := by unfold C4.has; rw [hm, Int.toNat_natCast]
  rw [e3]
  exact h

/-! With: a byte more -/
theorem add_is_or (x j : Nat) (h : x.testBit j = false) : x + 2 ^ j = x ||| 2 ^ j := by
  have hb : x / 2 ^ j % 2 = 0 := by
    rw [tb_eq] at h
    have := of_decide_eq_false h
    omega
  have hp : 0 < 2 ^ j := Nat.two_pow_pos j
  have e1 : x = 2 ^ (j + 1) * (x / 2 ^ j / 2) + x % 2 ^ j := by
    have a1 := Nat.div_add_mod x (2 ^ j)
    have a2 : x / 2 ^ j = 2 * (x / 2 ^ j / 2) := by omega
    rw [Nat.pow_succ, Nat.mul_assoc]
    rw [a2] at a1
    omega
  have hlo : x % 2 ^ j < 2 ^ j := Nat.mod_lt _ hp
  generalize x % 2 ^ j = lo at *
  generalize x / 2 ^ j / 2 = A at *
  have j1 : 2 ^ (j + 1) * A ||| lo = 2 ^ (j + 1) * A + lo := nat_join j _ _ (by rw [Nat.pow_succ, Nat.mul_assoc, Nat.mul_mod_right]) hlo
  have j2 : 2 ^ (j + 1) * A ||| 2 ^ j = 2 ^ (j + 1) * A + 2 ^ j := nat_join (j + 1) _ _ (by rw [Nat.mul_mod_right]) (by rw [Nat.pow_succ]; omega)
  have j3 : (2 ^ (j + 1) * A + 2 ^ j) ||| lo = 2 ^ (j + 1) * A + 2 ^ j + lo := nat_join j _ _ (by rw [Nat.pow_succ, Nat.mul_assoc, ← Nat.mul_succ, Nat.mul_mod_right]) hlo
  rw [e1]
  rw [← j1, Nat.or_assoc, Nat.or_comm lo, ← Nat.or_assoc, j2, j3, j1]
  omega
theorem C4.put_add {k : C4} (hk : k.ok) (b : Nat) (hb : b < 256) (h : k.has b = false) : k.put ((b : Int) / 64).toNat (IntKind.u64.wrap (k.w ((b : Int) / 64).toNat + ((2 ^ ((b : Int) % 64).toNat : Nat) : Int))) = k.add (b : Int) := by
  have e1 : ((b : Int) / 64).toNat = b / 64 := by omega
  have e2 : ((b : Int) % 64).toNat = b % 64 := by omega
  unfold C4.add
  rw [e1, e2]
  obtain ⟨m, hm, hl⟩ := okW_nat (C4.ok_w hk (b / 64))
  have e3 : m.testBit (b % 64) = false := by
    unfold C4.has at h
    rwa [hm, Int.toNat_natCast] at h
  rw [hm]
  congr 1
  have h2 : 2 ^ (b % 64) < 2 ^ 64 := Nat.pow_lt_pow_right (by decide) (by omega)
  have ew : IntKind.u64.wrap (2 ^ (b % 64)) = ((2 ^ (b % 64) : Nat) : Int) := by
    have := u64_small (2 ^ (b % 64)) h2
    rw [Int.natCast_pow] at this
    rw [Int.natCast_pow]
    exact this
  have ho : m ||| 2 ^ (b % 64) < 2 ^ 64 := Nat.or_lt_two_pow hl h2
  rw [ew, u64_or_nat m _ hl h2, ← Int.natCast_add, add_is_or m _ e3]
  exact u64_small _ ho
theorem C4.add_same {k : C4} (hk : k.ok) (b : Nat) (hb : b < 256) (h : k.has b = true) : k.add (b : Int) = k := by
  apply C4.ext_has (C4.add_ok hk b) hk
  intro i hi
  rw [C4.has_add hk b i hb hi]
  by_cases e : b = i
  · subst e; rw [h]; rfl
  · simp [e]
end Go.Proofs.YtphcncgdodhlbaaDoor
namespace Go.Proofs.YtphcncgdodhlbaaDoor
set_option linter.unusedSimpArgs false
set_option linter.unusedVariables false
set_option maxRecDepth 100000
open Go.RowKit
/-- The places 0 to N of A lie in block b from off on. -/
def BsAt (w : World) (b off N : Nat) (A : Nat → Bool) : Prop := ∀ i, i ≤ N → w.cell? ⟨b, off + i, none⟩ = some (.bool (A i))
/-- A slice that reads as the places of A. -/
def BsIn (w : World) (v : Value) (N : Nat) (A : Nat → Bool) : Prop := ∃ b off cap, v = .slice (some ⟨b, off, none⟩) (N + 1) cap ∧ b < w.heap.size ∧ BsAt w b off N A
theorem BsAt.below {w w' : World} {B b off N : Nat} {A : Nat → Bool} (h : BsAt w b off N A) (hb : Below B w w') (hlt : b < B) : BsAt w' b off N A :=
  fun i hi => (hb.cell (p := ⟨b, _, none⟩) hlt).trans (h i hi)
theorem BsIn.below {w w' : World} {v : Value} {N : Nat} {A : Nat → Bool} (h : BsIn w v N A) (hb : Below w.heap.size w w') : BsIn w' v N A := by
  obtain ⟨b, off, cap, rfl, hlt, h⟩ := h
  exact ⟨b, off, cap, rfl, Nat.lt_of_lt_of_le hlt hb.size, h.below hb hlt⟩
def rowB (N : Nat) (A : Nat → Bool) : Array Value := ((List.range (N + 1)).map fun i => Value.bool (A i)).toArray
def upd (A : Nat → Bool) (i : Nat) (x : Bool) : Nat → Bool := fun j => if j = i then x else A j
/-- Block b is a row of the places of A. -/
def BsRow (w : World) (b N : Nat) (A : Nat → Bool) : Prop := w.heap[b]? = some (.cells (rowB N A) 4 (0, 0))
theorem BsRow.lt {w : World} {b N : Nat} {A : Nat → Bool} (h : BsRow w b N A) : b < w.heap.size := by
  rcases Nat.lt_or_ge b w.heap.size with h' | h'
  · exact h'
  · simp [BsRow, Array.getElem?_eq_none h'] at h
theorem rowB_at (N : Nat) (A : Nat → Bool) (i : Nat) (h : i ≤ N) : (rowB N A)[i]? = some (.bool (A i)) := by
  simp [rowB, List.getElem?_range (show i < N + 1 by omega)]
theorem BsRow.at {w : World} {b N : Nat} {A : Nat → Bool} (h : BsRow w b N A) : BsAt w b 0 N A := by
  intro i hi
  rw [Lib.cell_of_heap h, Nat.zero_add, rowB_at N A i hi]
theorem BsRow.isIn {w : World} {b N : Nat} {A : Nat → Bool} (h : BsRow w b N A) (cap : Nat) : BsIn w (.slice (some ⟨b, 0, none⟩) (N + 1) cap) N A := ⟨b, 0, cap, rfl, h.lt, h.at⟩
theorem BsRow.free {w : World} {b N : Nat} {A : Nat → Bool} (h : BsRow w b N A) (i : Nat) : w.frozen? ⟨b, i, none⟩ = false := Lib.frozen_of_heap h i
theorem rowB_set (N : Nat) (A : Nat → Bool) (i : Nat) (x : Bool) : (rowB N A).setIfInBounds i (.bool x) = rowB N (upd A i x) := by
  apply Array.ext_getElem?
  intro j
  rw [Array.getElem?_setIfInBounds]
  by_cases hj : j ≤ N
  · rw [rowB_at N _ j hj, rowB_at N _ j hj]
    by_cases e : i = j
    · subst e
      simp [rowB, upd, hj]
      omega
    · rw [if_neg e]
      simp [upd, Ne.symm e]
  · have h1 : (rowB N A)[j]? = none := Array.getElem?_eq_none (by simp [rowB]; omega)
    have h2 : (rowB N (upd A i x))[j]? = none := Array.getElem?_eq_none (by simp [rowB]; omega)
    rw [h1, h2]
    split
    · rename_i e
      subst e
      rw [if_neg (by simp [rowB]; omega)]
    · rfl
theorem BsRow.set {w : World} {b N : Nat} {A : Nat → Bool} (h : BsRow w b N A) (i : Nat) (x : Bool) : BsRow (w.setCell ⟨b, i, none⟩ (.bool x)) b N (upd A i x) := by
  simp only [BsRow] at h ⊢
  simp [World.setCell, Array.getElem?_modify, h, rowB_set]
theorem BsRow.below {w w' : World} {b N : Nat} {A : Nat → Bool} (h : BsRow w b N A) (hb : Below w.heap.size w w') : BsRow w' b N A := (hb.block b h.lt).trans h
theorem rowB_new (N : Nat) : Array.replicate (N + 1) (Value.bool false) = rowB N fun _ => false := by
  apply Array.ext_getElem?
  intro j
  by_cases hj : j ≤ N
  · rw [rowB_at N _ j hj]
    simp [show j < N + 1 by omega]
  · rw [Array.getElem?_eq_none (by simp; omega), Array.getElem?_eq_none (by simp [rowB]; omega)]
theorem BsRow.new (w : World) (N : Nat) (o : Obj) (ho : o = .cells (Array.replicate (N + 1) (Value.bool false)) 4 (0, 0)) : BsRow (w.alloc o) w.heap.size N fun _ => false := by
  rw [ho, rowB_new]
  show (w.heap.push _)[w.heap.size]? = _
  simp
theorem BsRow.congr {w : World} {b N : Nat} {A B : Nat → Bool} (h : BsRow w b N A) (he : ∀ i, i ≤ N → A i = B i) : BsRow w b N B := by
  have : rowB N A = rowB N B := by
    unfold rowB
    congr 1
    apply List.map_congr_left
    intro i hi
    rw [he i (by have := List.mem_range.1 hi; omega)]
  simp only [BsRow] at h ⊢
  rw [h, this]
theorem BsIn.form {w : World} {v : Value} {N : Nat} {A : Nat → Bool} (h : BsIn w v N A) : ∃ b off cap, v = .slice (some ⟨b, off, none⟩) (N + 1) cap := by
  obtain ⟨b, off, cap, h, _⟩ := h
  exact ⟨b, off, cap, h⟩
end Go.Proofs.YtphcncgdodhlbaaDoor
namespace Go.Proofs.YtphcncgdodhlbaaDoor
set_option linter.unusedSimpArgs false
set_option linter.unusedVariables false
set_option maxRecDepth 100000
open Go.RowKit
set_option maxHeartbeats 4000000 in
theorem sl (s : ByteArray) : s.data.toList.length = s.size := Array.length_toList
theorem str_idx' (s : ByteArray) (a : Nat) (c : UInt8) (h : s.data.toList[a]? = some c) (w : World) : (Instr.index 9 (.string s) (.int .i64 (a : Int))).run Tryd.prog w = .ok (.int .u8 (c.toNat : Int)) w := by
  have hl : a < s.data.toList.length := by
    rcases Nat.lt_or_ge a s.data.toList.length with h' | h'
    · exact h'
    · rw [List.getElem?_eq_none h'] at h; cases h
  have hs : a < s.size := by rw [← sl]; exact hl
  rw [run_index_string w 9 s .i64 (a : Int) Tryd.underlying9, dif_pos ⟨by omega, by omega⟩]
  rw [List.getElem?_eq_getElem hl] at h
  have e : s[(a : Int).toNat]'(by simpa using hs) = c := by
    exact Option.some.inj h
  rw [e]
end Go.Proofs.YtphcncgdodhlbaaDoor
