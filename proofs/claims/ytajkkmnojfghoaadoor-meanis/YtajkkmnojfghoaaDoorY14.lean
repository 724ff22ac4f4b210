/- Package mean: look, at nodes with parts. (Made by wip/tools/genlk.py.) What each call of package class does, function by function, over the loaded program: first part: bits, join, Both, Either, Not, Has, with, Of, Many. -/
import Derived.Test.YtajkkmnojfghoaaDoorY13
import Derived.Test.YtajkkmnojfghoaaDoorY01
namespace Go.Proofs.YtajkkmnojfghoaaDoor
set_option linter.unusedSimpArgs false
set_option linter.unusedVariables false
set_option maxRecDepth 100000
open Go.RowKit
set_option maxHeartbeats 4000000 in
theorem look_cat {c : Cx} (hc : c.Good) (n : Nd) (a1 b1 : Rx) (hok : (Rx.two n a1 b1).Ok) {p q : List Nd} (hns : c.ns = p ++ (Rx.two n a1 b1).flat ++ q) (hop : n.op = 3) (a : Nat) (ha : a ≤ c.s.size) (EA : EndsOk c a1 (p.length + 1) a) (EB : ∀ k, k ≤ c.s.size → EndsOk c b1 (p.length + 1 + a1.flat.length) k) : LookOk c (Rx.two n a1 b1) p.length a := by
  intro w hA
  have hlen := hc.len
  have hsz := hc.size
  have hpl := flat_lt hns
  have hW := hA.bel.size
  have hA0 := hA.lt
  have hM0 := hA.kn.lt
  have hn : c.ns[p.length]? = some n := by rw [hns, List.append_assoc, List.getElem?_append_right (Nat.le_refl _)]; simp [Rx.flat]
  have hZ : Hp (w.alloc (.cells #[.int .u64 0, .int .u64 0, .int .u64 0, .int .u64 0, .int .u64 0, .int .u64 0, .int .u64 0] 102)) w.heap.size noP := Hp.zero _ _ rfl
  have hA1 : c.At (w.alloc (.cells #[.int .u64 0, .int .u64 0, .int .u64 0, .int .u64 0, .int .u64 0, .int .u64 0, .int .u64 0] 102)) := hA.alloc _
  have hG1 : w.grownBy (w.alloc (.cells #[.int .u64 0, .int .u64 0, .int .u64 0, .int .u64 0, .int .u64 0, .int .u64 0, .int .u64 0] 102)) (some c.M) := World.grownBy_alloc _ _ _
  have hz1 : (w.alloc (.cells #[.int .u64 0, .int .u64 0, .int .u64 0, .int .u64 0, .int .u64 0, .int .u64 0, .int .u64 0] 102)).heap.size = w.heap.size + 1 := by simp
  obtain ⟨n0, n1, n2, n3, n4⟩ := (hc.nsAt.below hA1.bel hc.blt) _ _ hn
  rw [hop] at n0
  have c0 := hA1.c0
  have c1 := hA1.c1
  unfold Cx.v at c0
  have i0 : (0 : Int) ≤ (p.length : Int) := by omega
  have i1 : (p.length : Int) < (c.ns.length : Int) := by omega
  have s0 : (c.s.size : Int) ≤ 400 := by omega
  have ev : ((p.length + 1 : Nat) : Int) = (p.length : Int) + 1 := by omega
  have hres : fs c.S (.two n a1 b1) a = ov (Fit c.S b1) (el (fs c.S a1 a) 448) := fs_cat (by rw [Cx.S_len]; exact hsz) n a1 b1 a hop
  have HS := hid (fun w h => second_any hc hok.2.1 hns w h)
  unfold EndsOk at EA
  rw [ev] at EA
  replace EA := hid EA
  have HB := hid (fun w h => (callsIn_wide (n := 3)).1 (behind_in c hc b1 (p.length + 1 + a1.flat.length) (fs c.S a1 a) (fun k _ hk => EB k (by have := fit_le _ _ _ _ (fs_iff.1 hk); rw [Cx.S_len] at this; omega)) w h))
  clear hn hns hop n1 n2 n3 n4 EB hok
  go_enter Tryd.func86, Tryd.ntmps86
  go_wp2_with fail
  refine (HS.out _ hA1).mono ?_
  rintro e w1 ⟨rfl, hb2⟩
  have hA2 := hA1.below hb2
  have hZ2 := hZ.below hb2 hZ.lt
  have hG2 := hG1.trans (below_grown hb2 (some c.M))
  clear n0 c0 c1 HS
  go_wp2_with fail
  refine (EA.out _ hA2).mono ?_
  rintro e w2 ⟨rfl, hA3, hg3⟩
  have hZ3 := hZ2.grown hg3 (by intro e; injection e; omega)
  have hG3 := hG2.trans hg3
  clear EA
  go_wp2_with fail
  refine (HB.out _ hA3).mono ?_
  rintro e w3 ⟨rfl, hA4, hg4⟩
  have hZ4 := hZ3.grown hg4 (by intro e; injection e; omega)
  have hG4 := hG3.trans hg4
  clear HB
  obtain ⟨d0, d1, d2, d3, d4, d5, d6⟩ := hZ4.all
  obtain ⟨f0, f1, f2, f3, f4, f5, f6⟩ := hZ4.frz
  unfold plV
  go_wp2
  have hq := hZ4.put7 (ov (Fit c.S b1) (el (fs c.S a1 a) 448))
  obtain ⟨e0, e1, e2, e3, e4, e5, e6⟩ := hq.all
  refine bodyPost_ret (v := plV (ov (Fit c.S b1) (el (fs c.S a1 a) 448))) (by simp [results, Tryd.results86, go_sem, plV, e0, e1, e2, e3, e4, e5, e6]) rfl ⟨by rw [hres], hA4.turn (grown_put7 _ _ _) (fun r e => by cases e; exact ⟨hW, by omega, by omega⟩), grown_new hG4 (grown_put7 _ _ _) (Nat.le_refl _)⟩
set_option maxHeartbeats 4000000 in
theorem look_or {c : Cx} (hc : c.Good) (n : Nd) (a1 b1 : Rx) (hok : (Rx.two n a1 b1).Ok) {p q : List Nd} (hns : c.ns = p ++ (Rx.two n a1 b1).flat ++ q) (hop : n.op = 4) (a : Nat) (ha : a ≤ c.s.size) (EA : EndsOk c a1 (p.length + 1) a) (EB : EndsOk c b1 (p.length + 1 + a1.flat.length) a) : LookOk c (Rx.two n a1 b1) p.length a := by
  intro w hA
  have hlen := hc.len
  have hsz := hc.size
  have hpl := flat_lt hns
  have hW := hA.bel.size
  have hA0 := hA.lt
  have hM0 := hA.kn.lt
  have hn : c.ns[p.length]? = some n := by rw [hns, List.append_assoc, List.getElem?_append_right (Nat.le_refl _)]; simp [Rx.flat]
  have hZ : Hp (w.alloc (.cells #[.int .u64 0, .int .u64 0, .int .u64 0, .int .u64 0, .int .u64 0, .int .u64 0, .int .u64 0] 102)) w.heap.size noP := Hp.zero _ _ rfl
  have hA1 : c.At (w.alloc (.cells #[.int .u64 0, .int .u64 0, .int .u64 0, .int .u64 0, .int .u64 0, .int .u64 0, .int .u64 0] 102)) := hA.alloc _
  have hG1 : w.grownBy (w.alloc (.cells #[.int .u64 0, .int .u64 0, .int .u64 0, .int .u64 0, .int .u64 0, .int .u64 0, .int .u64 0] 102)) (some c.M) := World.grownBy_alloc _ _ _
  have hz1 : (w.alloc (.cells #[.int .u64 0, .int .u64 0, .int .u64 0, .int .u64 0, .int .u64 0, .int .u64 0, .int .u64 0] 102)).heap.size = w.heap.size + 1 := by simp
  obtain ⟨n0, n1, n2, n3, n4⟩ := (hc.nsAt.below hA1.bel hc.blt) _ _ hn
  rw [hop] at n0
  have c0 := hA1.c0
  have c1 := hA1.c1
  unfold Cx.v at c0
  have i0 : (0 : Int) ≤ (p.length : Int) := by omega
  have i1 : (p.length : Int) < (c.ns.length : Int) := by omega
  have s0 : (c.s.size : Int) ≤ 400 := by omega
  have ev : ((p.length + 1 : Nat) : Int) = (p.length : Int) + 1 := by omega
  have hres : fs c.S (.two n a1 b1) a = joinP (fs c.S a1 a) (fs c.S b1 a) := fs_or n a1 b1 a (by omega)
  have HS := hid (fun w h => second_any hc hok.2.1 hns w h)
  unfold EndsOk at EA EB
  rw [ev] at EA
  replace EA := hid EA
  replace EB := hid EB
  clear hn hns hop n1 n2 n3 n4 hok
  go_enter Tryd.func86, Tryd.ntmps86
  go_wp2_with fail
  refine (EA.out _ hA1).mono ?_
  rintro e w1 ⟨rfl, hA2, hg2⟩
  have hZ2 := hZ.grown hg2 (by intro e; injection e; omega)
  have hG2 := hG1.trans hg2
  clear EA n0 c0 c1
  go_wp2_with fail
  refine (HS.out _ hA2).mono ?_
  rintro e w2 ⟨rfl, hb3⟩
  have hA3 := hA2.below hb3
  have hZ3 := hZ2.below hb3 hZ2.lt
  have hG3 := hG2.trans (below_grown hb3 (some c.M))
  clear HS
  go_wp2_with fail
  refine (EB.out _ hA3).mono ?_
  rintro e w3 ⟨rfl, hA4, hg4⟩
  have hZ4 := hZ3.grown hg4 (by intro e; injection e; omega)
  have hG4 := hG3.trans hg4
  clear EB
  go_wp2_with fail
  refine (pjoined_any _ _ _).mono ?_
  rintro e w4 ⟨rfl, hb5⟩
  have hA5 := hA4.below hb5
  have hZ5 := hZ4.below hb5 hZ4.lt
  have hG5 := hG4.trans (below_grown hb5 (some c.M))
  obtain ⟨d0, d1, d2, d3, d4, d5, d6⟩ := hZ5.all
  obtain ⟨f0, f1, f2, f3, f4, f5, f6⟩ := hZ5.frz
  unfold plV
  go_wp2
  have hq := hZ5.put7 (joinP (fs c.S a1 a) (fs c.S b1 a))
  obtain ⟨e0, e1, e2, e3, e4, e5, e6⟩ := hq.all
  refine bodyPost_ret (v := plV (joinP (fs c.S a1 a) (fs c.S b1 a))) (by simp [results, Tryd.results86, go_sem, plV, e0, e1, e2, e3, e4, e5, e6]) rfl ⟨by rw [hres], hA5.turn (grown_put7 _ _ _) (fun r e => by cases e; exact ⟨hW, by omega, by omega⟩), grown_new hG5 (grown_put7 _ _ _) (Nat.le_refl _)⟩
set_option maxHeartbeats 4000000 in
theorem look_opt {c : Cx} (hc : c.Good) (n : Nd) (a1 : Rx) {p q : List Nd} (hns : c.ns = p ++ (Rx.one n a1).flat ++ q) (hop : n.op = 7) (a : Nat) (ha : a ≤ c.s.size) (EA : EndsOk c a1 (p.length + 1) a) : LookOk c (Rx.one n a1) p.length a := by
  intro w hA
  have hlen := hc.len
  have hsz := hc.size
  have hpl := flat_lt hns
  have hW := hA.bel.size
  have hA0 := hA.lt
  have hM0 := hA.kn.lt
  have hn : c.ns[p.length]? = some n := by rw [hns, List.append_assoc, List.getElem?_append_right (Nat.le_refl _)]; simp [Rx.flat]
  have hZ : Hp (w.alloc (.cells #[.int .u64 0, .int .u64 0, .int .u64 0, .int .u64 0, .int .u64 0, .int .u64 0, .int .u64 0] 102)) w.heap.size noP := Hp.zero _ _ rfl
  have hA1 : c.At (w.alloc (.cells #[.int .u64 0, .int .u64 0, .int .u64 0, .int .u64 0, .int .u64 0, .int .u64 0, .int .u64 0] 102)) := hA.alloc _
  have hG1 : w.grownBy (w.alloc (.cells #[.int .u64 0, .int .u64 0, .int .u64 0, .int .u64 0, .int .u64 0, .int .u64 0, .int .u64 0] 102)) (some c.M) := World.grownBy_alloc _ _ _
  have hz1 : (w.alloc (.cells #[.int .u64 0, .int .u64 0, .int .u64 0, .int .u64 0, .int .u64 0, .int .u64 0, .int .u64 0] 102)).heap.size = w.heap.size + 1 := by simp
  obtain ⟨n0, n1, n2, n3, n4⟩ := (hc.nsAt.below hA1.bel hc.blt) _ _ hn
  rw [hop] at n0
  have c0 := hA1.c0
  have c1 := hA1.c1
  unfold Cx.v at c0
  have i0 : (0 : Int) ≤ (p.length : Int) := by omega
  have i1 : (p.length : Int) < (c.ns.length : Int) := by omega
  have s0 : (c.s.size : Int) ≤ 400 := by omega
  have ev : ((p.length + 1 : Nat) : Int) = (p.length : Int) + 1 := by omega
  have hres : fs c.S (.one n a1) a = withP (fs c.S a1 a) a := fs_opt n a1 a (by rw [Cx.S_len]; exact ha) (by omega) (by omega)
  unfold EndsOk at EA
  rw [ev] at EA
  replace EA := hid EA
  clear hn hns hop n1 n2 n3 n4
  go_enter Tryd.func86, Tryd.ntmps86
  go_wp2_with fail
  refine (EA.out _ hA1).mono ?_
  rintro e w1 ⟨rfl, hA2, hg2⟩
  have hZ2 := hZ.grown hg2 (by intro e; injection e; omega)
  have hG2 := hG1.trans hg2
  clear EA n0 c0 c1
  go_wp2_with fail
  refine (pwith_any _ a (by omega) _).mono ?_
  rintro e w2 ⟨rfl, hb3⟩
  have hA3 := hA2.below hb3
  have hZ3 := hZ2.below hb3 hZ2.lt
  have hG3 := hG2.trans (below_grown hb3 (some c.M))
  obtain ⟨d0, d1, d2, d3, d4, d5, d6⟩ := hZ3.all
  obtain ⟨f0, f1, f2, f3, f4, f5, f6⟩ := hZ3.frz
  unfold plV
  go_wp2
  have hq := hZ3.put7 (withP (fs c.S a1 a) a)
  obtain ⟨e0, e1, e2, e3, e4, e5, e6⟩ := hq.all
  refine bodyPost_ret (v := plV (withP (fs c.S a1 a) a)) (by simp [results, Tryd.results86, go_sem, plV, e0, e1, e2, e3, e4, e5, e6]) rfl ⟨by rw [hres], hA3.turn (grown_put7 _ _ _) (fun r e => by cases e; exact ⟨hW, by omega, by omega⟩), grown_new hG3 (grown_put7 _ _ _) (Nat.le_refl _)⟩
set_option maxHeartbeats 4000000 in
theorem look_star {c : Cx} (hc : c.Good) (n : Nd) (a1 : Rx) {p q : List Nd} (hns : c.ns = p ++ (Rx.one n a1).flat ++ q) (hop : n.op = 5) (a : Nat) (ha : a ≤ c.s.size) (EA : EndsOk c a1 (p.length + 1) a) (ES : ∀ k, a < k → k ≤ c.s.size → EndsOk c (.one n a1) p.length k) : LookOk c (Rx.one n a1) p.length a := by
  intro w hA
  have hlen := hc.len
  have hsz := hc.size
  have hpl := flat_lt hns
  have hW := hA.bel.size
  have hA0 := hA.lt
  have hM0 := hA.kn.lt
  have hn : c.ns[p.length]? = some n := by rw [hns, List.append_assoc, List.getElem?_append_right (Nat.le_refl _)]; simp [Rx.flat]
  have hZ : Hp (w.alloc (.cells #[.int .u64 0, .int .u64 0, .int .u64 0, .int .u64 0, .int .u64 0, .int .u64 0, .int .u64 0] 102)) w.heap.size noP := Hp.zero _ _ rfl
  have hA1 : c.At (w.alloc (.cells #[.int .u64 0, .int .u64 0, .int .u64 0, .int .u64 0, .int .u64 0, .int .u64 0, .int .u64 0] 102)) := hA.alloc _
  have hG1 : w.grownBy (w.alloc (.cells #[.int .u64 0, .int .u64 0, .int .u64 0, .int .u64 0, .int .u64 0, .int .u64 0, .int .u64 0] 102)) (some c.M) := World.grownBy_alloc _ _ _
  have hz1 : (w.alloc (.cells #[.int .u64 0, .int .u64 0, .int .u64 0, .int .u64 0, .int .u64 0, .int .u64 0, .int .u64 0] 102)).heap.size = w.heap.size + 1 := by simp
  obtain ⟨n0, n1, n2, n3, n4⟩ := (hc.nsAt.below hA1.bel hc.blt) _ _ hn
  rw [hop] at n0
  have c0 := hA1.c0
  have c1 := hA1.c1
  unfold Cx.v at c0
  have i0 : (0 : Int) ≤ (p.length : Int) := by omega
  have i1 : (p.length : Int) < (c.ns.length : Int) := by omega
  have s0 : (c.s.size : Int) ≤ 400 := by omega
  have ev : ((p.length + 1 : Nat) : Int) = (p.length : Int) + 1 := by omega
  have hres : fs c.S (.one n a1) a = withP (joinP (ov (Go.Proofs.YtajkkmnojfghoaaDoor.hop c.S (.one n a1) a) (el (fs c.S a1 a) 448)) (fs c.S a1 a)) a := fs_star (by rw [Cx.S_len]; exact hsz) n a1 a (by rw [Cx.S_len]; exact ha) hop
  have HB := hid (fun w h => (callsIn_wide (n := 3)).1 (again_in c hc n a1 (by omega) p.length a (by omega) (fs c.S a1 a) (fun k hk _ hk2 => ES k hk (by have := fit_le _ _ _ _ (fs_iff.1 hk2); rw [Cx.S_len] at this; omega)) w h))
  unfold EndsOk at EA
  rw [ev] at EA
  replace EA := hid EA
  clear hn hns hop n1 n2 n3 n4 ES
  go_enter Tryd.func86, Tryd.ntmps86
  go_wp2_with fail
  refine (EA.out _ hA1).mono ?_
  rintro e w1 ⟨rfl, hA2, hg2⟩
  have hZ2 := hZ.grown hg2 (by intro e; injection e; omega)
  have hG2 := hG1.trans hg2
  clear EA n0 c0 c1
  go_wp2_with fail
  refine (HB.out _ hA2).mono ?_
  rintro e w2 ⟨rfl, hA3, hg3⟩
  have hZ3 := hZ2.grown hg3 (by intro e; injection e; omega)
  have hG3 := hG2.trans hg3
  clear HB
  go_wp2_with fail
  refine (pwith_any _ a (by omega) _).mono ?_
  rintro e w3 ⟨rfl, hb4⟩
  have hA4 := hA3.below hb4
  have hZ4 := hZ3.below hb4 hZ3.lt
  have hG4 := hG3.trans (below_grown hb4 (some c.M))
  obtain ⟨d0, d1, d2, d3, d4, d5, d6⟩ := hZ4.all
  obtain ⟨f0, f1, f2, f3, f4, f5, f6⟩ := hZ4.frz
  unfold plV
  go_wp2
  have hq := hZ4.put7 (withP (joinP (ov (Go.Proofs.YtajkkmnojfghoaaDoor.hop c.S (.one n a1) a) (el (fs c.S a1 a) 448)) (fs c.S a1 a)) a)
  obtain ⟨e0, e1, e2, e3, e4, e5, e6⟩ := hq.all
  refine bodyPost_ret (v := plV (withP (joinP (ov (Go.Proofs.YtajkkmnojfghoaaDoor.hop c.S (.one n a1) a) (el (fs c.S a1 a) 448)) (fs c.S a1 a)) a)) (by simp [results, Tryd.results86, go_sem, plV, e0, e1, e2, e3, e4, e5, e6]) rfl ⟨by rw [hres], hA4.turn (grown_put7 _ _ _) (fun r e => by cases e; exact ⟨hW, by omega, by omega⟩), grown_new hG4 (grown_put7 _ _ _) (Nat.le_refl _)⟩
set_option maxHeartbeats 4000000 in
theorem look_plus {c : Cx} (hc : c.Good) (n : Nd) (a1 : Rx) {p q : List Nd} (hns : c.ns = p ++ (Rx.one n a1).flat ++ q) (hop : n.op = 6) (a : Nat) (ha : a ≤ c.s.size) (EA : EndsOk c a1 (p.length + 1) a) (ES : ∀ k, a < k → k ≤ c.s.size → EndsOk c (.one n a1) p.length k) : LookOk c (Rx.one n a1) p.length a := by
  intro w hA
  have hlen := hc.len
  have hsz := hc.size
  have hpl := flat_lt hns
  have hW := hA.bel.size
  have hA0 := hA.lt
  have hM0 := hA.kn.lt
  have hn : c.ns[p.length]? = some n := by rw [hns, List.append_assoc, List.getElem?_append_right (Nat.le_refl _)]; simp [Rx.flat]
  have hZ : Hp (w.alloc (.cells #[.int .u64 0, .int .u64 0, .int .u64 0, .int .u64 0, .int .u64 0, .int .u64 0, .int .u64 0] 102)) w.heap.size noP := Hp.zero _ _ rfl
  have hA1 : c.At (w.alloc (.cells #[.int .u64 0, .int .u64 0, .int .u64 0, .int .u64 0, .int .u64 0, .int .u64 0, .int .u64 0] 102)) := hA.alloc _
  have hG1 : w.grownBy (w.alloc (.cells #[.int .u64 0, .int .u64 0, .int .u64 0, .int .u64 0, .int .u64 0, .int .u64 0, .int .u64 0] 102)) (some c.M) := World.grownBy_alloc _ _ _
  have hz1 : (w.alloc (.cells #[.int .u64 0, .int .u64 0, .int .u64 0, .int .u64 0, .int .u64 0, .int .u64 0, .int .u64 0] 102)).heap.size = w.heap.size + 1 := by simp
  obtain ⟨n0, n1, n2, n3, n4⟩ := (hc.nsAt.below hA1.bel hc.blt) _ _ hn
  rw [hop] at n0
  have c0 := hA1.c0
  have c1 := hA1.c1
  unfold Cx.v at c0
  have i0 : (0 : Int) ≤ (p.length : Int) := by omega
  have i1 : (p.length : Int) < (c.ns.length : Int) := by omega
  have s0 : (c.s.size : Int) ≤ 400 := by omega
  have ev : ((p.length + 1 : Nat) : Int) = (p.length : Int) + 1 := by omega
  have hres : fs c.S (.one n a1) a = joinP (ov (Go.Proofs.YtajkkmnojfghoaaDoor.hop c.S (.one n a1) a) (el (fs c.S a1 a) 448)) (fs c.S a1 a) := fs_plus (by rw [Cx.S_len]; exact hsz) n a1 a hop
  have HB := hid (fun w h => (callsIn_wide (n := 3)).1 (again_in c hc n a1 (by omega) p.length a (by omega) (fs c.S a1 a) (fun k hk _ hk2 => ES k hk (by have := fit_le _ _ _ _ (fs_iff.1 hk2); rw [Cx.S_len] at this; omega)) w h))
  unfold EndsOk at EA
  rw [ev] at EA
  replace EA := hid EA
  clear hn hns hop n1 n2 n3 n4 ES
  go_enter Tryd.func86, Tryd.ntmps86
  go_wp2_with fail
  refine (EA.out _ hA1).mono ?_
  rintro e w1 ⟨rfl, hA2, hg2⟩
  have hZ2 := hZ.grown hg2 (by intro e; injection e; omega)
  have hG2 := hG1.trans hg2
  clear EA n0 c0 c1
  go_wp2_with fail
  refine (HB.out _ hA2).mono ?_
  rintro e w2 ⟨rfl, hA3, hg3⟩
  have hZ3 := hZ2.grown hg3 (by intro e; injection e; omega)
  have hG3 := hG2.trans hg3
  clear HB
  obtain ⟨d0, d1, d2, d3, d4, d5, d6⟩ := hZ3.all
  obtain ⟨f0, f1, f2, f3, f4, f5, f6⟩ := hZ3.frz
  unfold plV
  go_wp2
  have hq := hZ3.put7 (joinP (ov (Go.Proofs.YtajkkmnojfghoaaDoor.hop c.S (.one n a1) a) (el (fs c.S a1 a) 448)) (fs c.S a1 a))
  obtain ⟨e0, e1, e2, e3, e4, e5, e6⟩ := hq.all
  refine bodyPost_ret (v := plV (joinP (ov (Go.Proofs.YtajkkmnojfghoaaDoor.hop c.S (.one n a1) a) (el (fs c.S a1 a) 448)) (fs c.S a1 a))) (by simp [results, Tryd.results86, go_sem, plV, e0, e1, e2, e3, e4, e5, e6]) rfl ⟨by rw [hres], hA3.turn (grown_put7 _ _ _) (fun r e => by cases e; exact ⟨hW, by omega, by omega⟩), grown_new hG3 (grown_put7 _ _ _) (Nat.le_refl _)⟩
end Go.Proofs.YtajkkmnojfghoaaDoor
namespace Go.Proofs.YtajkkmnojfghoaaDoor
set_option linter.unusedSimpArgs false
set_option linter.unusedVariables false
set_option maxRecDepth 100000
open Go.RowKit

theorem either1_any (x y : Int) (w : World) :
    Calls Tryd.prog 52 #[.int .u64 x, .int .u64 y] w fun e w' => e = .returned (.int .u64 (bits .or .u64 x y)) ∧ w' = w := by
  go_enter Tryd.func52, Tryd.ntmps52
  go_wp2
  go_ret
  exact ⟨rfl, rfl⟩
theorem not1_any (x y : Int) (w : World) :
    Calls Tryd.prog 47 #[.int .u64 x, .int .u64 y] w fun e w' => e = .returned (.int .u64 (not64 x)) ∧ w' = w := by
  have hs : ¬ IntKind.u64.signed = true := by decide
  go_enter Tryd.func47, Tryd.ntmps47
  go_wp2
  all_goals first | (exfalso; exact hs ‹_›) | skip
  all_goals (go_ret; exact ⟨rfl, rfl⟩)
set_option maxHeartbeats 400000 in
theorem ones_any (x : Int) (w : World) :
    Calls Tryd.prog 48 #[.int .u64 x] w fun e w' => e = .returned (.int .i64 (ones x)) ∧ w' = w := by
  go_enter Tryd.func48, Tryd.ntmps48
  go_wp2
  go_ret
  exact ⟨rfl, rfl⟩
set_option maxHeartbeats 400000 in
theorem has_any (k : C4) (x : Int) (w : World) (h : 0 ≤ x) (h2 : x < 256) :
    Calls Tryd.prog 22 #[k.v, .int .u8 x] w fun e w' => e = .returned (.bool (k.hasI x)) ∧ Below w.heap.size w w' := by
  have hw := k.get (x/64).toNat (by omega)
  go_enter Tryd.func22, Tryd.ntmps22
  go_wp2
  go_ret
  exact ⟨rfl, (Below.refl _ _).alloc (Nat.le_refl _) _⟩
set_option maxHeartbeats 400000 in
theorem with_any (k : C4) (x : Int) (w : World) (h : 0 ≤ x) (h2 : x < 256) :
    Calls Tryd.prog 44 #[k.v, .int .u8 x] w fun e w' => e = .returned (k.add x).v ∧ Below w.heap.size w w' := by
  have hw := k.get (x/64).toNat (by omega)
  have hs := k.set (x/64).toNat (by omega)
  go_enter Tryd.func44, Tryd.ntmps44
  go_wp2
  refine bodyPost_ret (v := (k.add x).v) (by simp [results, Tryd.results44, go_sem]; exact ⟨rfl, rfl, rfl, rfl⟩) rfl ⟨rfl, ?_⟩
  exact ((Below.refl _ _).alloc (Nat.le_refl _) _).alloc (by simp) _

set_option maxHeartbeats 1000000 in
theorem join_any (g : Nat) (F : Int → Int → Int) (hg : ∀ (p q : Int) (w : World), Calls Tryd.prog g #[.int .u64 p, .int .u64 q] w fun e w' => e = .returned (.int .u64 (F p q)) ∧ w' = w)
    (he : ∀ args w, (callFunc g args).run Tryd.prog w = .ok (.enter g args) w) (x y : C4) (w : World) :
    Calls Tryd.prog 46 #[x.v, y.v, .func (.func g) #[] #[]] w fun e w' => e = .returned (jn F x y 4).v ∧ Below w.heap.size w w' := by
  have HG := (show Hid _ from hg)
  clear hg
  go_enter Tryd.func46, Tryd.ntmps46
  go_wp2
  go_loopw [9] (fun i wr => ∃ k : Nat, k ≤ 4 ∧ i = .int .i64 k ∧ Below w.heap.size w wr ∧ Hb wr w.heap.size x ∧ Hb wr (w.heap.size + 1) y ∧ Hb wr (w.heap.size + 1 + 1) z4 ∧ Hb wr (w.heap.size + 1 + 1 + 1) (jn F x y k)) (fun i _ => 4 - (intOf i).toNat)
  case atStart =>
    refine ⟨0, by omega, rfl, ?_, ?_, ?_, ?_, ?_⟩
    · exact ((((Below.refl _ _).alloc (Nat.le_refl _) _).alloc (by simp) _).alloc (by simp; omega) _).alloc (by simp; omega) _
    · exact (((Hb.new _ x _ rfl).alloc _).alloc _).alloc _
    · exact ((Hb.new _ y _ (by simp)).alloc _).alloc _
    · exact (Hb.new _ z4 _ (by simp)).alloc _
    · exact Hb.new _ (jn F x y 0) _ (by simp)
  case round =>
    obtain ⟨k, hk, rfl, hB, hX, hY, hZ, hJ⟩ := hrel
    by_cases hlt : k < 4
    · have cx := hX.cell k hlt
      have cy := hY.cell k hlt
      have cj := hJ.cell k hlt
      have fj := hJ.frozen k
      have i0 : (0 : Int) ≤ (k : Int) := by omega
      have i1 : (k : Int) < 4 := by omega
      have sx := fun v => (hX.other ⟨w.heap.size + 1 + 1 + 1, k, none⟩ v (by simp only; omega)).cell k hlt
      have sy := fun v => (hY.other ⟨w.heap.size + 1 + 1 + 1, k, none⟩ v (by simp only; omega)).cell k hlt
      go_wp2_with fail
      go_region_held3 (fun w' => w'.cell? ⟨w.heap.size, k, none⟩ = some (.int .u64 (x.w k)) ∧ w'.cell? ⟨w.heap.size + 1, k, none⟩ = some (.int .u64 (y.w k))) (go_keep)
        (first | (refine (HG.out _ _ _).mono ?_; rintro e w' ⟨rfl, rfl⟩))
      all_goals go_wp2
      refine ⟨⟨k + 1, by omega, by go_num, ?_, ?_, ?_, ?_, ?_⟩, by simp [intOf]; omega⟩
      · exact (hB.setCell (by simp; omega) _).drew
      · exact (hX.other _ _ (by simp only; omega)).drew
      · exact (hY.other _ _ (by simp only; omega)).drew
      · exact (hZ.other _ _ (by simp only; omega)).drew
      · rw [← jn_put F x y k hlt]
        exact (hJ.store k hlt _).drew
    · have hk4 : k = 4 := by omega
      subst hk4
      have c0 := hJ.c0
      have c1 := hJ.c1
      have c2 := hJ.c2
      have c3 := hJ.c3
      have d0 := hZ.c0
      have d1 := hZ.c1
      have d2 := hZ.c2
      have d3 := hZ.c3
      have f0 := hZ.frozen 0
      have f1 := hZ.frozen 1
      have f2 := hZ.frozen 2
      have f3 := hZ.frozen 3
      go_wp2
      have hq := hZ.put4 (jn F x y 4)
      refine bodyPost_ret (v := (jn F x y 4).v) (by simp [results, Tryd.results46, go_sem, hq.c0, hq.c1, hq.c2, hq.c3]) rfl ⟨rfl, ?_⟩
      exact (((hB.setCell (by simp; omega) _).setCell (by simp; omega) _).setCell (by simp; omega) _).setCell (by simp; omega) _

theorem enters_either1 : ∀ args w, (callFunc 52 args).run Tryd.prog w = .ok (.enter 52 args) w := fun _ _ => by kernel_rfl
theorem enters_not1 : ∀ args w, (callFunc 47 args).run Tryd.prog w = .ok (.enter 47 args) w := fun _ _ => by kernel_rfl
set_option maxHeartbeats 400000 in
theorem either_any (x y : C4) (w : World) :
    Calls Tryd.prog 24 #[x.v, y.v] w fun e w' => e = .returned (x.or y).v ∧ Below w.heap.size w w' := by
  go_enter Tryd.func24, Tryd.ntmps24
  go_wp2_with fail
  refine (join_any 52 _ either1_any enters_either1 x y _).mono ?_
  rintro e w1 ⟨rfl, hb⟩
  have hB : Below w.heap.size w w1 := ((((Below.refl _ _).alloc (Nat.le_refl _) _).alloc (by simp) _).alloc (by simp; omega) _).trans (hb.mono (by simp; omega))
  have hZ : Hb w1 (w.heap.size + 1 + 1) z4 := (Hb.new _ z4 _ (by simp)).below hb (by simp)
  obtain ⟨d0, d1, d2, d3, f0, f1, f2, f3⟩ := hZ.all
  go_wp2
  have hq := hZ.put4 (x.or y)
  refine bodyPost_ret (v := (x.or y).v) (by have g0 := hq.c0; have g1 := hq.c1; have g2 := hq.c2; have g3 := hq.c3; simp [jn, C4.and, C4.or, C4.not] at g0 g1 g2 g3 ⊢; simp [results, Tryd.results24, go_sem, C4.and, C4.or, g0, g1, g2, g3]) rfl ⟨rfl, ?_⟩
  exact below_put4 hB (by omega) _
end Go.Proofs.YtajkkmnojfghoaaDoor
