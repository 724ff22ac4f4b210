/- Package mean: look, at the leaves but Byte. (Made by wip/tools/genlk.py.) Package mean: behind. Package mean: again. -/
import Derived.Test.YtphcncgdodhlbaaDoorY07
namespace Go.Proofs.YtphcncgdodhlbaaDoor
set_option linter.unusedSimpArgs false
set_option linter.unusedVariables false
set_option maxRecDepth 100000
open Go.RowKit
set_option maxHeartbeats 4000000 in
theorem look_begin {c : Cx} (hc : c.Good) (n : Nd)  {p q : List Nd} (hns : c.ns = p ++ (Rx.leaf n).flat ++ q) (hop : n.op = 8) (a : Nat) (ha : a ≤ c.s.size) : LookOk c (Rx.leaf n) p.length a := by
  intro w hA
  have hlen := hc.len
  have hsz := hc.size
  have hpl := flat_lt hns
  have hW := hA.bel.size
  have hA0 := hA.lt
  have hM0 := hA.kn.lt
  have hn : c.ns[p.length]? = some n := by rw [hns, List.append_assoc, List.getElem?_append_right (Nat.le_refl _)]; simp [Rx.flat]
  have hZ : Hp (w.alloc (.cells #[.int .u64 0, .int .u64 0, .int .u64 0, .int .u64 0, .int .u64 0, .int .u64 0, .int .u64 0] 68)) w.heap.size noP := Hp.zero _ _ rfl
  have hA1 : c.At (w.alloc (.cells #[.int .u64 0, .int .u64 0, .int .u64 0, .int .u64 0, .int .u64 0, .int .u64 0, .int .u64 0] 68)) := hA.alloc _
  have hG1 : w.grownBy (w.alloc (.cells #[.int .u64 0, .int .u64 0, .int .u64 0, .int .u64 0, .int .u64 0, .int .u64 0, .int .u64 0] 68)) (some c.M) := World.grownBy_alloc _ _ _
  have hz1 : (w.alloc (.cells #[.int .u64 0, .int .u64 0, .int .u64 0, .int .u64 0, .int .u64 0, .int .u64 0, .int .u64 0] 68)).heap.size = w.heap.size + 1 := by simp
  obtain ⟨n0, n1, n2, n3, n4⟩ := (hc.nsAt.below hA1.bel hc.blt) _ _ hn
  rw [hop] at n0
  have c0 := hA1.c0
  have c1 := hA1.c1
  unfold Cx.v at c0
  have i0 : (0 : Int) ≤ (p.length : Int) := by omega
  have i1 : (p.length : Int) < (c.ns.length : Int) := by omega
  have s0 : (c.s.size : Int) ≤ 400 := by omega
  have hres : fs c.S (.leaf n) a = whenP ((a : Int) == 0) a := by
    rw [fs_begin n a hop]
    congr 1
    rw [Bool.eq_iff_iff]; simp
  clear hn hns hop n1 n2 n3 n4
  go_enter Tryd.func40, Tryd.ntmps40
  go_wp2_with fail
  refine (pwhen_any ((a : Int) == 0) a (by omega) _).mono ?_
  rintro e w1 ⟨rfl, hb⟩
  have hZ1 := hZ.below hb hZ.lt
  have hA2 := hA1.below hb
  have hG2 : w.grownBy w1 (some c.M) := hG1.trans (below_grown hb _)
  clear hZ n0 c0 c1
  obtain ⟨d0, d1, d2, d3, d4, d5, d6⟩ := hZ1.all
  obtain ⟨f0, f1, f2, f3, f4, f5, f6⟩ := hZ1.frz
  unfold plV
  go_wp2
  have hq := hZ1.put7 (whenP ((a : Int) == 0) a)
  obtain ⟨e0, e1, e2, e3, e4, e5, e6⟩ := hq.all
  refine bodyPost_ret (v := plV (whenP ((a : Int) == 0) a)) (by simp [results, Tryd.results40, go_sem, plV, e0, e1, e2, e3, e4, e5, e6]) rfl ⟨by rw [hres], hA2.turn (grown_put7 _ _ _) (fun r e => by cases e; exact ⟨hW, by omega, by omega⟩), grown_new hG2 (grown_put7 _ _ _) (Nat.le_refl _)⟩
set_option maxHeartbeats 4000000 in
theorem look_end {c : Cx} (hc : c.Good) (n : Nd)  {p q : List Nd} (hns : c.ns = p ++ (Rx.leaf n).flat ++ q) (hop : n.op = 9) (a : Nat) (ha : a ≤ c.s.size) : LookOk c (Rx.leaf n) p.length a := by
  intro w hA
  have hlen := hc.len
  have hsz := hc.size
  have hpl := flat_lt hns
  have hW := hA.bel.size
  have hA0 := hA.lt
  have hM0 := hA.kn.lt
  have hn : c.ns[p.length]? = some n := by rw [hns, List.append_assoc, List.getElem?_append_right (Nat.le_refl _)]; simp [Rx.flat]
  have hZ : Hp (w.alloc (.cells #[.int .u64 0, .int .u64 0, .int .u64 0, .int .u64 0, .int .u64 0, .int .u64 0, .int .u64 0] 68)) w.heap.size noP := Hp.zero _ _ rfl
  have hA1 : c.At (w.alloc (.cells #[.int .u64 0, .int .u64 0, .int .u64 0, .int .u64 0, .int .u64 0, .int .u64 0, .int .u64 0] 68)) := hA.alloc _
  have hG1 : w.grownBy (w.alloc (.cells #[.int .u64 0, .int .u64 0, .int .u64 0, .int .u64 0, .int .u64 0, .int .u64 0, .int .u64 0] 68)) (some c.M) := World.grownBy_alloc _ _ _
  have hz1 : (w.alloc (.cells #[.int .u64 0, .int .u64 0, .int .u64 0, .int .u64 0, .int .u64 0, .int .u64 0, .int .u64 0] 68)).heap.size = w.heap.size + 1 := by simp
  obtain ⟨n0, n1, n2, n3, n4⟩ := (hc.nsAt.below hA1.bel hc.blt) _ _ hn
  rw [hop] at n0
  have c0 := hA1.c0
  have c1 := hA1.c1
  unfold Cx.v at c0
  have i0 : (0 : Int) ≤ (p.length : Int) := by omega
  have i1 : (p.length : Int) < (c.ns.length : Int) := by omega
  have s0 : (c.s.size : Int) ≤ 400 := by omega
  have hres : fs c.S (.leaf n) a = whenP ((a : Int) == (c.s.size : Int)) a := by
    rw [fs_end n a hop, Cx.S_len]
    congr 1
    rw [Bool.eq_iff_iff]; simp; omega
  clear hn hns hop n1 n2 n3 n4
  go_enter Tryd.func40, Tryd.ntmps40
  go_wp2_with fail
  refine (pwhen_any ((a : Int) == (c.s.size : Int)) a (by omega) _).mono ?_
  rintro e w1 ⟨rfl, hb⟩
  have hZ1 := hZ.below hb hZ.lt
  have hA2 := hA1.below hb
  have hG2 : w.grownBy w1 (some c.M) := hG1.trans (below_grown hb _)
  clear hZ n0 c0 c1
  obtain ⟨d0, d1, d2, d3, d4, d5, d6⟩ := hZ1.all
  obtain ⟨f0, f1, f2, f3, f4, f5, f6⟩ := hZ1.frz
  unfold plV
  go_wp2
  have hq := hZ1.put7 (whenP ((a : Int) == (c.s.size : Int)) a)
  obtain ⟨e0, e1, e2, e3, e4, e5, e6⟩ := hq.all
  refine bodyPost_ret (v := plV (whenP ((a : Int) == (c.s.size : Int)) a)) (by simp [results, Tryd.results40, go_sem, plV, e0, e1, e2, e3, e4, e5, e6]) rfl ⟨by rw [hres], hA2.turn (grown_put7 _ _ _) (fun r e => by cases e; exact ⟨hW, by omega, by omega⟩), grown_new hG2 (grown_put7 _ _ _) (Nat.le_refl _)⟩
set_option maxHeartbeats 4000000 in
theorem look_empty {c : Cx} (hc : c.Good) (n : Nd)  {p q : List Nd} (hns : c.ns = p ++ (Rx.leaf n).flat ++ q) (hop : n.op = 2) (a : Nat) (ha : a ≤ c.s.size) : LookOk c (Rx.leaf n) p.length a := by
  intro w hA
  have hlen := hc.len
  have hsz := hc.size
  have hpl := flat_lt hns
  have hW := hA.bel.size
  have hA0 := hA.lt
  have hM0 := hA.kn.lt
  have hn : c.ns[p.length]? = some n := by rw [hns, List.append_assoc, List.getElem?_append_right (Nat.le_refl _)]; simp [Rx.flat]
  have hZ : Hp (w.alloc (.cells #[.int .u64 0, .int .u64 0, .int .u64 0, .int .u64 0, .int .u64 0, .int .u64 0, .int .u64 0] 68)) w.heap.size noP := Hp.zero _ _ rfl
  have hA1 : c.At (w.alloc (.cells #[.int .u64 0, .int .u64 0, .int .u64 0, .int .u64 0, .int .u64 0, .int .u64 0, .int .u64 0] 68)) := hA.alloc _
  have hG1 : w.grownBy (w.alloc (.cells #[.int .u64 0, .int .u64 0, .int .u64 0, .int .u64 0, .int .u64 0, .int .u64 0, .int .u64 0] 68)) (some c.M) := World.grownBy_alloc _ _ _
  have hz1 : (w.alloc (.cells #[.int .u64 0, .int .u64 0, .int .u64 0, .int .u64 0, .int .u64 0, .int .u64 0, .int .u64 0] 68)).heap.size = w.heap.size + 1 := by simp
  obtain ⟨n0, n1, n2, n3, n4⟩ := (hc.nsAt.below hA1.bel hc.blt) _ _ hn
  rw [hop] at n0
  have c0 := hA1.c0
  have c1 := hA1.c1
  unfold Cx.v at c0
  have i0 : (0 : Int) ≤ (p.length : Int) := by omega
  have i1 : (p.length : Int) < (c.ns.length : Int) := by omega
  have s0 : (c.s.size : Int) ≤ 400 := by omega
  have hres : fs c.S (.leaf n) a = whenP true a := fs_empty n a (by rw [Cx.S_len]; exact ha) (by omega) (by omega) (by omega)
  clear hn hns hop n1 n2 n3 n4
  go_enter Tryd.func40, Tryd.ntmps40
  go_wp2_with fail
  refine (pwhen_any true a (by omega) _).mono ?_
  rintro e w1 ⟨rfl, hb⟩
  have hZ1 := hZ.below hb hZ.lt
  have hA2 := hA1.below hb
  have hG2 : w.grownBy w1 (some c.M) := hG1.trans (below_grown hb _)
  clear hZ n0 c0 c1
  obtain ⟨d0, d1, d2, d3, d4, d5, d6⟩ := hZ1.all
  obtain ⟨f0, f1, f2, f3, f4, f5, f6⟩ := hZ1.frz
  unfold plV
  go_wp2
  have hq := hZ1.put7 (whenP true a)
  obtain ⟨e0, e1, e2, e3, e4, e5, e6⟩ := hq.all
  refine bodyPost_ret (v := plV (whenP true a)) (by simp [results, Tryd.results40, go_sem, plV, e0, e1, e2, e3, e4, e5, e6]) rfl ⟨by rw [hres], hA2.turn (grown_put7 _ _ _) (fun r e => by cases e; exact ⟨hW, by omega, by omega⟩), grown_new hG2 (grown_put7 _ _ _) (Nat.le_refl _)⟩
end Go.Proofs.YtphcncgdodhlbaaDoor
namespace Go.Proofs.YtphcncgdodhlbaaDoor
set_option linter.unusedSimpArgs false
set_option linter.unusedVariables false
set_option maxRecDepth 100000
open Go.RowKit Go.Shelf
attribute [local go_sem] Oper.semAt_some

theorem grown_belowB {w X Y : World} {row : Option Nat} {B : Nat} (h : w.grownBy X row) (hb : Below B X Y) (hB : w.heap.size ≤ B) : w.grownBy Y row :=
  ⟨hb.os.trans h.os, hb.tape.trans h.tape, hb.output.trans h.output, Nat.le_trans h.size hb.size, fun k hk hne => (hb.block k (by omega)).trans (h.block k hk hne)⟩
theorem Cx.At.below' {c : Cx} {X Y : World} {B : Nat} (h : c.At X) (hb : Below B X Y) (h1 : c.rb < B) (h2 : c.M < B) (h3 : c.W0.heap.size ≤ B) : c.At Y where
  bel := h.bel.trans (hb.mono h3)
  rd := (hb.block c.rb h1).trans h.rd
  kn := by
    obtain ⟨D, ⟨es, clock, hbk, r⟩, hk⟩ := h.kn
    exact ⟨D, ⟨es, clock, (hb.block c.M h2).trans hbk, r⟩, hk⟩
theorem boxed_under {W W' : World} {B b : Nat} {t : TypeId} {v : Value} (h : Boxed W b t v) (hb : Below B W W') (hlt : b < B) : Boxed W' b t v := (hb.block b hlt).trans h
/-- What holds between two rounds. -/
structure BhI (c : Cx) (w : World) (i : Nat) (f : List Nat → Nat → Bool) (pre : List Nat) (W : World) : Prop where
  found : Hp W (w.heap.size + 1 + 1 + 1 + 1) (f pre)
  res : Hp W (w.heap.size + 1 + 1 + 1) noP
  bx : Boxed W w.heap.size 69 (.pointer (some ⟨c.rb, 0, none⟩))
  bi : Boxed W (w.heap.size + 1) 3 (.int .i64 (i : Int))
  at' : c.At W
  gr : w.grownBy W (some c.M)
theorem BhI.own (c : Cx) (w : World) (hA : c.At w) (i : Nat) (f : List Nat → Nat → Bool) (B : Nat) (hB : B = w.heap.size + 5) : OwnFrom B (BhI c w i f) := fun s X Y row hs hg hr => by
  have hlt := hs.found.lt
  have hb : Below B X Y := (Below.refl B X).grown hg (by omega) (fun k e => (hr k e).1)
  have h1 := hA.lt
  have h2 := hA.kn.lt
  have h3 := hA.bel.size
  exact ⟨hs.found.below hb (by omega), hs.res.below hb (by omega), boxed_under hs.bx hb (by omega), boxed_under hs.bi hb (by omega), hs.at'.below' hb (by omega) (by omega) (by omega), grown_belowB hs.gr hb (by omega)⟩
theorem BhI.next {c : Cx} {w : World} {i : Nat} {f : List Nat → Nat → Bool} {pre : List Nat} {W : World} (h : BhI c w i f pre W) (hA : c.At w) (w' w'' : World) (hA1 : c.At w') (hG1 : W.drew.grownBy w' (some c.M)) (hB2 : Below w'.heap.size w' w'') (q : Nat → Bool) (x : Nat) (hq : q = f (pre ++ [x])) (B : Nat) (hB : B = w.heap.size + 5) :
    KeepsFrom B W (put7 w'' (w.heap.size + 1 + 1 + 1 + 1) q) ∧ BhI c w i f (pre ++ [x]) (put7 w'' (w.heap.size + 1 + 1 + 1 + 1) q) := by
  have hlt := h.found.lt
  have h1 := hA.lt
  have h2 := hA.kn.lt
  have h3 := hA.bel.size
  have hs1 : W.heap.size ≤ w'.heap.size := hG1.size
  have hg1 : W.grownBy w' (some c.M) := ⟨hG1.os, hG1.tape, hG1.output, hG1.size, hG1.block⟩
  have hg2 : w'.grownBy w'' none := below_grown hB2 none
  have hg3 := grown_put7 w'' (w.heap.size + 1 + 1 + 1 + 1) q
  have hF2 : Hp w'' (w.heap.size + 1 + 1 + 1 + 1) (f pre) := (h.found.grown hg1 (by intro e; injection e; omega)).below hB2 (by omega)
  refine ⟨((KeepsFrom.of_grownBy hg1 (fun j e => by cases e; omega)).trans (KeepsFrom.of_grownBy hg2 (fun j e => by cases e))).trans (KeepsFrom.of_grownBy hg3 (fun j e => by cases e; omega)), ?_⟩
  subst hq
  refine ⟨hF2.put7 _, ((h.res.grown hg1 (by intro e; injection e; omega)).below hB2 (by omega)).other7 _ (by omega), ?_, ?_, ?_, ?_⟩
  · exact ((boxed_under (h.bx.kept hg1 (by intro e; injection e; omega)) hB2 (by omega))).kept hg3 (by intro e; injection e; omega)
  · exact ((boxed_under (h.bi.kept hg1 (by intro e; injection e; omega)) hB2 (by omega))).kept hg3 (by intro e; injection e; omega)
  · exact (hA1.below hB2).turn hg3 (fun r e => by cases e; exact ⟨by omega, by omega, by omega⟩)
  · exact grown_new (grown_belowB (h.gr.trans hg1) hB2 (by omega)) hg3 (by omega)
set_option maxHeartbeats 4000000 in
theorem behind_in (c : Cx) (hc : c.Good) (t : Rx) (i : Nat) (p : Nat → Bool) (hE : ∀ k, k < 448 → p k = true → EndsOk c t i k) (w : World) (hA : c.At w) :
    CallsIn Fence.wide 3 Tryd.prog 63 #[.pointer (some ⟨c.rb, 0, none⟩), .int .i64 (i : Int), plV p] w fun e w' => e = .returned (plV (ov (Fit c.S t) (el p 448))) ∧ c.At w' ∧ w.grownBy w' (some c.M) := by
  have hA1 := hA.lt
  have hA2 := hA.kn.lt
  have hA3 := hA.bel.size
  replace hE := hid hE
  obtain ⟨w5, hw5⟩ : ∃ w5, w5 = ((((w.alloc (.cells #[.pointer (some ⟨c.rb, 0, none⟩)] 69)).alloc (.cells #[.int .i64 (i : Int)] 3)).alloc (.cells #[.int .u64 (wd p 0), .int .u64 (wd p 1), .int .u64 (wd p 2), .int .u64 (wd p 3), .int .u64 (wd p 4), .int .u64 (wd p 5), .int .u64 (wd p 6)] 68)).alloc (.cells #[.int .u64 0, .int .u64 0, .int .u64 0, .int .u64 0, .int .u64 0, .int .u64 0, .int .u64 0] 68)).alloc (.cells #[.int .u64 0, .int .u64 0, .int .u64 0, .int .u64 0, .int .u64 0, .int .u64 0, .int .u64 0] 68) := ⟨_, rfl⟩
  have hsz : w5.heap.size = w.heap.size + 5 := by rw [hw5]; simp
  have hI0 : BhI c w i (fun l => ov (Fit c.S t) l) [] w5 := by
    rw [hw5]
    exact ⟨by simp only [ov_nil]; exact Hp.zero _ _ (by simp), (Hp.zero _ _ (by simp)).alloc _, ((((Boxed.new w _ _).alloc _).alloc _).alloc _).alloc _, by
      have := Boxed.new (w.alloc (.cells #[.pointer (some ⟨c.rb, 0, none⟩)] 69)) 3 (.int .i64 (i : Int))
      rw [World.size_alloc] at this
      exact ((this.alloc _).alloc _).alloc _, ((((hA.alloc _).alloc _).alloc _).alloc _).alloc _, ((((World.grownBy_alloc _ _ _).trans (World.grownBy_alloc _ _ _)).trans (World.grownBy_alloc _ _ _)).trans (World.grownBy_alloc _ _ _)).trans (World.grownBy_alloc _ _ _)⟩
  refine callsIn_of_wp_marks Tryd.func63 rfl trivial ?_ rfl
  unfold plV
  simp only [Tryd.ntmps63, List.size_toArray, List.length_cons, List.length_nil, Nat.reduceAdd, Nat.reduceSub, Array.replicate_succ, Array.replicate_zero, List.push_toArray, List.append_toArray, List.nil_append, List.cons_append]
  gi_wp2
  rw [← hw5]
  refine wpIn_runs rfl (by omega) 28 #[plV p] rfl trivial enters_rising (fun x : Nat => Value.int .i64 (x : Int)) Tab (el p 448) (rises 2 (by omega) p) rfl
    (BhI c w i (fun l => ov (Fit c.S t) l)) (BhI.own c w hA i _ _ hsz) (fun pre W h => hc.tab.below h.at'.bel (Nat.le_refl _)) hI0
    (fun x => { tmps := #[.pointer (some ⟨c.rb, 0, none⟩), .int .i64 (i : Int), .agg #[.int .u64 (wd p 0), .int .u64 (wd p 1), .int .u64 (wd p 2), .int .u64 (wd p 3), .int .u64 (wd p 4), .int .u64 (wd p 5), .int .u64 (wd p 6)], .pointer (some ⟨w.heap.size, 0, none⟩), .pointer (some ⟨w.heap.size + 1, 0, none⟩), .pointer (some ⟨w.heap.size + 1 + 1, 0, none⟩), .pointer (some ⟨w.heap.size + 1 + 1 + 1, 0, none⟩), .pointer (some ⟨w.heap.size + 1 + 1 + 1 + 1, 0, none⟩), .int .i64 (x : Int), .agg #[.int .u64 (wd p 0), .int .u64 (wd p 1), .int .u64 (wd p 2), .int .u64 (wd p 3), .int .u64 (wd p 4), .int .u64 (wd p 5), .int .u64 (wd p 6)], .func (.func 28) #[.agg #[.int .u64 (wd p 0), .int .u64 (wd p 1), .int .u64 (wd p 2), .int .u64 (wd p 3), .int .u64 (wd p 4), .int .u64 (wd p 5), .int .u64 (wd p 6)]] #[], .int .i64 (x : Int), undef, undef, undef, undef, undef, undef, undef], defers := [] }) ?assign ?body ?done
  case assign =>
    intro l x W K hK
    gi_wp2
    exact hK
  case body =>
    rintro l pre x rest W hx ⟨hF, hR, hX, hN, hAt, hG⟩
    have hpx : x < 448 ∧ p x = true := (el_mem p 448 x).1 (by rw [hx]; simp)
    obtain ⟨c0, c1, c2, c3, c4, c5, c6⟩ := hF.all
    have x0 := hX.cell
    have n0 := hN.cell
    have hmx : Tryd.prog.follows .mixedOrders = true := by kernel_rfl
    gi_wp2
    gi_region_with_o (first
      | (refine ⟨trivial, ?_⟩; gi_at_call 27; refine (CallsIn.inRound l (callsIn_wide.2 (hE.out x hpx.1 hpx.2 _ hAt.drew))).mono ?_; rintro e w' ⟨rfl, hAt1, hG1⟩; have hF1 := hF.drew.grown hG1 (by simp; omega); obtain ⟨e0, e1, e2, e3, e4, e5, e6⟩ := hF1.all; unfold plV)
      | (refine ⟨trivial, ?_⟩; gi_at_call 65; refine (CallsIn.inRound l (callsIn_wide.2 (pjoined_any _ _ _))).mono ?_; rintro e w'' ⟨rfl, hB2⟩; have hF2 := hF1.below hB2 hF1.lt; obtain ⟨g0, g1, g2, g3, g4, g5, g6⟩ := hF2.all; obtain ⟨z0, z1, z2, z3, z4, z5, z6⟩ := hF2.frz; unfold plV))
    all_goals gi_wp2
    all_goals exact BhI.next ⟨hF, hR, hX, hN, hAt, hG⟩ hA w' w'' hAt1 hG1 hB2 _ x (ov_snoc _ _ _) _ hsz
  case done =>
    rintro D W hD ⟨hF, hR, hX, hN, hAt, hG⟩ hK
    rw [hsz] at hD
    obtain ⟨c0, c1, c2, c3, c4, c5, c6⟩ := hF.all
    obtain ⟨d0, d1, d2, d3, d4, d5, d6⟩ := hR.all
    obtain ⟨f0, f1, f2, f3, f4, f5, f6⟩ := hR.frz
    gi_wp2
    have hDlt : D < W.heap.size := (Array.getElem?_eq_some_iff.1 hK).1
    have hK2 : (put7 W (w.heap.size + 1 + 1 + 1) (ov (Fit c.S t) (el p 448))).heap[D]? = some (.deferred (some [])) := ((grown_put7 W (w.heap.size + 1 + 1 + 1) (ov (Fit c.S t) (el p 448))).block D hDlt (fun e => by cases e; omega)).trans hK
    refine ⟨by simp, .inl ⟨_, _, rfl, run_takeDeferred hK2, ?_⟩⟩
    have hq : Hp ((put7 W (w.heap.size + 1 + 1 + 1) (ov (Fit c.S t) (el p 448))).putObj D (.deferred none)) (w.heap.size + 1 + 1 + 1) (ov (Fit c.S t) (el p 448)) := (World.putObj_heap_other (by omega)).trans (hR.put7 _)
    have hg1 := (grown_put7 W (w.heap.size + 1 + 1 + 1) (ov (Fit c.S t) (el p 448)))
    have hg2 := grownBy_putObj' (put7 W (w.heap.size + 1 + 1 + 1) (ov (Fit c.S t) (el p 448))) D (.deferred none)
    have hAe := (hAt.turn hg1 (fun r e => by cases e; exact ⟨by omega, by omega, by omega⟩)).turn hg2 (fun r e => by cases e; exact ⟨by omega, by omega, by omega⟩)
    have hGe := grown_new (grown_new hG hg1 (by omega)) hg2 (by omega)
    generalize (put7 W (w.heap.size + 1 + 1 + 1) (ov (Fit c.S t) (el p 448))).putObj D (.deferred none) = We at *
    obtain ⟨e0, e1, e2, e3, e4, e5, e6⟩ := hq.all
    exact ⟨plV (ov (Fit c.S t) (el p 448)), by simp [results, Tryd.results63, go_sem, plV, e0, e1, e2, e3, e4, e5, e6], rfl, hAe, hGe⟩
end Go.Proofs.YtphcncgdodhlbaaDoor
namespace Go.Proofs.YtphcncgdodhlbaaDoor
set_option linter.unusedSimpArgs false
set_option linter.unusedVariables false
set_option maxRecDepth 100000
open Go.RowKit Go.Shelf
attribute [local go_sem] Oper.semAt_some

/-- What holds between two rounds. -/
structure AgI (c : Cx) (w : World) (i a0 : Nat) (p : Nat → Bool) (f : List Nat → Nat → Bool) (pre : List Nat) (W : World) : Prop where
  more : Hp W (w.heap.size + 1 + 1 + 1 + 1 + 1) (f pre)
  res : Hp W (w.heap.size + 1 + 1 + 1 + 1) noP
  once : Hp W (w.heap.size + 1 + 1) p
  bx : Boxed W w.heap.size 69 (.pointer (some ⟨c.rb, 0, none⟩))
  bi : Boxed W (w.heap.size + 1) 3 (.int .i64 (i : Int))
  bf : Boxed W (w.heap.size + 1 + 1 + 1) 3 (.int .i64 (a0 : Int))
  at' : c.At W
  gr : w.grownBy W (some c.M)
theorem AgI.own (c : Cx) (w : World) (hA : c.At w) (i a0 : Nat) (p : Nat → Bool) (f : List Nat → Nat → Bool) (B : Nat) (hB : B = w.heap.size + 6) : OwnFrom B (AgI c w i a0 p f) := fun s X Y row hs hg hr => by
  have hlt := hs.more.lt
  have hb : Below B X Y := (Below.refl B X).grown hg (by omega) (fun k e => (hr k e).1)
  have h1 := hA.lt
  have h2 := hA.kn.lt
  have h3 := hA.bel.size
  exact ⟨hs.more.below hb (by omega), hs.res.below hb (by omega), hs.once.below hb (by omega), boxed_under hs.bx hb (by omega), boxed_under hs.bi hb (by omega), boxed_under hs.bf hb (by omega), hs.at'.below' hb (by omega) (by omega) (by omega), grown_belowB hs.gr hb (by omega)⟩
theorem AgI.next {c : Cx} {w : World} {i a0 : Nat} {p : Nat → Bool} {f : List Nat → Nat → Bool} {pre : List Nat} {W W0 : World} (h : AgI c w i a0 p f pre W) (hA : c.At w) (hb0 : Below W.heap.size W W0) (w' w'' : World) (hA1 : c.At w') (hG1 : W0.drew.grownBy w' (some c.M)) (hB2 : Below w'.heap.size w' w'') (q : Nat → Bool) (x : Nat) (hq : q = f (pre ++ [x])) (B : Nat) (hB : B = w.heap.size + 6) :
    KeepsFrom B W (put7 w'' (w.heap.size + 1 + 1 + 1 + 1 + 1) q) ∧ AgI c w i a0 p f (pre ++ [x]) (put7 w'' (w.heap.size + 1 + 1 + 1 + 1 + 1) q) := by
  have hlt := h.more.lt
  have h1 := hA.lt
  have h2 := hA.kn.lt
  have h3 := hA.bel.size
  have hs0 := hb0.size
  have hs1 : W0.heap.size ≤ w'.heap.size := hG1.size
  have hg1 : W.grownBy w' (some c.M) := (below_grown hb0 _).trans ⟨hG1.os, hG1.tape, hG1.output, hG1.size, hG1.block⟩
  have hg2 : w'.grownBy w'' none := below_grown hB2 none
  have hg3 := grown_put7 w'' (w.heap.size + 1 + 1 + 1 + 1 + 1) q
  have hF2 : Hp w'' (w.heap.size + 1 + 1 + 1 + 1 + 1) (f pre) := (h.more.grown hg1 (by intro e; injection e; omega)).below hB2 (by omega)
  refine ⟨((KeepsFrom.of_grownBy hg1 (fun j e => by cases e; omega)).trans (KeepsFrom.of_grownBy hg2 (fun j e => by cases e))).trans (KeepsFrom.of_grownBy hg3 (fun j e => by cases e; omega)), ?_⟩
  subst hq
  refine ⟨hF2.put7 _, ((h.res.grown hg1 (by intro e; injection e; omega)).below hB2 (by omega)).other7 _ (by omega), ((h.once.grown hg1 (by intro e; injection e; omega)).below hB2 (by omega)).other7 _ (by omega), ?_, ?_, ?_, ?_, ?_⟩
  · exact ((boxed_under (h.bx.kept hg1 (by intro e; injection e; omega)) hB2 (by omega))).kept hg3 (by intro e; injection e; omega)
  · exact ((boxed_under (h.bi.kept hg1 (by intro e; injection e; omega)) hB2 (by omega))).kept hg3 (by intro e; injection e; omega)
  · exact ((boxed_under (h.bf.kept hg1 (by intro e; injection e; omega)) hB2 (by omega))).kept hg3 (by intro e; injection e; omega)
  · exact (hA1.below hB2).turn hg3 (fun r e => by cases e; exact ⟨by omega, by omega, by omega⟩)
  · exact grown_new (grown_belowB (h.gr.trans hg1) hB2 (by omega)) hg3 (by omega)
/-- A round that leaves all as it is, but for new memory. -/
theorem AgI.same {c : Cx} {w : World} {i a0 : Nat} {p : Nat → Bool} {f : List Nat → Nat → Bool} {pre : List Nat} {W W0 : World} (h : AgI c w i a0 p f pre W) (hA : c.At w) (hb0 : Below W.heap.size W W0) (x : Nat) (hq : f (pre ++ [x]) = f pre) (B : Nat) :
    KeepsFrom B W W0 ∧ AgI c w i a0 p f (pre ++ [x]) W0 := by
  have hlt := h.more.lt
  refine ⟨KeepsFrom.of_grownBy (below_grown hb0 none) (fun j e => by cases e), ?_⟩
  exact ⟨by rw [hq]; exact h.more.below hb0 (by omega), h.res.below hb0 (by omega), h.once.below hb0 (by omega), boxed_under h.bx hb0 (by omega), boxed_under h.bi hb0 (by omega), boxed_under h.bf hb0 (by omega), h.at'.below hb0, grown_belowB h.gr hb0 h.gr.size⟩
set_option maxHeartbeats 8000000 in
theorem again_in (c : Cx) (hc : c.Good) (n : Nd) (a : Rx) (hop : n.op = 5 ∨ n.op = 6) (i a0 : Nat) (ha0 : a0 < 448) (p : Nat → Bool) (hE : ∀ k, a0 < k → k < 448 → p k = true → EndsOk c (.one n a) i k) (w : World) (hA : c.At w) :
    CallsIn Fence.wide 3 Tryd.prog 67 #[(.pointer (some ⟨c.rb, 0, none⟩)), .int .i64 (i : Int), plV p, .int .i64 (a0 : Int)] w fun e w' => e = .returned (plV (joinP (ov (Go.Proofs.YtphcncgdodhlbaaDoor.hop c.S (.one n a) a0) (el p 448)) p)) ∧ c.At w' ∧ w.grownBy w' (some c.M) := by
  have hA1 := hA.lt
  have hA2 := hA.kn.lt
  have hA3 := hA.bel.size
  replace hE := hid hE
  have K2 := hid (fun l x => hop_known (s := c.S) n a hop a0 l x)
  have K1 := hid (fun l x => hop_back (s := c.S) (.one n a) a0 l x)
  have K3 := hid (fun l x => hop_on (s := c.S) (.one n a) a0 l x)
  clear hop
  generalize Rx.one n a = t at *
  obtain ⟨w5, hw5⟩ : ∃ w5, w5 = (((((w.alloc (.cells #[(.pointer (some ⟨c.rb, 0, none⟩))] 69)).alloc (.cells #[.int .i64 (i : Int)] 3)).alloc (.cells #[.int .u64 (wd p 0), .int .u64 (wd p 1), .int .u64 (wd p 2), .int .u64 (wd p 3), .int .u64 (wd p 4), .int .u64 (wd p 5), .int .u64 (wd p 6)] 68)).alloc (.cells #[.int .i64 (a0 : Int)] 3)).alloc (.cells #[.int .u64 0, .int .u64 0, .int .u64 0, .int .u64 0, .int .u64 0, .int .u64 0, .int .u64 0] 68)).alloc (.cells #[.int .u64 0, .int .u64 0, .int .u64 0, .int .u64 0, .int .u64 0, .int .u64 0, .int .u64 0] 68) := ⟨_, rfl⟩
  have hsz : w5.heap.size = w.heap.size + 6 := by rw [hw5]; simp
  have hI0 : AgI c w i a0 p (fun l => ov (hop c.S t a0) l) [] w5 := by
    rw [hw5]
    refine ⟨by simp only [ov_nil]; exact Hp.zero _ _ (by simp), (Hp.zero _ _ (by simp)).alloc _, (((Hp.new _ p _ (by simp)).alloc _).alloc _).alloc _, (((((Boxed.new w _ _).alloc _).alloc _).alloc _).alloc _).alloc _, ?_, ?_, (((((hA.alloc _).alloc _).alloc _).alloc _).alloc _).alloc _, (((((World.grownBy_alloc _ _ _).trans (World.grownBy_alloc _ _ _)).trans (World.grownBy_alloc _ _ _)).trans (World.grownBy_alloc _ _ _)).trans (World.grownBy_alloc _ _ _)).trans (World.grownBy_alloc _ _ _)⟩
    · have := Boxed.new (w.alloc (.cells #[(.pointer (some ⟨c.rb, 0, none⟩))] 69)) 3 (.int .i64 (i : Int))
      rw [World.size_alloc] at this
      exact (((this.alloc _).alloc _).alloc _).alloc _
    · have := Boxed.new (((w.alloc (.cells #[(.pointer (some ⟨c.rb, 0, none⟩))] 69)).alloc (.cells #[.int .i64 (i : Int)] 3)).alloc (.cells #[.int .u64 (wd p 0), .int .u64 (wd p 1), .int .u64 (wd p 2), .int .u64 (wd p 3), .int .u64 (wd p 4), .int .u64 (wd p 5), .int .u64 (wd p 6)] 68)) 3 (.int .i64 (a0 : Int))
      rw [World.size_alloc, World.size_alloc, World.size_alloc] at this
      exact (this.alloc _).alloc _
  refine callsIn_of_wp_marks Tryd.func67 rfl trivial ?_ rfl
  unfold plV
  simp only [Tryd.ntmps67, List.size_toArray, List.length_cons, List.length_nil, Nat.reduceAdd, Nat.reduceSub, Array.replicate_succ, Array.replicate_zero, List.push_toArray, List.append_toArray, List.nil_append, List.cons_append]
  gi_wp2
  rw [← hw5]
  clear hw5
  refine wpIn_runs rfl (by omega) 28 #[plV p] rfl trivial enters_rising (fun x : Nat => Value.int .i64 (x : Int)) Tab (el p 448) (rises 2 (by omega) p) rfl
    (AgI c w i a0 p (fun l => ov (hop c.S t a0) l)) (AgI.own c w hA i a0 p _ _ hsz) (fun pre W h => hc.tab.below h.at'.bel (Nat.le_refl _)) hI0
    (fun x => { tmps := #[(.pointer (some ⟨c.rb, 0, none⟩)), .int .i64 (i : Int), .agg #[.int .u64 (wd p 0), .int .u64 (wd p 1), .int .u64 (wd p 2), .int .u64 (wd p 3), .int .u64 (wd p 4), .int .u64 (wd p 5), .int .u64 (wd p 6)], .int .i64 (a0 : Int), .pointer (some ⟨w.heap.size, 0, none⟩), .pointer (some ⟨w.heap.size + 1, 0, none⟩), .pointer (some ⟨w.heap.size + 1 + 1, 0, none⟩), .pointer (some ⟨w.heap.size + 1 + 1 + 1, 0, none⟩), .pointer (some ⟨w.heap.size + 1 + 1 + 1 + 1, 0, none⟩), .pointer (some ⟨w.heap.size + 1 + 1 + 1 + 1 + 1, 0, none⟩), .int .i64 (x : Int), .agg #[.int .u64 (wd p 0), .int .u64 (wd p 1), .int .u64 (wd p 2), .int .u64 (wd p 3), .int .u64 (wd p 4), .int .u64 (wd p 5), .int .u64 (wd p 6)], .func (.func 28) #[.agg #[.int .u64 (wd p 0), .int .u64 (wd p 1), .int .u64 (wd p 2), .int .u64 (wd p 3), .int .u64 (wd p 4), .int .u64 (wd p 5), .int .u64 (wd p 6)]] #[], .int .i64 (x : Int), undef, undef, undef, undef, undef, undef, undef, undef, undef, undef, undef, undef, undef, undef, undef, undef, undef, undef], defers := [] }) ?assign ?body ?done
  case assign =>
    intro l x W K hK
    gi_wp2
    exact hK
  case body =>
    rintro l pre x rest W hx hI
    obtain ⟨hF, hR, hO, hX, hN, hFr, hAt, hG⟩ := hI
    have hpx : x < 448 ∧ p x = true := (el_mem p 448 x).1 (by rw [hx]; simp)
    obtain ⟨c0, c1, c2, c3, c4, c5, c6⟩ := hF.all
    have x0 := hX.cell
    have n0 := hN.cell
    have f0 := hFr.cell
    have hmx : Tryd.prog.follows .mixedOrders = true := by kernel_rfl
    by_cases hax : a0 < x
    · have q1 : (a0 : Int) < (x : Int) := by omega
      have hB0 : Below W.heap.size W W := Below.refl _ _
      cases hpr : ov (hop c.S t a0) pre x with
      | true =>
        gi_wp2_with (refine ⟨trivial, ?_⟩; gi_at_call 81; refine (CallsIn.inRound l (callsIn_wide.2 (phas_any _ x hpx.1 _))).mono ?_; rintro e w' ⟨rfl, hB1⟩; rw [hpr])
        exact AgI.same ⟨hF, hR, hO, hX, hN, hFr, hAt, hG⟩ hA hB1 x (K2.out _ _ hpr) _
      | false =>
        gi_wp2_with (refine ⟨trivial, ?_⟩; gi_at_call 81; refine (CallsIn.inRound l (callsIn_wide.2 (phas_any _ x hpx.1 _))).mono ?_; rintro e w1 ⟨rfl, hB1⟩; rw [hpr])
        have hF1 := hF.below hB1 hF.lt
        have hX1 := boxed_under hX hB1 hX.lt
        have hN1 := boxed_under hN hB1 hN.lt
        have hAt1 := hAt.below hB1
        clear c0 c1 c2 c3 c4 c5 c6 x0 n0 f0 q1
        obtain ⟨c0, c1, c2, c3, c4, c5, c6⟩ := hF1.all
        have x0 := hX1.cell
        have n0 := hN1.cell
        gi_region_with_o (first
          | (refine ⟨trivial, ?_⟩; gi_at_call 27; refine (CallsIn.inRound l (callsIn_wide.2 (hE.out x hax hpx.1 hpx.2 _ hAt1.drew))).mono ?_; rintro e w' ⟨rfl, hAt2, hG2⟩; have hF2 := hF1.drew.grown hG2 (by intro e; injection e; omega); obtain ⟨e0, e1, e2, e3, e4, e5, e6⟩ := hF2.all; unfold plV)
          | (refine ⟨trivial, ?_⟩; gi_at_call 65; refine (CallsIn.inRound l (callsIn_wide.2 (pjoined_any _ _ _))).mono ?_; rintro e w'' ⟨rfl, hB2⟩; have hF3 := hF2.below hB2 hF2.lt; obtain ⟨g0, g1, g2, g3, g4, g5, g6⟩ := hF3.all; obtain ⟨z0, z1, z2, z3, z4, z5, z6⟩ := hF3.frz; unfold plV))
        all_goals gi_wp2
        all_goals exact AgI.next ⟨hF, hR, hO, hX, hN, hFr, hAt, hG⟩ hA hB1 w' w'' hAt2 hG2 hB2 _ x (K3.out _ _ hax) _ hsz
    · have q1 : (x : Int) ≤ (a0 : Int) := by omega
      gi_wp2
      refine ⟨trivial, ?_⟩
      gi_wp2
      exact AgI.same ⟨hF, hR, hO, hX, hN, hFr, hAt, hG⟩ hA (Below.refl _ _) x (K1.out _ _ hax) _
  case done =>
    rintro D W hD ⟨hF, hR, hO, hX, hN, hFr, hAt, hG⟩ hK
    rw [hsz] at hD
    obtain ⟨c0, c1, c2, c3, c4, c5, c6⟩ := hF.all
    obtain ⟨o0, o1, o2, o3, o4, o5, o6⟩ := hO.all
    gi_wp2_with (refine ⟨trivial, ?_⟩; gi_at_call 65; refine (callsIn_wide.2 (pjoined_any _ _ _)).mono ?_; rintro e w1 ⟨rfl, hB1⟩; have hR1 := hR.below hB1 hR.lt; obtain ⟨d0, d1, d2, d3, d4, d5, d6⟩ := hR1.all; obtain ⟨f0, f1, f2, f3, f4, f5, f6⟩ := hR1.frz; unfold plV)
    have hs1 := hB1.size
    have hDlt : D < W.heap.size := (Array.getElem?_eq_some_iff.1 hK).1
    have hK1 : w1.heap[D]? = some (.deferred (some [])) := (hB1.block D hDlt).trans hK
    have hK2 : (put7 w1 (w.heap.size + 1 + 1 + 1 + 1) (joinP (ov (hop c.S t a0) (el p 448)) p)).heap[D]? = some (.deferred (some [])) := ((grown_put7 w1 (w.heap.size + 1 + 1 + 1 + 1) (joinP (ov (hop c.S t a0) (el p 448)) p)).block D (by omega) (fun e => by cases e; omega)).trans hK1
    refine ⟨by simp, .inl ⟨_, _, rfl, run_takeDeferred hK2, ?_⟩⟩
    have hq : Hp ((put7 w1 (w.heap.size + 1 + 1 + 1 + 1) (joinP (ov (hop c.S t a0) (el p 448)) p)).putObj D (.deferred none)) (w.heap.size + 1 + 1 + 1 + 1) (joinP (ov (hop c.S t a0) (el p 448)) p) := (World.putObj_heap_other (by omega)).trans (hR1.put7 _)
    have hg1 := (grown_put7 w1 (w.heap.size + 1 + 1 + 1 + 1) (joinP (ov (hop c.S t a0) (el p 448)) p))
    have hg2 := grownBy_putObj' (put7 w1 (w.heap.size + 1 + 1 + 1 + 1) (joinP (ov (hop c.S t a0) (el p 448)) p)) D (.deferred none)
    have hAe := ((hAt.below hB1).turn hg1 (fun r e => by cases e; exact ⟨by omega, by omega, by omega⟩)).turn hg2 (fun r e => by cases e; exact ⟨by omega, by omega, by omega⟩)
    have hGe := grown_new (grown_new (hG.trans (below_grown hB1 _)) hg1 (by omega)) hg2 (by omega)
    generalize (put7 w1 (w.heap.size + 1 + 1 + 1 + 1) (joinP (ov (hop c.S t a0) (el p 448)) p)).putObj D (.deferred none) = We at *
    obtain ⟨e0, e1, e2, e3, e4, e5, e6⟩ := hq.all
    exact ⟨plV (joinP (ov (hop c.S t a0) (el p 448)) p), by simp [results, Tryd.results67, go_sem, plV, e0, e1, e2, e3, e4, e5, e6], rfl, hAe, hGe⟩
end Go.Proofs.YtphcncgdodhlbaaDoor
