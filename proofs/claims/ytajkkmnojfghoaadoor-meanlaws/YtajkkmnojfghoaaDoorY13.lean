/- Package mean: again. Package mean: look, at nodes with parts. (Made by wip/tools/genlk.py.) Sets of places in memory: rows of bools. What the document's own functions answer: joined. -/
import Derived.Test.YtajkkmnojfghoaaDoorY12
import Derived.Test.YtajkkmnojfghoaaDoorY02
import Derived.OwnWalk
import Derived.KernelRfl
namespace Go.Proofs.YtajkkmnojfghoaaDoor
set_option linter.unusedSimpArgs false
set_option linter.unusedVariables false
set_option maxRecDepth 100000
open Go.RowKit Go.Shelf
attribute [local go_sem] Oper.semAt_some

/-- What holds between two rounds. -/
structure AgI (c : Cx) (w : World) (i a0 : Nat) (p : Nat → Bool) (f : List Nat → Nat → Bool) (pre : List Nat) (W : World) : Prop where
  more : Hp W (w.heap.size + 1 + 1 + 1 + 1 + 1) (f pre)
  res : Hp W (w.heap.size + 1 + 1 + 1 + 1) noP
  once : Hp W (w.heap.size + 1 + 1) p
  bx : Boxed W w.heap.size 103 (.pointer (some ⟨c.rb, 0, none⟩))
  bi : Boxed W (w.heap.size + 1) 3 (.int .i64 (i : Int))
  bf : Boxed W (w.heap.size + 1 + 1 + 1) 3 (.int .i64 (a0 : Int))
  at' : c.At W
  gr : w.grownBy W (some c.M)
theorem AgI.own (c : Cx) (w : World) (hA : c.At w) (i a0 : Nat) (p : Nat → Bool) (f : List Nat → Nat → Bool) (B : Nat) (hB : B = w.heap.size + 6) : OwnFrom B (AgI c w i a0 p f) := fun s X Y row hs hg hr => by
  have hlt := hs.more.lt
  have hb : Below B X Y := (Below.refl B X).grown hg (by omega) (fun k e => (hr k e).1)
  have h1 := hA.lt
  have h2 := hA.kn.lt
  have h3 := hA.bel.size
  exact ⟨hs.more.below hb (by omega), hs.res.below hb (by omega), hs.once.below hb (by omega), boxed_under hs.bx hb (by omega), boxed_under hs.bi hb (by omega), boxed_under hs.bf hb (by omega), hs.at'.below' hb (by omega) (by omega) (by omega), grown_below hs.gr hb (by omega)⟩
theorem AgI.next {c : Cx} {w : World} {i a0 : Nat} {p : Nat → Bool} {f : List Nat → Nat → Bool} {pre : List Nat} {W W0 : World} (h : AgI c w i a0 p f pre W) (hA : c.At w) (hb0 : Below W.heap.size W W0) (w' w'' : World) (hA1 : c.At w') (hG1 : W0.drew.grownBy w' (some c.M)) (hB2 : Below w'.heap.size w' w'') (q : Nat → Bool) (x : Nat) (hq : q = f (pre ++ [x])) (B : Nat) (hB : B = w.heap.size + 6) :
    KeepsFrom B W (put7 w'' (w.heap.size + 1 + 1 + 1 + 1 + 1) q) ∧ AgI c w i a0 p f (pre ++ [x]) (put7 w'' (w.heap.size + 1 + 1 + 1 + 1 + 1) q) := by
  have hlt := h.more.lt
  have h1 := hA.lt
  have h2 := hA.kn.lt
  have h3 := hA.bel.size
  have hs0 := hb0.size
  have hs1 : W0.heap.size ≤ w'.heap.size := hG1.size
  have hg1 : W.grownBy w' (some c.M) := (below_grown hb0 _).trans ⟨hG1.os, hG1.tape, hG1.output, hG1.size, hG1.block⟩
  have hg2 : w'.grownBy w'' none := below_grown hB2 none
  have hg3 := grown_put7 w'' (w.heap.size + 1 + 1 + 1 + 1 + 1) q
  have hF2 : Hp w'' (w.heap.size + 1 + 1 + 1 + 1 + 1) (f pre) := (h.more.grown hg1 (by intro e; injection e; omega)).below hB2 (by omega)
  refine ⟨((KeepsFrom.of_grownBy hg1 (fun j e => by cases e; omega)).trans (KeepsFrom.of_grownBy hg2 (fun j e => by cases e))).trans (KeepsFrom.of_grownBy hg3 (fun j e => by cases e; omega)), ?_⟩
  subst hq
  refine ⟨hF2.put7 _, ((h.res.grown hg1 (by intro e; injection e; omega)).below hB2 (by omega)).other7 _ (by omega), ((h.once.grown hg1 (by intro e; injection e; omega)).below hB2 (by omega)).other7 _ (by omega), ?_, ?_, ?_, ?_, ?_⟩
  · exact ((boxed_under (h.bx.kept hg1 (by intro e; injection e; omega)) hB2 (by omega))).kept hg3 (by intro e; injection e; omega)
  · exact ((boxed_under (h.bi.kept hg1 (by intro e; injection e; omega)) hB2 (by omega))).kept hg3 (by intro e; injection e; omega)
  · exact ((boxed_under (h.bf.kept hg1 (by intro e; injection e; omega)) hB2 (by omega))).kept hg3 (by intro e; injection e; omega)
  · exact (hA1.below hB2).turn hg3 (fun r e => by cases e; exact ⟨by omega, by omega, by omega⟩)
  · exact grown_new (grown_below (h.gr.trans hg1) hB2 (by omega)) hg3 (by omega)
/-- A round that leaves all as it is, but for new memory. -/
theorem AgI.same {c : Cx} {w : World} {i a0 : Nat} {p : Nat → Bool} {f : List Nat → Nat → Bool} {pre : List Nat} {W W0 : World} (h : AgI c w i a0 p f pre W) (hA : c.At w) (hb0 : Below W.heap.size W W0) (x : Nat) (hq : f (pre ++ [x]) = f pre) (B : Nat) :
    KeepsFrom B W W0 ∧ AgI c w i a0 p f (pre ++ [x]) W0 := by
  have hlt := h.more.lt
  refine ⟨KeepsFrom.of_grownBy (below_grown hb0 none) (fun j e => by cases e), ?_⟩
  exact ⟨by rw [hq]; exact h.more.below hb0 (by omega), h.res.below hb0 (by omega), h.once.below hb0 (by omega), boxed_under h.bx hb0 (by omega), boxed_under h.bi hb0 (by omega), boxed_under h.bf hb0 (by omega), h.at'.below hb0, grown_below h.gr hb0 h.gr.size⟩
set_option maxHeartbeats 8000000 in
theorem again_in (c : Cx) (hc : c.Good) (n : Nd) (a : Rx) (hop : n.op = 5 ∨ n.op = 6) (i a0 : Nat) (ha0 : a0 < 448) (p : Nat → Bool) (hE : ∀ k, a0 < k → k < 448 → p k = true → EndsOk c (.one n a) i k) (w : World) (hA : c.At w) :
    CallsIn Fence.wide 3 Tryd.prog 103 #[(.pointer (some ⟨c.rb, 0, none⟩)), .int .i64 (i : Int), plV p, .int .i64 (a0 : Int)] w fun e w' => e = .returned (plV (joinP (ov (Go.Proofs.YtajkkmnojfghoaaDoor.hop c.S (.one n a) a0) (el p 448)) p)) ∧ c.At w' ∧ w.grownBy w' (some c.M) := by
  have hA1 := hA.lt
  have hA2 := hA.kn.lt
  have hA3 := hA.bel.size
  replace hE := hid hE
  have K2 := hid (fun l x => hop_known (s := c.S) n a hop a0 l x)
  have K1 := hid (fun l x => hop_back (s := c.S) (.one n a) a0 l x)
  have K3 := hid (fun l x => hop_on (s := c.S) (.one n a) a0 l x)
  clear hop
  generalize Rx.one n a = t at *
  obtain ⟨w5, hw5⟩ : ∃ w5, w5 = (((((w.alloc (.cells #[(.pointer (some ⟨c.rb, 0, none⟩))] 103)).alloc (.cells #[.int .i64 (i : Int)] 3)).alloc (.cells #[.int .u64 (wd p 0), .int .u64 (wd p 1), .int .u64 (wd p 2), .int .u64 (wd p 3), .int .u64 (wd p 4), .int .u64 (wd p 5), .int .u64 (wd p 6)] 102)).alloc (.cells #[.int .i64 (a0 : Int)] 3)).alloc (.cells #[.int .u64 0, .int .u64 0, .int .u64 0, .int .u64 0, .int .u64 0, .int .u64 0, .int .u64 0] 102)).alloc (.cells #[.int .u64 0, .int .u64 0, .int .u64 0, .int .u64 0, .int .u64 0, .int .u64 0, .int .u64 0] 102) := ⟨_, rfl⟩
  have hsz : w5.heap.size = w.heap.size + 6 := by rw [hw5]; simp
  have hI0 : AgI c w i a0 p (fun l => ov (hop c.S t a0) l) [] w5 := by
    rw [hw5]
    refine ⟨by simp only [ov_nil]; exact Hp.zero _ _ (by simp), (Hp.zero _ _ (by simp)).alloc _, (((Hp.new _ p _ (by simp)).alloc _).alloc _).alloc _, (((((Boxed.new w _ _).alloc _).alloc _).alloc _).alloc _).alloc _, ?_, ?_, (((((hA.alloc _).alloc _).alloc _).alloc _).alloc _).alloc _, (((((World.grownBy_alloc _ _ _).trans (World.grownBy_alloc _ _ _)).trans (World.grownBy_alloc _ _ _)).trans (World.grownBy_alloc _ _ _)).trans (World.grownBy_alloc _ _ _)).trans (World.grownBy_alloc _ _ _)⟩
    · have := Boxed.new (w.alloc (.cells #[(.pointer (some ⟨c.rb, 0, none⟩))] 103)) 3 (.int .i64 (i : Int))
      rw [World.size_alloc] at this
      exact (((this.alloc _).alloc _).alloc _).alloc _
    · have := Boxed.new (((w.alloc (.cells #[(.pointer (some ⟨c.rb, 0, none⟩))] 103)).alloc (.cells #[.int .i64 (i : Int)] 3)).alloc (.cells #[.int .u64 (wd p 0), .int .u64 (wd p 1), .int .u64 (wd p 2), .int .u64 (wd p 3), .int .u64 (wd p 4), .int .u64 (wd p 5), .int .u64 (wd p 6)] 102)) 3 (.int .i64 (a0 : Int))
      rw [World.size_alloc, World.size_alloc, World.size_alloc] at this
      exact (this.alloc _).alloc _
  refine callsIn_of_wp_marks Tryd.func103 rfl trivial ?_ rfl
  unfold plV
  simp only [Tryd.ntmps103, List.size_toArray, List.length_cons, List.length_nil, Nat.reduceAdd, Nat.reduceSub, Array.replicate_succ, Array.replicate_zero, List.push_toArray, List.append_toArray, List.nil_append, List.cons_append]
  gi_wp2
  rw [← hw5]
  clear hw5
  refine wpIn_runs rfl (by omega) 67 #[plV p] rfl trivial enters_rising (fun x : Nat => Value.int .i64 (x : Int)) Tab (el p 448) (rises 2 (by omega) p) rfl
    (AgI c w i a0 p (fun l => ov (hop c.S t a0) l)) (AgI.own c w hA i a0 p _ _ hsz) (fun pre W h => hc.tab.below h.at'.bel (Nat.le_refl _)) hI0
    (fun x => { tmps := #[(.pointer (some ⟨c.rb, 0, none⟩)), .int .i64 (i : Int), .agg #[.int .u64 (wd p 0), .int .u64 (wd p 1), .int .u64 (wd p 2), .int .u64 (wd p 3), .int .u64 (wd p 4), .int .u64 (wd p 5), .int .u64 (wd p 6)], .int .i64 (a0 : Int), .pointer (some ⟨w.heap.size, 0, none⟩), .pointer (some ⟨w.heap.size + 1, 0, none⟩), .pointer (some ⟨w.heap.size + 1 + 1, 0, none⟩), .pointer (some ⟨w.heap.size + 1 + 1 + 1, 0, none⟩), .pointer (some ⟨w.heap.size + 1 + 1 + 1 + 1, 0, none⟩), .pointer (some ⟨w.heap.size + 1 + 1 + 1 + 1 + 1, 0, none⟩), .int .i64 (x : Int), .agg #[.int .u64 (wd p 0), .int .u64 (wd p 1), .int .u64 (wd p 2), .int .u64 (wd p 3), .int .u64 (wd p 4), .int .u64 (wd p 5), .int .u64 (wd p 6)], .func (.func 67) #[.agg #[.int .u64 (wd p 0), .int .u64 (wd p 1), .int .u64 (wd p 2), .int .u64 (wd p 3), .int .u64 (wd p 4), .int .u64 (wd p 5), .int .u64 (wd p 6)]] #[], .int .i64 (x : Int), undef, undef, undef, undef, undef, undef, undef, undef, undef, undef, undef, undef, undef, undef, undef, undef, undef, undef], defers := [] }) ?assign ?body ?done
  case assign =>
    intro l x W K hK
    gi_wp2
    exact hK
  case body =>
    rintro l pre x rest W hx hI
    obtain ⟨hF, hR, hO, hX, hN, hFr, hAt, hG⟩ := hI
    have hpx : x < 448 ∧ p x = true := (el_mem p 448 x).1 (by rw [hx]; simp)
    obtain ⟨c0, c1, c2, c3, c4, c5, c6⟩ := hF.all
    have x0 := hX.cell
    have n0 := hN.cell
    have f0 := hFr.cell
    have hmx : Tryd.prog.follows .mixedOrders = true := by kernel_rfl
    by_cases hax : a0 < x
    · have q1 : (a0 : Int) < (x : Int) := by omega
      have hB0 : Below W.heap.size W W := Below.refl _ _
      cases hpr : ov (hop c.S t a0) pre x with
      | true =>
        gi_wp2_with (refine ⟨trivial, ?_⟩; gi_at_call 68; refine (CallsIn.inRound l (callsIn_wide.2 (phas_any _ x hpx.1 _))).mono ?_; rintro e w' ⟨rfl, hB1⟩; rw [hpr])
        exact AgI.same ⟨hF, hR, hO, hX, hN, hFr, hAt, hG⟩ hA hB1 x (K2.out _ _ hpr) _
      | false =>
        gi_wp2_with (refine ⟨trivial, ?_⟩; gi_at_call 68; refine (CallsIn.inRound l (callsIn_wide.2 (phas_any _ x hpx.1 _))).mono ?_; rintro e w1 ⟨rfl, hB1⟩; rw [hpr])
        have hF1 := hF.below hB1 hF.lt
        have hX1 := boxed_under hX hB1 hX.lt
        have hN1 := boxed_under hN hB1 hN.lt
        have hAt1 := hAt.below hB1
        clear c0 c1 c2 c3 c4 c5 c6 x0 n0 f0 q1
        obtain ⟨c0, c1, c2, c3, c4, c5, c6⟩ := hF1.all
        have x0 := hX1.cell
        have n0 := hN1.cell
        gi_region_with_o (first
          | (refine ⟨trivial, ?_⟩; gi_at_call 66; refine (CallsIn.inRound l (callsIn_wide.2 (hE.out x hax hpx.1 hpx.2 _ hAt1.drew))).mono ?_; rintro e w' ⟨rfl, hAt2, hG2⟩; have hF2 := hF1.drew.grown hG2 (by intro e; injection e; omega); obtain ⟨e0, e1, e2, e3, e4, e5, e6⟩ := hF2.all; unfold plV)
          | (refine ⟨trivial, ?_⟩; gi_at_call 101; refine (CallsIn.inRound l (callsIn_wide.2 (pjoined_any _ _ _))).mono ?_; rintro e w'' ⟨rfl, hB2⟩; have hF3 := hF2.below hB2 hF2.lt; obtain ⟨g0, g1, g2, g3, g4, g5, g6⟩ := hF3.all; obtain ⟨z0, z1, z2, z3, z4, z5, z6⟩ := hF3.frz; unfold plV))
        all_goals gi_wp2
        all_goals exact AgI.next ⟨hF, hR, hO, hX, hN, hFr, hAt, hG⟩ hA hB1 w' w'' hAt2 hG2 hB2 _ x (K3.out _ _ hax) _ hsz
    · have q1 : (x : Int) ≤ (a0 : Int) := by omega
      gi_wp2
      refine ⟨trivial, ?_⟩
      gi_wp2
      exact AgI.same ⟨hF, hR, hO, hX, hN, hFr, hAt, hG⟩ hA (Below.refl _ _) x (K1.out _ _ hax) _
  case done =>
    rintro D W hD ⟨hF, hR, hO, hX, hN, hFr, hAt, hG⟩ hK
    rw [hsz] at hD
    obtain ⟨c0, c1, c2, c3, c4, c5, c6⟩ := hF.all
    obtain ⟨o0, o1, o2, o3, o4, o5, o6⟩ := hO.all
    gi_wp2_with (refine ⟨trivial, ?_⟩; gi_at_call 101; refine (callsIn_wide.2 (pjoined_any _ _ _)).mono ?_; rintro e w1 ⟨rfl, hB1⟩; have hR1 := hR.below hB1 hR.lt; obtain ⟨d0, d1, d2, d3, d4, d5, d6⟩ := hR1.all; obtain ⟨f0, f1, f2, f3, f4, f5, f6⟩ := hR1.frz; unfold plV)
    have hs1 := hB1.size
    have hDlt : D < W.heap.size := (Array.getElem?_eq_some_iff.1 hK).1
    have hK1 : w1.heap[D]? = some (.deferred (some [])) := (hB1.block D hDlt).trans hK
    have hK2 : (put7 w1 (w.heap.size + 1 + 1 + 1 + 1) (joinP (ov (hop c.S t a0) (el p 448)) p)).heap[D]? = some (.deferred (some [])) := ((grown_put7 w1 (w.heap.size + 1 + 1 + 1 + 1) (joinP (ov (hop c.S t a0) (el p 448)) p)).block D (by omega) (fun e => by cases e; omega)).trans hK1
    refine ⟨by simp, .inl ⟨_, _, rfl, run_takeDeferred hK2, ?_⟩⟩
    have hq : Hp ((put7 w1 (w.heap.size + 1 + 1 + 1 + 1) (joinP (ov (hop c.S t a0) (el p 448)) p)).putObj D (.deferred none)) (w.heap.size + 1 + 1 + 1 + 1) (joinP (ov (hop c.S t a0) (el p 448)) p) := (World.putObj_heap_other (by omega)).trans (hR1.put7 _)
    have hg1 := (grown_put7 w1 (w.heap.size + 1 + 1 + 1 + 1) (joinP (ov (hop c.S t a0) (el p 448)) p))
    have hg2 := grownBy_putObj' (put7 w1 (w.heap.size + 1 + 1 + 1 + 1) (joinP (ov (hop c.S t a0) (el p 448)) p)) D (.deferred none)
    have hAe := ((hAt.below hB1).turn hg1 (fun r e => by cases e; exact ⟨by omega, by omega, by omega⟩)).turn hg2 (fun r e => by cases e; exact ⟨by omega, by omega, by omega⟩)
    have hGe := grown_new (grown_new (hG.trans (below_grown hB1 _)) hg1 (by omega)) hg2 (by omega)
    generalize (put7 w1 (w.heap.size + 1 + 1 + 1 + 1) (joinP (ov (hop c.S t a0) (el p 448)) p)).putObj D (.deferred none) = We at *
    obtain ⟨e0, e1, e2, e3, e4, e5, e6⟩ := hq.all
    exact ⟨plV (joinP (ov (hop c.S t a0) (el p 448)) p), by simp [results, Tryd.results103, go_sem, plV, e0, e1, e2, e3, e4, e5, e6], rfl, hAe, hGe⟩
end Go.Proofs.YtajkkmnojfghoaaDoor
namespace Go.Proofs.YtajkkmnojfghoaaDoor
set_option linter.unusedSimpArgs false
set_option linter.unusedVariables false
set_option maxRecDepth 100000
open Go.RowKit
set_option maxHeartbeats 4000000 in
theorem look_cat {c : Cx} (hc : c.Good) (n : Nd) (a1 b1 : Rx) (hok : (Rx.two n a1 b1).Ok) {p q : List Nd} (hns : c.ns = p ++ (Rx.two n a1 b1).flat ++ q) (hop : n.op = 3) (a : Nat) (ha : a ≤ c.s.size) (EA : EndsOk c a1 (p.length + 1) a) (EB : ∀ k, k ≤ c.s.size → EndsOk c b1 (p.length + 1 + a1.flat.length) k) : LookOk c (Rx.two n a1 b1) p.length a := by
  intro w hA
  have hlen := hc.len
  have hsz := hc.size
  have hpl := flat_lt hns
  have hW := hA.bel.size
  have hA0 := hA.lt
  have hM0 := hA.kn.lt
  have hn : c.ns[p.length]? = some n := by rw [hns, List.append_assoc, List.getElem?_append_right (Nat.le_refl _)]; simp [Rx.flat]
  have hZ : Hp (w.alloc (.cells #[.int .u64 0, .int .u64 0, .int .u64 0, .int .u64 0, .int .u64 0, .int .u64 0, .int .u64 0] 102)) w.heap.size noP := Hp.zero _ _ rfl
  have hA1 : c.At (w.alloc (.cells #[.int .u64 0, .int .u64 0, .int .u64 0, .int .u64 0, .int .u64 0, .int .u64 0, .int .u64 0] 102)) := hA.alloc _
  have hG1 : w.grownBy (w.alloc (.cells #[.int .u64 0, .int .u64 0, .int .u64 0, .int .u64 0, .int .u64 0, .int .u64 0, .int .u64 0] 102)) (some c.M) := World.grownBy_alloc _ _ _
  have hz1 : (w.alloc (.cells #[.int .u64 0, .int .u64 0, .int .u64 0, .int .u64 0, .int .u64 0, .int .u64 0, .int .u64 0] 102)).heap.size = w.heap.size + 1 := by simp
  obtain ⟨n0, n1, n2, n3, n4⟩ := (hc.nsAt.below hA1.bel hc.blt) _ _ hn
  rw [hop] at n0
  have c0 := hA1.c0
  have c1 := hA1.c1
  unfold Cx.v at c0
  have i0 : (0 : Int) ≤ (p.length : Int) := by omega
  have i1 : (p.length : Int) < (c.ns.length : Int) := by omega
  have s0 : (c.s.size : Int) ≤ 400 := by omega
  have ev : ((p.length + 1 : Nat) : Int) = (p.length : Int) + 1 := by omega
  have hres : fs c.S (.two n a1 b1) a = ov (Fit c.S b1) (el (fs c.S a1 a) 448) := fs_cat (by rw [Cx.S_len]; exact hsz) n a1 b1 a hop
  have HS := hid (fun w h => second_any hc hok.2.1 hns w h)
  unfold EndsOk at EA
  rw [ev] at EA
  replace EA := hid EA
  have HB := hid (fun w h => (callsIn_wide (n := 3)).1 (behind_in c hc b1 (p.length + 1 + a1.flat.length) (fs c.S a1 a) (fun k _ hk => EB k (by have := fit_le _ _ _ _ (fs_iff.1 hk); rw [Cx.S_len] at this; omega)) w h))
  clear hn hns hop n1 n2 n3 n4 EB hok
  go_enter Tryd.func86, Tryd.ntmps86
  go_wp2_with fail
  refine (HS.out _ hA1).mono ?_
  rintro e w1 ⟨rfl, hb2⟩
  have hA2 := hA1.below hb2
  have hZ2 := hZ.below hb2 hZ.lt
  have hG2 := hG1.trans (below_grown hb2 (some c.M))
  clear n0 c0 c1 HS
  go_wp2_with fail
  refine (EA.out _ hA2).mono ?_
  rintro e w2 ⟨rfl, hA3, hg3⟩
  have hZ3 := hZ2.grown hg3 (by intro e; injection e; omega)
  have hG3 := hG2.trans hg3
  clear EA
  go_wp2_with fail
  refine (HB.out _ hA3).mono ?_
  rintro e w3 ⟨rfl, hA4, hg4⟩
  have hZ4 := hZ3.grown hg4 (by intro e; injection e; omega)
  have hG4 := hG3.trans hg4
  clear HB
  obtain ⟨d0, d1, d2, d3, d4, d5, d6⟩ := hZ4.all
  obtain ⟨f0, f1, f2, f3, f4, f5, f6⟩ := hZ4.frz
  unfold plV
  go_wp2
  have hq := hZ4.put7 (ov (Fit c.S b1) (el (fs c.S a1 a) 448))
  obtain ⟨e0, e1, e2, e3, e4, e5, e6⟩ := hq.all
  refine bodyPost_ret (v := plV (ov (Fit c.S b1) (el (fs c.S a1 a) 448))) (by simp [results, Tryd.results86, go_sem, plV, e0, e1, e2, e3, e4, e5, e6]) rfl ⟨by rw [hres], hA4.turn (grown_put7 _ _ _) (fun r e => by cases e; exact ⟨hW, by omega, by omega⟩), grown_new hG4 (grown_put7 _ _ _) (Nat.le_refl _)⟩
set_option maxHeartbeats 4000000 in
theorem look_or {c : Cx} (hc : c.Good) (n : Nd) (a1 b1 : Rx) (hok : (Rx.two n a1 b1).Ok) {p q : List Nd} (hns : c.ns = p ++ (Rx.two n a1 b1).flat ++ q) (hop : n.op = 4) (a : Nat) (ha : a ≤ c.s.size) (EA : EndsOk c a1 (p.length + 1) a) (EB : EndsOk c b1 (p.length + 1 + a1.flat.length) a) : LookOk c (Rx.two n a1 b1) p.length a := by
  intro w hA
  have hlen := hc.len
  have hsz := hc.size
  have hpl := flat_lt hns
  have hW := hA.bel.size
  have hA0 := hA.lt
  have hM0 := hA.kn.lt
  have hn : c.ns[p.length]? = some n := by rw [hns, List.append_assoc, List.getElem?_append_right (Nat.le_refl _)]; simp [Rx.flat]
  have hZ : Hp (w.alloc (.cells #[.int .u64 0, .int .u64 0, .int .u64 0, .int .u64 0, .int .u64 0, .int .u64 0, .int .u64 0] 102)) w.heap.size noP := Hp.zero _ _ rfl
  have hA1 : c.At (w.alloc (.cells #[.int .u64 0, .int .u64 0, .int .u64 0, .int .u64 0, .int .u64 0, .int .u64 0, .int .u64 0] 102)) := hA.alloc _
  have hG1 : w.grownBy (w.alloc (.cells #[.int .u64 0, .int .u64 0, .int .u64 0, .int .u64 0, .int .u64 0, .int .u64 0, .int .u64 0] 102)) (some c.M) := World.grownBy_alloc _ _ _
  have hz1 : (w.alloc (.cells #[.int .u64 0, .int .u64 0, .int .u64 0, .int .u64 0, .int .u64 0, .int .u64 0, .int .u64 0] 102)).heap.size = w.heap.size + 1 := by simp
  obtain ⟨n0, n1, n2, n3, n4⟩ := (hc.nsAt.below hA1.bel hc.blt) _ _ hn
  rw [hop] at n0
  have c0 := hA1.c0
  have c1 := hA1.c1
  unfold Cx.v at c0
  have i0 : (0 : Int) ≤ (p.length : Int) := by omega
  have i1 : (p.length : Int) < (c.ns.length : Int) := by omega
  have s0 : (c.s.size : Int) ≤ 400 := by omega
  have ev : ((p.length + 1 : Nat) : Int) = (p.length : Int) + 1 := by omega
  have hres : fs c.S (.two n a1 b1) a = joinP (fs c.S a1 a) (fs c.S b1 a) := fs_or n a1 b1 a (by omega)
  have HS := hid (fun w h => second_any hc hok.2.1 hns w h)
  unfold EndsOk at EA EB
  rw [ev] at EA
  replace EA := hid EA
  replace EB := hid EB
  clear hn hns hop n1 n2 n3 n4 hok
  go_enter Tryd.func86, Tryd.ntmps86
  go_wp2_with fail
  refine (EA.out _ hA1).mono ?_
  rintro e w1 ⟨rfl, hA2, hg2⟩
  have hZ2 := hZ.grown hg2 (by intro e; injection e; omega)
  have hG2 := hG1.trans hg2
  clear EA n0 c0 c1
  go_wp2_with fail
  refine (HS.out _ hA2).mono ?_
  rintro e w2 ⟨rfl, hb3⟩
  have hA3 := hA2.below hb3
  have hZ3 := hZ2.below hb3 hZ2.lt
  have hG3 := hG2.trans (below_grown hb3 (some c.M))
  clear HS
  go_wp2_with fail
  refine (EB.out _ hA3).mono ?_
  rintro e w3 ⟨rfl, hA4, hg4⟩
  have hZ4 := hZ3.grown hg4 (by intro e; injection e; omega)
  have hG4 := hG3.trans hg4
  clear EB
  go_wp2_with fail
  refine (pjoined_any _ _ _).mono ?_
  rintro e w4 ⟨rfl, hb5⟩
  have hA5 := hA4.below hb5
  have hZ5 := hZ4.below hb5 hZ4.lt
  have hG5 := hG4.trans (below_grown hb5 (some c.M))
  obtain ⟨d0, d1, d2, d3, d4, d5, d6⟩ := hZ5.all
  obtain ⟨f0, f1, f2, f3, f4, f5, f6⟩ := hZ5.frz
  unfold plV
  go_wp2
  have hq := hZ5.put7 (joinP (fs c.S a1 a) (fs c.S b1 a))
  obtain ⟨e0, e1, e2, e3, e4, e5, e6⟩ := hq.all
  refine bodyPost_ret (v := plV (joinP (fs c.S a1 a) (fs c.S b1 a))) (by simp [results, Tryd.results86, go_sem, plV, e0, e1, e2, e3, e4, e5, e6]) rfl ⟨by rw [hres], hA5.turn (grown_put7 _ _ _) (fun r e => by cases e; exact ⟨hW, by omega, by omega⟩), grown_new hG5 (grown_put7 _ _ _) (Nat.le_refl _)⟩
set_option maxHeartbeats 4000000 in
theorem look_opt {c : Cx} (hc : c.Good) (n : Nd) (a1 : Rx) {p q : List Nd} (hns : c.ns = p ++ (Rx.one n a1).flat ++ q) (hop : n.op = 7) (a : Nat) (ha : a ≤ c.s.size) (EA : EndsOk c a1 (p.length + 1) a) : LookOk c (Rx.one n a1) p.length a := by
  intro w hA
  have hlen := hc.len
  have hsz := hc.size
  have hpl := flat_lt hns
  have hW := hA.bel.size
  have hA0 := hA.lt
  have hM0 := hA.kn.lt
  have hn : c.ns[p.length]? = some n := by rw [hns, List.append_assoc, List.getElem?_append_right (Nat.le_refl _)]; simp [Rx.flat]
  have hZ : Hp (w.alloc (.cells #[.int .u64 0, .int .u64 0, .int .u64 0, .int .u64 0, .int .u64 0, .int .u64 0, .int .u64 0] 102)) w.heap.size noP := Hp.zero _ _ rfl
  have hA1 : c.At (w.alloc (.cells #[.int .u64 0, .int .u64 0, .int .u64 0, .int .u64 0, .int .u64 0, .int .u64 0, .int .u64 0] 102)) := hA.alloc _
  have hG1 : w.grownBy (w.alloc (.cells #[.int .u64 0, .int .u64 0, .int .u64 0, .int .u64 0, .int .u64 0, .int .u64 0, .int .u64 0] 102)) (some c.M) := World.grownBy_alloc _ _ _
  have hz1 : (w.alloc (.cells #[.int .u64 0, .int .u64 0, .int .u64 0, .int .u64 0, .int .u64 0, .int .u64 0, .int .u64 0] 102)).heap.size = w.heap.size + 1 := by simp
  obtain ⟨n0, n1, n2, n3, n4⟩ := (hc.nsAt.below hA1.bel hc.blt) _ _ hn
  rw [hop] at n0
  have c0 := hA1.c0
  have c1 := hA1.c1
  unfold Cx.v at c0
  have i0 : (0 : Int) ≤ (p.length : Int) := by omega
  have i1 : (p.length : Int) < (c.ns.length : Int) := by omega
  have s0 : (c.s.size : Int) ≤ 400 := by omega
  have ev : ((p.length + 1 : Nat) : Int) = (p.length : Int) + 1 := by omega
  have hres : fs c.S (.one n a1) a = withP (fs c.S a1 a) a := fs_opt n a1 a (by rw [Cx.S_len]; exact ha) (by omega) (by omega)
  unfold EndsOk at EA
  rw [ev] at EA
  replace EA := hid EA
  clear hn hns hop n1 n2 n3 n4
  go_enter Tryd.func86, Tryd.ntmps86
  go_wp2_with fail
  refine (EA.out _ hA1).mono ?_
  rintro e w1 ⟨rfl, hA2, hg2⟩
  have hZ2 := hZ.grown hg2 (by intro e; injection e; omega)
  have hG2 := hG1.trans hg2
  clear EA n0 c0 c1
  go_wp2_with fail
  refine (pwith_any _ a (by omega) _).mono ?_
  rintro e w2 ⟨rfl, hb3⟩
  have hA3 := hA2.below hb3
  have hZ3 := hZ2.below hb3 hZ2.lt
  have hG3 := hG2.trans (below_grown hb3 (some c.M))
  obtain ⟨d0, d1, d2, d3, d4, d5, d6⟩ := hZ3.all
  obtain ⟨f0, f1, f2, f3, f4, f5, f6⟩ := hZ3.frz
  unfold plV
  go_wp2
  have hq := hZ3.put7 (withP (fs c.S a1 a) a)
  obtain ⟨e0, e1, e2, e3, e4, e5, e6⟩ := hq.all
  refine bodyPost_ret (v := plV (withP (fs c.S a1 a) a)) (by simp [results, Tryd.results86, go_sem, plV, e0, e1, e2, e3, e4, e5, e6]) rfl ⟨by rw [hres], hA3.turn (grown_put7 _ _ _) (fun r e => by cases e; exact ⟨hW, by omega, by omega⟩), grown_new hG3 (grown_put7 _ _ _) (Nat.le_refl _)⟩
set_option maxHeartbeats 4000000 in
theorem look_star {c : Cx} (hc : c.Good) (n : Nd) (a1 : Rx) {p q : List Nd} (hns : c.ns = p ++ (Rx.one n a1).flat ++ q) (hop : n.op = 5) (a : Nat) (ha : a ≤ c.s.size) (EA : EndsOk c a1 (p.length + 1) a) (ES : ∀ k, a < k → k ≤ c.s.size → EndsOk c (.one n a1) p.length k) : LookOk c (Rx.one n a1) p.length a := by
  intro w hA
  have hlen := hc.len
  have hsz := hc.size
  have hpl := flat_lt hns
  have hW := hA.bel.size
  have hA0 := hA.lt
  have hM0 := hA.kn.lt
  have hn : c.ns[p.length]? = some n := by rw [hns, List.append_assoc, List.getElem?_append_right (Nat.le_refl _)]; simp [Rx.flat]
  have hZ : Hp (w.alloc (.cells #[.int .u64 0, .int .u64 0, .int .u64 0, .int .u64 0, .int .u64 0, .int .u64 0, .int .u64 0] 102)) w.heap.size noP := Hp.zero _ _ rfl
  have hA1 : c.At (w.alloc (.cells #[.int .u64 0, .int .u64 0, .int .u64 0, .int .u64 0, .int .u64 0, .int .u64 0, .int .u64 0] 102)) := hA.alloc _
  have hG1 : w.grownBy (w.alloc (.cells #[.int .u64 0, .int .u64 0, .int .u64 0, .int .u64 0, .int .u64 0, .int .u64 0, .int .u64 0] 102)) (some c.M) := World.grownBy_alloc _ _ _
  have hz1 : (w.alloc (.cells #[.int .u64 0, .int .u64 0, .int .u64 0, .int .u64 0, .int .u64 0, .int .u64 0, .int .u64 0] 102)).heap.size = w.heap.size + 1 := by simp
  obtain ⟨n0, n1, n2, n3, n4⟩ := (hc.nsAt.below hA1.bel hc.blt) _ _ hn
  rw [hop] at n0
  have c0 := hA1.c0
  have c1 := hA1.c1
  unfold Cx.v at c0
  have i0 : (0 : Int) ≤ (p.length : Int) := by omega
  have i1 : (p.length : Int) < (c.ns.length : Int) := by omega
  have s0 : (c.s.size : Int) ≤ 400 := by omega
  have ev : ((p.length + 1 : Nat) : Int) = (p.length : Int) + 1 := by omega
  have hres : fs c.S (.one n a1) a = withP (joinP (ov (Go.Proofs.YtajkkmnojfghoaaDoor.hop c.S (.one n a1) a) (el (fs c.S a1 a) 448)) (fs c.S a1 a)) a := fs_star (by rw [Cx.S_len]; exact hsz) n a1 a (by rw [Cx.S_len]; exact ha) hop
  have HB := hid (fun w h => (callsIn_wide (n := 3)).1 (again_in c hc n a1 (by omega) p.length a (by omega) (fs c.S a1 a) (fun k hk _ hk2 => ES k hk (by have := fit_le _ _ _ _ (fs_iff.1 hk2); rw [Cx.S_len] at this; omega)) w h))
  unfold EndsOk at EA
  rw [ev] at EA
  replace EA := hid EA
  clear hn hns hop n1 n2 n3 n4 ES
  go_enter Tryd.func86, Tryd.ntmps86
  go_wp2_with fail
  refine (EA.out _ hA1).mono ?_
  rintro e w1 ⟨rfl, hA2, hg2⟩
  have hZ2 := hZ.grown hg2 (by intro e; injection e; omega)
  have hG2 := hG1.trans hg2
  clear EA n0 c0 c1
  go_wp2_with fail
  refine (HB.out _ hA2).mono ?_
  rintro e w2 ⟨rfl, hA3, hg3⟩
  have hZ3 := hZ2.grown hg3 (by intro e; injection e; omega)
  have hG3 := hG2.trans hg3
  clear HB
  go_wp2_with fail
  refine (pwith_any _ a (by omega) _).mono ?_
  rintro e w3 ⟨rfl, hb4⟩
  have hA4 := hA3.below hb4
  have hZ4 := hZ3.below hb4 hZ3.lt
  have hG4 := hG3.trans (below_grown hb4 (some c.M))
  obtain ⟨d0, d1, d2, d3, d4, d5, d6⟩ := hZ4.all
  obtain ⟨f0, f1, f2, f3, f4, f5, f6⟩ := hZ4.frz
  unfold plV
  go_wp2
  have hq := hZ4.put7 (withP (joinP (ov (Go.Proofs.YtajkkmnojfghoaaDoor.hop c.S (.one n a1) a) (el (fs c.S a1 a) 448)) (fs c.S a1 a)) a)
  obtain ⟨e0, e1, e2, e3, e4, e5, e6⟩ := hq.all
  refine bodyPost_ret (v := plV (withP (joinP (ov (Go.Proofs.YtajkkmnojfghoaaDoor.hop c.S (.one n a1) a) (el (fs c.S a1 a) 448)) (fs c.S a1 a)) a)) (by simp [results, Tryd.results86, go_sem, plV, e0, e1, e2, e3, e4, e5, e6]) rfl ⟨by rw [hres], hA4.turn (grown_put7 _ _ _) (fun r e => by cases e; exact ⟨hW, by omega, by omega⟩), grown_new hG4 (grown_put7 _ _ _) (Nat.le_refl _)⟩
set_option maxHeartbeats 4000000 in
theorem look_plus {c : Cx} (hc : c.Good) (n : Nd) (a1 : Rx) {p q : List Nd} (hns : c.ns = p ++ (Rx.one n a1).flat ++ q) (hop : n.op = 6) (a : Nat) (ha : a ≤ c.s.size) (EA : EndsOk c a1 (p.length + 1) a) (ES : ∀ k, a < k → k ≤ c.s.size → EndsOk c (.one n a1) p.length k) : LookOk c (Rx.one n a1) p.length a := by
  intro w hA
  have hlen := hc.len
  have hsz := hc.size
  have hpl := flat_lt hns
  have hW := hA.bel.size
  have hA0 := hA.lt
  have hM0 := hA.kn.lt
  have hn : c.ns[p.length]? = some n := by rw [hns, List.append_assoc, List.getElem?_append_right (Nat.le_refl _)]; simp [Rx.flat]
  have hZ : Hp (w.alloc (.cells #[.int .u64 0, .int .u64 0, .int .u64 0, .int .u64 0, .int .u64 0, .int .u64 0, .int .u64 0] 102)) w.heap.size noP := Hp.zero _ _ rfl
  have hA1 : c.At (w.alloc (.cells #[.int .u64 0, .int .u64 0, .int .u64 0, .int .u64 0, .int .u64 0, .int .u64 0, .int .u64 0] 102)) := hA.alloc _
  have hG1 : w.grownBy (w.alloc (.cells #[.int .u64 0, .int .u64 0, .int .u64 0, .int .u64 0, .int .u64 0, .int .u64 0, .int .u64 0] 102)) (some c.M) := World.grownBy_alloc _ _ _
  have hz1 : (w.alloc (.cells #[.int .u64 0, .int .u64 0, .int .u64 0, .int .u64 0, .int .u64 0, .int .u64 0, .int .u64 0] 102)).heap.size = w.heap.size + 1 := by simp
  obtain ⟨n0, n1, n2, n3, n4⟩ := (hc.nsAt.below hA1.bel hc.blt) _ _ hn
  rw [hop] at n0
  have c0 := hA1.c0
  have c1 := hA1.c1
  unfold Cx.v at c0
  have i0 : (0 : Int) ≤ (p.length : Int) := by omega
  have i1 : (p.length : Int) < (c.ns.length : Int) := by omega
  have s0 : (c.s.size : Int) ≤ 400 := by omega
  have ev : ((p.length + 1 : Nat) : Int) = (p.length : Int) + 1 := by omega
  have hres : fs c.S (.one n a1) a = joinP (ov (Go.Proofs.YtajkkmnojfghoaaDoor.hop c.S (.one n a1) a) (el (fs c.S a1 a) 448)) (fs c.S a1 a) := fs_plus (by rw [Cx.S_len]; exact hsz) n a1 a hop
  have HB := hid (fun w h => (callsIn_wide (n := 3)).1 (again_in c hc n a1 (by omega) p.length a (by omega) (fs c.S a1 a) (fun k hk _ hk2 => ES k hk (by have := fit_le _ _ _ _ (fs_iff.1 hk2); rw [Cx.S_len] at this; omega)) w h))
  unfold EndsOk at EA
  rw [ev] at EA
  replace EA := hid EA
  clear hn hns hop n1 n2 n3 n4 ES
  go_enter Tryd.func86, Tryd.ntmps86
  go_wp2_with fail
  refine (EA.out _ hA1).mono ?_
  rintro e w1 ⟨rfl, hA2, hg2⟩
  have hZ2 := hZ.grown hg2 (by intro e; injection e; omega)
  have hG2 := hG1.trans hg2
  clear EA n0 c0 c1
  go_wp2_with fail
  refine (HB.out _ hA2).mono ?_
  rintro e w2 ⟨rfl, hA3, hg3⟩
  have hZ3 := hZ2.grown hg3 (by intro e; injection e; omega)
  have hG3 := hG2.trans hg3
  clear HB
  obtain ⟨d0, d1, d2, d3, d4, d5, d6⟩ := hZ3.all
  obtain ⟨f0, f1, f2, f3, f4, f5, f6⟩ := hZ3.frz
  unfold plV
  go_wp2
  have hq := hZ3.put7 (joinP (ov (Go.Proofs.YtajkkmnojfghoaaDoor.hop c.S (.one n a1) a) (el (fs c.S a1 a) 448)) (fs c.S a1 a))
  obtain ⟨e0, e1, e2, e3, e4, e5, e6⟩ := hq.all
  refine bodyPost_ret (v := plV (joinP (ov (Go.Proofs.YtajkkmnojfghoaaDoor.hop c.S (.one n a1) a) (el (fs c.S a1 a) 448)) (fs c.S a1 a))) (by simp [results, Tryd.results86, go_sem, plV, e0, e1, e2, e3, e4, e5, e6]) rfl ⟨by rw [hres], hA3.turn (grown_put7 _ _ _) (fun r e => by cases e; exact ⟨hW, by omega, by omega⟩), grown_new hG3 (grown_put7 _ _ _) (Nat.le_refl _)⟩
end Go.Proofs.YtajkkmnojfghoaaDoor
namespace Go.Proofs.YtajkkmnojfghoaaDoor
set_option linter.unusedSimpArgs false
set_option linter.unusedVariables false
set_option maxRecDepth 100000
open Go.RowKit
/-- The places 0 to N of A lie in block b from off on. -/
def BsAt (w : World) (b off N : Nat) (A : Nat → Bool) : Prop := ∀ i, i ≤ N → w.cell? ⟨b, off + i, none⟩ = some (.bool (A i))
/-- A slice that reads as the places of A. -/
def BsIn (w : World) (v : Value) (N : Nat) (A : Nat → Bool) : Prop := ∃ b off cap, v = .slice (some ⟨b, off, none⟩) (N + 1) cap ∧ b < w.heap.size ∧ BsAt w b off N A
theorem BsAt.below {w w' : World} {B b off N : Nat} {A : Nat → Bool} (h : BsAt w b off N A) (hb : Below B w w') (hlt : b < B) : BsAt w' b off N A :=
  fun i hi => (hb.cell (p := ⟨b, _, none⟩) hlt).trans (h i hi)
theorem BsIn.below {w w' : World} {v : Value} {N : Nat} {A : Nat → Bool} (h : BsIn w v N A) (hb : Below w.heap.size w w') : BsIn w' v N A := by
  obtain ⟨b, off, cap, rfl, hlt, h⟩ := h
  exact ⟨b, off, cap, rfl, Nat.lt_of_lt_of_le hlt hb.size, h.below hb hlt⟩
def rowB (N : Nat) (A : Nat → Bool) : Array Value := ((List.range (N + 1)).map fun i => Value.bool (A i)).toArray
def upd (A : Nat → Bool) (i : Nat) (x : Bool) : Nat → Bool := fun j => if j = i then x else A j
/-- Block b is a row of the places of A. -/
def BsRow (w : World) (b N : Nat) (A : Nat → Bool) : Prop := w.heap[b]? = some (.cells (rowB N A) 4 (0, 0))
theorem BsRow.lt {w : World} {b N : Nat} {A : Nat → Bool} (h : BsRow w b N A) : b < w.heap.size := by
  rcases Nat.lt_or_ge b w.heap.size with h' | h'
  · exact h'
  · simp [BsRow, Array.getElem?_eq_none h'] at h
theorem rowB_at (N : Nat) (A : Nat → Bool) (i : Nat) (h : i ≤ N) : (rowB N A)[i]? = some (.bool (A i)) := by
  simp [rowB, List.getElem?_range (show i < N + 1 by omega)]
theorem BsRow.at {w : World} {b N : Nat} {A : Nat → Bool} (h : BsRow w b N A) : BsAt w b 0 N A := by
  intro i hi
  rw [Lib.cell_of_heap h, Nat.zero_add, rowB_at N A i hi]
theorem BsRow.isIn {w : World} {b N : Nat} {A : Nat → Bool} (h : BsRow w b N A) (cap : Nat) : BsIn w (.slice (some ⟨b, 0, none⟩) (N + 1) cap) N A := ⟨b, 0, cap, rfl, h.lt, h.at⟩
theorem BsRow.free {w : World} {b N : Nat} {A : Nat → Bool} (h : BsRow w b N A) (i : Nat) : w.frozen? ⟨b, i, none⟩ = false := Lib.frozen_of_heap h i
theorem rowB_set (N : Nat) (A : Nat → Bool) (i : Nat) (x : Bool) : (rowB N A).setIfInBounds i (.bool x) = rowB N (upd A i x) := by
  apply Array.ext_getElem?
  intro j
  rw [Array.getElem?_setIfInBounds]
  by_cases hj : j ≤ N
  · rw [rowB_at N _ j hj, rowB_at N _ j hj]
    by_cases e : i = j
    · subst e
      simp [rowB, upd, hj]
      omega
    · rw [if_neg e]
      simp [upd, Ne.symm e]
  · have h1 : (rowB N A)[j]? = none := Array.getElem?_eq_none (by simp [rowB]; omega)
    have h2 : (rowB N (upd A i x))[j]? = none := Array.getElem?_eq_none (by simp [rowB]; omega)
    rw [h1, h2]
    split
    · rename_i e
      subst e
      rw [if_neg (by simp [rowB]; omega)]
    · rfl
theorem BsRow.set {w : World} {b N : Nat} {A : Nat → Bool} (h : BsRow w b N A) (i : Nat) (x : Bool) : BsRow (w.setCell ⟨b, i, none⟩ (.bool x)) b N (upd A i x) := by
  simp only [BsRow] at h ⊢
  simp [World.setCell, Array.getElem?_modify, h, rowB_set]
theorem BsRow.below {w w' : World} {b N : Nat} {A : Nat → Bool} (h : BsRow w b N A) (hb : Below w.heap.size w w') : BsRow w' b N A := (hb.block b h.lt).trans h
theorem rowB_new (N : Nat) : Array.replicate (N + 1) (Value.bool false) = rowB N fun _ => false := by
  apply Array.ext_getElem?
  intro j
  by_cases hj : j ≤ N
  · rw [rowB_at N _ j hj]
    simp [show j < N + 1 by omega]
  · rw [Array.getElem?_eq_none (by simp; omega), Array.getElem?_eq_none (by simp [rowB]; omega)]
theorem BsRow.new (w : World) (N : Nat) (o : Obj) (ho : o = .cells (Array.replicate (N + 1) (Value.bool false)) 4 (0, 0)) : BsRow (w.alloc o) w.heap.size N fun _ => false := by
  rw [ho, rowB_new]
  show (w.heap.push _)[w.heap.size]? = _
  simp
theorem BsRow.congr {w : World} {b N : Nat} {A B : Nat → Bool} (h : BsRow w b N A) (he : ∀ i, i ≤ N → A i = B i) : BsRow w b N B := by
  have : rowB N A = rowB N B := by
    unfold rowB
    congr 1
    apply List.map_congr_left
    intro i hi
    rw [he i (by have := List.mem_range.1 hi; omega)]
  simp only [BsRow] at h ⊢
  rw [h, this]
theorem BsIn.form {w : World} {v : Value} {N : Nat} {A : Nat → Bool} (h : BsIn w v N A) : ∃ b off cap, v = .slice (some ⟨b, off, none⟩) (N + 1) cap := by
  obtain ⟨b, off, cap, h, _⟩ := h
  exact ⟨b, off, cap, h⟩
end Go.Proofs.YtajkkmnojfghoaaDoor
namespace Go.Proofs.YtajkkmnojfghoaaDoor
set_option linter.unusedSimpArgs false
set_option linter.unusedVariables false
set_option maxRecDepth 100000
open Go.RowKit
theorem made_bools (n : Nat) : madeCells #[Value.bool false] (n * 1) = Array.replicate n (Value.bool false) := by
  apply Array.ext
  · simp [madeCells]
  · intro i h1 h2
    simp [madeCells, Nat.mod_one]
theorem mkB (N : Nat) (hN : N ≤ 1000000) (u : World) : (Instr.makeSlice 95 (.int .i64 ((N : Int) + 1)) (.int .i64 ((N : Int) + 1))).run Tryd.prog u = .ok (.slice (some ⟨u.heap.size, 0, none⟩) (N + 1) (N + 1)) (u.alloc (.cells (rowB N fun _ => false) 4)) := by
  have hinfo : (Tryd.prog.info? 4).map (fun i => (i.zero, i.size, i.bytes)) = some (some (.bool false), 1, 1) := by kernel_rfl
  obtain ⟨i0, hi, hz0, hz1, hz2⟩ := info_parts hinfo
  have h := run_make (P := Tryd.prog) u 95 4 i0 (.bool false) Tryd.underlying95 hi hz0 .i64 .i64 ((N : Int) + 1) ((N : Int) + 1) (by omega) (Int.le_refl _) (by rw [hz2]; omega) (by omega)
  have e : ((N : Int) + 1).toNat = N + 1 := by omega
  rw [e, hz1, show (Value.bool false).cells = #[Value.bool false] from rfl, made_bools, rowB_new] at h
  exact h
theorem BsRow.new' (w : World) (N : Nat) (A : Nat → Bool) : BsRow (w.alloc (.cells (rowB N A) 4)) w.heap.size N A := by
  show (w.heap.push _)[w.heap.size]? = _
  simp
set_option maxHeartbeats 4000000 in
theorem joined_any (N : Nat) (hN : N ≤ 1000000) (A B : Nat → Bool) (v u : Value) (w : World) (hA : BsIn w v N A) (hB : BsIn w u N B) :
    Calls Tryd.prog 83 #[v, u] w fun e w' => ∃ x, e = .returned x ∧ Below w.heap.size w w' ∧ BsIn w' x N fun i => A i || B i := by
  obtain ⟨b1, o1, c1, rfl, l1, hA⟩ := hA
  obtain ⟨b2, o2, c2, rfl, l2, hB⟩ := hB
  have hmk := mkB N hN
  obtain ⟨g, hg⟩ : ∃ g, g = w.heap.size := ⟨_, rfl⟩
  have HNew : Hid (BsRow (w.alloc (.cells (rowB N fun _ => false) 4)) g N fun _ => false) := hg ▸ BsRow.new' w N _
  go_enter Tryd.func83, Tryd.ntmps83
  go_wp2
  rw [← hg]
  have HG := hid hg
  clear hg
  go_loopw [6] (fun v wr => ∃ (i : Nat) (C : Nat → Bool), i ≤ N + 1 ∧ v = .int .i64 i ∧ BsRow wr g N C ∧ Hid (∀ j, C j = (decide (j < i) && (A j || B j))) ∧ Below w.heap.size w wr) (fun v _ => N + 1 - (intOf v).toNat)
  case atStart => exact ⟨0, fun _ => false, by omega, rfl, HNew.out, fun j => by simp, (Below.refl _ _).alloc (Nat.le_refl _) _⟩
  case round =>
    obtain ⟨i, C, hi, rfl, hR, HC, hb⟩ := hrel
    by_cases hil : i < N + 1
    · have a0 := (hA.below hb l1) i (by omega)
      have d0 := (hB.below hb l2) i (by omega)
      have f0 := hR.free i
      have g0 := hR.at i (by omega)
      rw [Nat.zero_add] at g0
      have i0 : (0 : Int) ≤ (i : Int) := by omega
      have i1 : (i : Int) < (N : Int) + 1 := by omega
      cases hx : A i <;> cases hy : B i
      all_goals
        rw [hx] at a0
        rw [hy] at d0
        have HR := hid (hR.set i (A i || B i))
        rw [hx, hy] at HR
        have HC2 : Hid (∀ j, upd C i (A i || B i) j = (decide (j < i + 1) && (A j || B j))) := by
          intro j
          unfold upd
          split
          · rename_i e; subst e; simp
          · rename_i e; rw [HC.out j]; congr 1; exact decide_eq_decide.2 (by omega)
        rw [hx, hy] at HC2
        have HB := hid (hb.setCell (p := ⟨g, i, none⟩) (by simp [HG.out]) (.bool (A i || B i)))
        rw [hx, hy] at HB
        clear hx hy hb hR
        go_wp2
        exact ⟨⟨i + 1, _, by omega, by go_num, HR.out, HC2, HB.out⟩, by simp [intOf]; omega⟩
    · go_wp2
      go_ret
      refine ⟨_, rfl, hb, (hR.congr fun j hj => ?_).isIn _⟩
      rw [HC.out j, decide_eq_true (by omega), Bool.true_and]
end Go.Proofs.YtajkkmnojfghoaaDoor
