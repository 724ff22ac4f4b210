/- The landed Set: memberOf, Add. Nodes of patterns that are read may be arguments. The landed Set: Add. slices.Delete, of one member, from members of the call's own. A pattern taken out of a set. Plain mathematics. The landed Set: Remove. -/
import Derived.Test.YtejbififfceamaaGreatDoorY09
import Derived.Test.YtejbififfceamaaGreatDoorY16
import Derived.Test.YtejbififfceamaaGreatDoorY18
import Derived.RangeFuncRecord
import Derived.Test.YtejbififfceamaaGreatDoorY06
import Derived.Test.YtejbififfceamaaGreatDoorY02
import Derived.Test.YtejbififfceamaaGreatDoorY13
import Derived.Lib.SliceRun
import Derived.Test.YtejbififfceamaaGreatDoorY07
namespace Go.Proofs.YtejbififfceamaaGreatDoor
set_option linter.unusedSimpArgs false
set_option linter.unusedVariables false
set_option maxRecDepth 100000
open Go.RowKit
set_option maxHeartbeats 2000000 in
theorem memberOf_any (n : Nat) (s : ByteArray) (t : Rx) (ht : t.Ok) (hok : ∀ n ∈ t.flat, n.wf) (hf : faultL t.flat = 0) (hl : t.flat.length ≤ maxLen) (B : Nat) (a : Option Addr) (c : Nat) (w : World) (hN : NsOwn w B (.slice a t.flat.length c) t.flat) :
    Calls Tryz.prog 23 #[.agg #[.int .i64 (n : Int), .string s], .slice a t.flat.length c] w fun e w' => e = .returned (.tuple #[.agg #[.int .i64 (n : Int), .string s, .slice a t.flat.length c, .string ⟨t.ned.toArray⟩], .nilIface]) ∧ Below w.heap.size w w' := by
  have HC : Hid (∀ w', Below w.heap.size w w' → _) := fun w' hb => (litN (fun _ => True)).need t (.slice a t.flat.length c) w' trivial ht (NsOwn.isIn (show NsOwn w' B _ _ from owns_below hN hb) hl) hok hf
  clear hN hf hok ht
  have hb0 : Below w.heap.size w ((w.alloc (.cells #[.int .i64 (n : Int), .string s] 59)).alloc (.cells #[.int .i64 0, .string ⟨#[]⟩, .slice none 0 0, .string ⟨#[]⟩] 73)) := ((Below.refl _ _).alloc (Nat.le_refl _) _).alloc (by simp) _
  have CC := hid (HC.out _ hb0)
  have HB0 := hid hb0
  clear hb0 HC
  go_enter Tryz.func23, Tryz.ntmps23
  go_wp2_with fail
  refine Calls.mono CC.out ?_
  rintro e w1 ⟨rfl, hb⟩
  have h0 : ((w.alloc (.cells #[.int .i64 (n : Int), .string s] 59)).alloc (.cells #[.int .i64 0, .string ⟨#[]⟩, .slice none 0 0, .string ⟨#[]⟩] 73)).heap[w.heap.size]? = some (.cells #[.int .i64 (n : Int), .string s] 59 (0, 0)) := (Below.heap_alloc _ _ _ (by simp)).trans (World.alloc_heap_new w _)
  have h1 : ((w.alloc (.cells #[.int .i64 (n : Int), .string s] 59)).alloc (.cells #[.int .i64 0, .string ⟨#[]⟩, .slice none 0 0, .string ⟨#[]⟩] 73)).heap[w.heap.size + 1]? = some (.cells #[.int .i64 0, .string ⟨#[]⟩, .slice none 0 0, .string ⟨#[]⟩] 73 (0, 0)) := by
    have := World.alloc_heap_new (w.alloc (.cells #[.int .i64 (n : Int), .string s] 59)) (.cells #[.int .i64 0, .string ⟨#[]⟩, .slice none 0 0, .string ⟨#[]⟩] 73)
    rwa [World.size_alloc] at this
  have k0 := (hb.block w.heap.size (by simp; omega)).trans h0
  have k1 := (hb.block (w.heap.size + 1) (by simp)).trans h1
  have c0 := Lib.cell_of_heap k0 0
  have c1 := Lib.cell_of_heap k0 1
  have d0 := Lib.cell_of_heap k1 0
  have d1 := Lib.cell_of_heap k1 1
  have d2 := Lib.cell_of_heap k1 2
  have d3 := Lib.cell_of_heap k1 3
  have f0 := Lib.frozen_of_heap k1 0
  have f1 := Lib.frozen_of_heap k1 1
  have f2 := Lib.frozen_of_heap k1 2
  have f3 := Lib.frozen_of_heap k1 3
  simp only [List.getElem?_toArray, List.getElem?_cons_zero, List.getElem?_cons_succ] at c0 c1 d0 d1 d2 d3
  have HB1 := hid (HB0.out.trans (hb.mono HB0.out.size))
  have H1 : Hid (w1.heap[w.heap.size + 1]? = _) := k1
  clear hb h0 h1 k0 k1 CC HB0
  go_wp2
  have k4 : ((((w1.setCell ⟨w.heap.size + 1, 0, none⟩ (.int .i64 (n : Int))).setCell ⟨w.heap.size + 1, 1, none⟩ (.string s)).setCell ⟨w.heap.size + 1, 2, none⟩ (.slice a t.flat.length c)).setCell ⟨w.heap.size + 1, 3, none⟩ (.string ⟨t.ned.toArray⟩)).heap[w.heap.size + 1]? = some (.cells #[.int .i64 (n : Int), .string s, .slice a t.flat.length c, .string ⟨t.ned.toArray⟩] 73 (0, 0)) := by
    simp [World.setCell, Array.getElem?_modify, H1.out]
  have hg := (((grown_cellR w1 ⟨w.heap.size + 1, 0, none⟩ (.int .i64 (n : Int))).trans (grown_cellR _ ⟨w.heap.size + 1, 1, none⟩ (.string s))).trans (grown_cellR _ ⟨w.heap.size + 1, 2, none⟩ (.slice a t.flat.length c))).trans (grown_cellR _ ⟨w.heap.size + 1, 3, none⟩ (.string ⟨t.ned.toArray⟩))
  generalize (((w1.setCell ⟨w.heap.size + 1, 0, none⟩ (.int .i64 (n : Int))).setCell ⟨w.heap.size + 1, 1, none⟩ (.string s)).setCell ⟨w.heap.size + 1, 2, none⟩ (.slice a t.flat.length c)).setCell ⟨w.heap.size + 1, 3, none⟩ (.string ⟨t.ned.toArray⟩) = w2 at k4 hg ⊢
  have r0 := Lib.cell_of_heap k4 0
  have r1 := Lib.cell_of_heap k4 1
  have r2 := Lib.cell_of_heap k4 2
  have r3 := Lib.cell_of_heap k4 3
  simp only [List.getElem?_toArray, List.getElem?_cons_zero, List.getElem?_cons_succ] at r0 r1 r2 r3
  have HX := hid (HB1.out.trans (⟨hg.os, hg.tape, hg.output, hg.size, fun k hk => hg.block k (by have := HB1.out.size; omega) (by intro e; injection e with e; simp only at e; omega)⟩ : Below w.heap.size w1 w2))
  clear k4 hg HB1 H1
  exact bodyPost_ret (v := .tuple #[.agg #[.int .i64 (n : Int), .string s, .slice a t.flat.length c, .string ⟨t.ned.toArray⟩], .nilIface]) (by simp [results, Tryz.results23, go_sem, *]) rfl ⟨rfl, HX.out⟩
end Go.Proofs.YtejbififfceamaaGreatDoor
namespace Go.Proofs.YtejbififfceamaaGreatDoor
set_option linter.unusedSimpArgs false
set_option linter.unusedVariables false
set_option maxRecDepth 100000
open Go.RowKit
theorem good_nodes : ∀ (t : Rx), t.Good → ∀ n ∈ t.flat, n.good
  | .leaf n, h, m, hm => by
    simp [Rx.flat] at hm
    rw [hm]
    exact h.2
  | .one n a, h, m, hm => by
    simp [Rx.flat] at hm
    rcases hm with rfl | hm
    · exact h.2.1
    · exact good_nodes a h.2.2 m hm
  | .two n a b, h, m, hm => by
    simp [Rx.flat] at hm
    rcases hm with rfl | hm | hm
    · exact h.2.1
    · exact good_nodes a h.2.2.1 m hm
    · exact good_nodes b h.2.2.2 m hm
theorem int_wfA {z : Int} (h0 : -9223372036854775808 ≤ z) (h1 : z ≤ 9223372036854775807) : (Lit.int .i64 z).wf = true := by
  have e1 : IntKind.i64.min = -9223372036854775808 := by decide
  have e2 : IntKind.i64.max = 9223372036854775807 := by decide
  simp only [Lit.wf, e1, e2, h0, h1, decide_true, Bool.and_self]
theorem wf_u64A {x : Int} (h : okW x) : (Lit.int .u64 x).wf = true := WalkArith.wf_u64 (by unfold okW at h; omega)
theorem good_wf {n : Nd} (h : n.good) : n.wf := ⟨int_wfA (by have := h.1; omega) (by have := h.1; omega), wf_u64A h.2.2.1, wf_u64A h.2.2.2.1, wf_u64A h.2.2.2.2.1, wf_u64A h.2.2.2.2.2⟩
end Go.Proofs.YtejbififfceamaaGreatDoor
namespace Go.Proofs.YtejbififfceamaaGreatDoor
set_option linter.unusedSimpArgs false
set_option linter.unusedVariables false
set_option maxRecDepth 100000
open Go.RowKit
set_option maxHeartbeats 1000000 in
theorem ladd_bad (mb : Nat) (w : World) (s : ByteArray) (hs : s.size ≤ maxLen) (ms : List Nd) (k e : Int) (hp : PsR s ms k e) (he : ¬ e = 0) :
    Calls Tryz.prog 8 #[.pointer (some ⟨mb, 0, none⟩), .string s] w fun x w' => x = .returned (.tuple #[.int .i64 0, .int .i64 k, errV e]) ∧ Below w.heap.size w w' := by
  have HP := hid (synR.parse s w ms k e hs hp)
  rw [show errV e = .iface 32 (.int .i64 e) from if_neg he] at HP ⊢
  clear hp he
  go_enter Tryz.func8, Tryz.ntmps8
  go_wp2_with fail
  refine Calls.mono HP.out ?_
  rintro x w1 ⟨u, rfl, hb, hN⟩
  obtain ⟨a, cap, rfl, _⟩ := hN
  go_wp2
  go_ret3
  exact ⟨rfl, hb⟩
set_option maxHeartbeats 1000000 in
theorem ladd_full (mb : Nat) (v : Value) (ps : List (Mbr × Value)) (σ : SetS) (w : World) (h : MsI mb v ps σ w) (s : ByteArray) (t : Rx) (hl : s.size ≤ 200) (ht : Whole s.data.toList (.ok t)) (h60 : ¬ 60 < t.flat.length) (h12 : σ.ms.length = 12) :
    Calls Tryz.prog 8 #[.pointer (some ⟨mb, 0, none⟩), .string s] w fun x w' => x = .returned (.tuple #[.int .i64 0, .int .i64 0, errV 3]) ∧ Below w.heap.size w w' := by
  have HP := hid (parse_own s w hl t ht h60)
  have HB : Hid (∀ w', Below w.heap.size w w' → w'.cell? ⟨mb, 0, none⟩ = some v) := fun w' hb => (h.below hb).cells.1
  obtain ⟨a, cap, rfl, -⟩ := MbOwn.at h.row
  have g1 : ((ps.length : Int) == 12) = true := by rw [beq_iff_eq, h.len]; omega
  rw [show errV 3 = .iface 32 (.int .i64 3) from rfl]
  clear h ht h60
  go_enter Tryz.func8, Tryz.ntmps8
  go_wp2_with fail
  refine Calls.mono HP.out ?_
  rintro x w1 ⟨a, cap, rfl, hb, _⟩
  have c0 := HB.out w1 hb
  go_wp2
  go_ret3
  exact ⟨rfl, hb⟩
set_option maxHeartbeats 4000000 in
theorem ladd_ok (mb : Nat) (v : Value) (ps : List (Mbr × Value)) (σ : SetS) (w : World) (h : MsI mb v ps σ w) (hlast : σ.last ≤ 1000000) (s : ByteArray) (t : Rx) (hl : s.size ≤ 200) (ht : Whole s.data.toList (.ok t)) (h60 : ¬ 60 < t.flat.length) (h12 : σ.ms.length < 12) :
    Calls Tryz.prog 8 #[.pointer (some ⟨mb, 0, none⟩), .string s] w fun x w' => x = .returned (.tuple #[.int .i64 ((σ.last + 1 : Nat) : Int), .int .i64 0, .nilIface]) ∧ ∃ v' ps', MsI mb v' ps' ⟨σ.ms ++ [⟨σ.last + 1, s, t⟩], σ.last + 1, σ.on, σ.tried⟩ w' ∧ But (FootL mb v ps) w w' ∧ Onto (FootL mb v ps) (FootL mb v' ps') w := by
  have HP := hid (parse_own s w hl t ht h60)
  have H := hid h
  have hgd := whole_good _ _ ht
  have hft := good_fault _ hgd (by omega)
  have hok : ∀ n ∈ t.flat, n.wf := fun n hn => good_wf (hgd.all n hn)
  have HM : Hid (∀ B a c w', NsOwn w' B (.slice a t.flat.length c) t.flat → _) := fun B a c w' hN => memberOf_any (σ.last + 1) s t hgd.isOk hok hft (by unfold maxLen; omega) B a c w' hN
  have g1 : ((ps.length : Int) == 12) = false := by have := h.len; rw [beq_eq_false_iff_ne]; omega
  have hpl : ps.length ≤ 12 := by have := h.len; omega
  obtain ⟨a, cap, rfl, -⟩ := MbOwn.at h.row
  obtain ⟨L, hL⟩ : ∃ L, L = σ.last + 1 := ⟨_, rfl⟩
  have hw1 : IntKind.i64.wrap ((σ.last : Int) + 1) = (L : Int) := by rw [IntKind.wrap_i64] <;> omega
  rw [← hL] at HM ⊢
  clear h ht hgd hft hok h12 hL
  go_enter Tryz.func8, Tryz.ntmps8
  go_wp2_with fail
  refine Calls.mono HP.out ?_
  rintro x w1 ⟨ua, uc, rfl, hb, hN⟩
  have H1 := hid (H.out.below hb)
  obtain ⟨c0, c1, -, -, -⟩ := H1.out.cells
  have HB := hid hb
  have HN := hid hN
  have CM := hid (HM.out _ _ _ w1 hN)
  clear hb hN HP HM
  go_wp2_with fail
  refine Calls.mono CM.out ?_
  rintro x w2 ⟨rfl, hb⟩
  have H2 := hid (H1.out.below hb)
  have HN2 : Hid (NsOwn w2 w.heap.size (.slice ua t.flat.length uc) t.flat) := owns_below HN.out hb
  have HB2 := hid (HB.out.trans (hb.mono HB.out.size))
  clear hb H1 HN HB CM c0 c1
  have hmb := hp_lt H2.out.box
  obtain ⟨Z, hZ⟩ : ∃ Z, Z = w2.alloc (.cells #[.int .i64 (L : Int), .string s, .slice ua t.flat.length uc, .string ⟨t.ned.toArray⟩] 73) := ⟨_, rfl⟩
  have hZb : Below w2.heap.size w2 Z := by rw [hZ]; exact (Below.refl _ _).alloc (Nat.le_refl _) _
  have hZm : Z.heap[w2.heap.size]? = some (.cells #[.int .i64 (L : Int), .string s, .slice ua t.flat.length uc, .string ⟨t.ned.toArray⟩] 73 (0, 0)) := by rw [hZ]; exact World.alloc_heap_new w2 _
  have hZs : Z.heap.size = w2.heap.size + 1 := by rw [hZ]; exact World.size_alloc _ _
  have H3 := hid (H2.out.below hZb)
  obtain ⟨d0, -, -, -, d4⟩ := H3.out.cells
  have m0 := Lib.cell_of_heap hZm 0
  have m1 := Lib.cell_of_heap hZm 1
  have m2 := Lib.cell_of_heap hZm 2
  have m3 := Lib.cell_of_heap hZm 3
  simp only [List.getElem?_toArray, List.getElem?_cons_zero, List.getElem?_cons_succ] at m0 m1 m2 m3
  obtain ⟨M, hM⟩ : ∃ M, M = w2.heap.size := ⟨_, rfl⟩
  rw [← hM] at m0 m1 m2 m3 hZm
  have HZM := hid hZm
  have HZS := hid hZs
  have HZB := hid hZb
  have hmbZ : mb < Z.heap.size := by omega
  have k0 : ∀ o, (Z.alloc o).cell? ⟨mb, 0, none⟩ = some (.slice a ps.length cap) := fun o => (World.cell?_of_block (Below.heap_alloc _ _ _ hmbZ)).trans d0
  have AO : Hid (∀ W : World, W = (Z.alloc (.cells #[.int .i64 (L : Int), .string s, .slice ua t.flat.length uc, .string ⟨t.ned.toArray⟩] 73)).drew → MbOwn W 0 (.slice a ps.length cap) ps ∧ W.cell? ⟨Z.heap.size, 0, none⟩ = some (.int .i64 (L : Int)) ∧ W.cell? ⟨Z.heap.size, 1, none⟩ = some (.string s) ∧ W.cell? ⟨Z.heap.size, 2, none⟩ = some (.slice ua t.flat.length uc) ∧ W.cell? ⟨Z.heap.size, 3, none⟩ = some (.string ⟨t.ned.toArray⟩) ∧ Below Z.heap.size Z W) := by
    rintro _ rfl
    have hb2 : Below Z.heap.size Z (Z.alloc (.cells #[.int .i64 (L : Int), .string s, .slice ua t.flat.length uc, .string ⟨t.ned.toArray⟩] 73)).drew := ((Below.refl _ _).alloc (Nat.le_refl _) _).drew
    refine ⟨owns_below H3.out.row hb2, ?_, ?_, ?_, ?_, hb2⟩
    · show (Z.alloc _).cell? _ = _
      rw [World.cell?_alloc_at (w := Z) _ _ Z.heap.size 0 (by simp)]
      rfl
    · show (Z.alloc _).cell? _ = _
      rw [World.cell?_alloc_at (w := Z) _ _ Z.heap.size 1 (by simp)]
      rfl
    · show (Z.alloc _).cell? _ = _
      rw [World.cell?_alloc_at (w := Z) _ _ Z.heap.size 2 (by simp)]
      rfl
    · show (Z.alloc _).cell? _ = _
      rw [World.cell?_alloc_at (w := Z) _ _ Z.heap.size 3 (by simp)]
      rfl
  clear hZb hZm hZs d4 hmb
  have HZ := hid hZ
  have HM2 := hid hM
  go_wp2_with fail
  rw [← HM2.out, ← HZ.out]
  clear hM hZ
  go_region_law (first | (refine step_append_mb (by rfl) _ _ (by rfl) 0 _ (by rfl) ps (AO.out _ rfl).1 Z.heap.size 1 (⟨L, s, t⟩, .slice ua t.flat.length uc) rfl (by rfl) (AO.out _ rfl).2.1 (AO.out _ rfl).2.2.1 (AO.out _ rfl).2.2.2.1 (AO.out _ rfl).2.2.2.2.1 (by omega) (by omega) ?_; intro g3 cap3 w3 ho3 hg3 hb3 hl3; have HO3 := hid ho3; have HZ3 := hid hb3; have HG3 := hid hg3; have hx3 : w3.heap[mb]? = _ := box_row (H3.out.below (AO.out _ rfl).2.2.2.2.2).box (AO.out _ rfl).1 (by decide) hg3; have HX3 := hid hx3; have hy3 : w3.heap[M]? = _ := (hg3.block M (by have := (AO.out _ rfl).2.2.2.2.2.size; have := HZS.out; have := HM2.out; omega) (fun e => by have h7 := (owns_block H2.out.row e.symm).2.1; have := HM2.out; omega)).trans (((AO.out _ rfl).2.2.2.2.2.block M (by have := HZS.out; have := HM2.out; omega)).trans HZM.out); have HY3 := hid hy3; have q0 := Lib.frozen_of_heap hx3 0; have p0 := Lib.cell_of_heap hx3 0; simp only [List.getElem?_toArray, List.getElem?_cons_zero, List.getElem?_cons_succ] at p0; clear ho3 hg3 hb3 hl3 hx3 hy3))
  all_goals
    obtain ⟨w4, hw4⟩ : ∃ w4, w3.setCell ⟨mb, 0, none⟩ (.slice (some ⟨g3, 0, none⟩) (ps.length + 1) cap3) = w4 := ⟨_, rfl⟩
    rw [hw4]
    have hMmb : M ≠ mb := by have := hp_lt H2.out.box; have := HM2.out; omega
    have hg4 : w3.grownBy w4 (some mb) := by rw [← hw4]; exact grown_cellR w3 ⟨mb, 0, none⟩ _
    have hx4 : w4.heap[mb]? = some (.cells #[.slice (some ⟨g3, 0, none⟩) (ps.length + 1) cap3, .int .i64 (σ.last : Int), .bool σ.on, .int .i64 (σ.tried : Int)] 69 (0, 0)) := by
      rw [← hw4]
      simp [World.setCell, Array.getElem?_modify, HX3.out]
    have hy4 := (hg4.block M (hp_lt HY3.out) (by intro e; injection e with e; exact hMmb e)).trans HY3.out
    obtain ⟨w5, hw5⟩ : ∃ w5, w4.setCell ⟨mb, 1, none⟩ (.int .i64 (L : Int)) = w5 := ⟨_, rfl⟩
    have hg5 : w4.grownBy w5 (some mb) := by rw [← hw5]; exact grown_cellR w4 ⟨mb, 1, none⟩ _
    have hx5 : w5.heap[mb]? = some (.cells #[.slice (some ⟨g3, 0, none⟩) (ps.length + 1) cap3, .int .i64 (L : Int), .bool σ.on, .int .i64 (σ.tried : Int)] 69 (0, 0)) := by
      rw [← hw5]
      simp [World.setCell, Array.getElem?_modify, hx4]
    have hy5 := (hg5.block M (hp_lt hy4) (by intro e; injection e with e; exact hMmb e)).trans hy4
    have r0 := Lib.cell_of_heap hy4 0
    have r1 := Lib.cell_of_heap hx4 1
    have s0 := Lib.cell_of_heap hy5 0
    have r2 := Lib.frozen_of_heap hx4 1
    simp only [List.getElem?_toArray, List.getElem?_cons_zero, List.getElem?_cons_succ] at r0 r1 s0
    have HG := hid (hg4.trans hg5)
    have HX5 := hid hx5
    rw [← hw5] at s0
    have HW5 := hid hw5
    clear hg4 hx4 hy4 hg5 hx5 hy5 hw5 p0 q0 m0 m1 m2 m3 d0 k0
    go_wp2
    go_ret3
    rw [HW5.out]
    have hba := (AO.out _ rfl).2.2.2.2.2
    have hns : ∀ B v ns, NsOwn w2 B v ns → NsOwn w5 B v ns := fun B v ns h => owns_other (owns_row (owns_below (owns_below h HZB.out) hba) (AO.out _ rfl).1 (by decide) HG3.out) HX3.out (by decide) HG.out
    have s2 := HB2.out.size
    have sz := HZS.out
    have sa := hba.size
    refine ⟨rfl, .slice (some ⟨g3, 0, none⟩) (ps.length + 1) cap3, ps ++ [(⟨L, s, t⟩, .slice ua t.flat.length uc)], ⟨HX5.out, ?_, ?_, ?_⟩, ?_, ?_⟩
    · have := owns_other HO3.out HX3.out (by decide) HG.out
      unfold MbOwn
      rw [List.length_append]
      rw [List.length_append] at this
      exact this
    · intro x hx
      rcases List.mem_append.1 hx with hx | hx
      · exact hns _ _ _ (H2.out.pats x hx)
      · rw [List.mem_singleton.1 hx]
        exact hns _ _ _ (World.ownsRow.mono HN2.out (Nat.zero_le _))
    · simp only [List.map_append, List.map_cons, List.map_nil]
      rw [← H.out.ms]
    · exact ((((But.below HB2.out).trans (But.below (F := fun _ => False) HZB.out) (fun k h => h.elim)).trans (But.below (F := fun _ => False) hba) (fun k h => h.elim)).trans (But.grown (F := FootL mb (.slice a ps.length cap) ps) HG3.out (fun k e => Or.inr (Or.inl e))) (fun k h => Or.inl h)).trans (But.grown HG.out (fun k e => by injection e with e; exact Or.inl e.symm)) (fun k hk => Or.inl hk)
    · rintro k (rfl | hk | ⟨x, hx, hk⟩)
      · exact Or.inl (Or.inl rfl)
      · injection hk with hk
        simp only at hk
        subst hk
        rcases HZ3.out with h3 | h3
        · exact Or.inl (Or.inr (Or.inl h3))
        · right
          omega
      · rcases List.mem_append.1 hx with hx | hx
        · exact Or.inl (Or.inr (Or.inr ⟨x, hx, hk⟩))
        · rw [List.mem_singleton.1 hx] at hk
          exact Or.inr (owns_block HN2.out hk).1
/-- Add, whatever comes of it. -/
theorem ladd_any (mb : Nat) (v : Value) (ps : List (Mbr × Value)) (σ σ' : SetS) (w : World) (h : MsI mb v ps σ w) (hσ : σ.Ok) (hlast : σ.last ≤ 1000000) (s : ByteArray) (hs : s.size ≤ maxLen) (n : Nat) (k e : Int) (ha : AddR σ s n k e σ') :
    Calls Tryz.prog 8 #[.pointer (some ⟨mb, 0, none⟩), .string s] w fun x w' => x = .returned (.tuple #[.int .i64 (n : Int), .int .i64 k, errV e]) ∧ ∃ v' ps', MsI mb v' ps' σ' w' ∧ But (FootL mb v ps) w w' ∧ Onto (FootL mb v ps) (FootL mb v' ps') w := by
  cases ha with
  | bad ms k e hp he =>
    refine (ladd_bad mb w s hs ms k e hp he).mono ?_
    rintro x w' ⟨rfl, hb⟩
    exact ⟨rfl, v, ps, h.below hb, But.below hb, fun k hk => Or.inl hk⟩
  | full t h1 h2 h3 h4 =>
    refine (ladd_full mb v ps σ w h s t h1 h2 h3 (by have := hσ.len; omega)).mono ?_
    rintro x w' ⟨rfl, hb⟩
    exact ⟨rfl, v, ps, h.below hb, But.below hb, fun k hk => Or.inl hk⟩
  | ok t h1 h2 h3 h4 => exact ladd_ok mb v ps σ w h hlast s t h1 h2 h3 h4
end Go.Proofs.YtejbififfceamaaGreatDoor
namespace Go.Proofs.YtejbififfceamaaGreatDoor
set_option linter.unusedSimpArgs false
set_option linter.unusedVariables false
set_option maxRecDepth 100000
open Go.RowKit
theorem mb_zero (w : World) : (zeroValue 73).run Tryz.prog w = .ok (.agg #[.int .i64 0, .string ByteArray.empty, .slice none 0 0, .string ByteArray.empty]) w := by kernel_rfl
def mbZ : Array Value := #[.int .i64 0, .string ByteArray.empty, .slice none 0 0, .string ByteArray.empty]
theorem mbZ_one (n : Nat) : ∀ v ∈ (Builtin.zeroCells mbZ n).toList, v.oneCell' = true := by
  intro v hv
  simp [Builtin.zeroCells] at hv
  obtain ⟨i, _, rfl⟩ := hv
  have h4 : mbZ.size = 4 := rfl
  rw [h4]
  have h : i % 4 = 0 ∨ i % 4 = 1 ∨ i % 4 = 2 ∨ i % 4 = 3 := by omega
  rcases h with h | h | h | h <;> rw [h] <;> rfl
theorem mbZ_len (n : Nat) : (Builtin.zeroCells mbZ n).toList.length = n * 4 := by simp [Builtin.zeroCells, mbZ]
/-- clear, of members. -/
theorem mb_clear (W : World) (b o n c : Nat) (ty : TypeId) (hn : 0 < n) (hc : ∀ j, j < n * 4 → (W.cell? ⟨b, o + j, none⟩).isSome = true) (hf : ∀ j, j < n * 4 → W.frozen? ⟨b, o + j, none⟩ = false) :
    (Builtin.clear_ #[67] ty #[.slice (some ⟨b, o, none⟩) n c]).run Tryz.prog W = .ok (.tuple #[]) (W.setCells b o (Builtin.zeroCells mbZ n).toList) := by
  have hst := run_storeCells_cells (P := Tryz.prog) b o (Builtin.zeroCells mbZ n).toList 0 W (by rw [mbZ_len]; simpa using hc) (by rw [mbZ_len]; simpa using hf) (mbZ_one n)
  simp only [Nat.add_zero] at hst
  obtain ⟨m, rfl⟩ : ∃ m, n = m + 1 := ⟨n - 1, by omega⟩
  simp [Builtin.clear_, run_underlying Tryz.underlying67, mb_zero]
  rw [show (Value.agg #[.int .i64 0, .string ⟨#[]⟩, .slice none 0 0, .string ⟨#[]⟩]).cells = mbZ from rfl, hst]
  rfl
theorem mbCells_ones : ∀ (l : List (Mbr × Value)), (∀ x ∈ l, x.2.oneCell' = true) → ∀ u ∈ mbCells l, u.oneCell' = true
  | [], _, u, h => by simp [mbCells] at h
  | n :: r, ho, u, h => by
    simp only [mbCells, List.mem_cons] at h
    rcases h with rfl | rfl | rfl | rfl | h
    · rfl
    · rfl
    · exact ho n (by simp)
    · rfl
    · exact mbCells_ones r (fun x hx => ho x (by simp [hx])) u h
theorem erase_split {α : Type} (l : List α) (i : Nat) : l.eraseIdx i = l.take i ++ l.drop (i + 1) := by rw [List.eraseIdx_eq_take_drop_succ]
set_option maxHeartbeats 4000000 in
theorem ldel_any (B g cap N : Nat) (ps : List (Mbr × Value)) (w : World) (hown : MbOwn w B (.slice (some ⟨g, 0, none⟩) N cap) ps) (hone : ∀ x ∈ ps, x.2.oneCell' = true) (i j : Nat) (hij : j = i + 1) (hj : j ≤ N) :
    Calls Tryz.prog 28 #[.slice (some ⟨g, 0, none⟩) N cap, .int .i64 (i : Int), .int .i64 (j : Int)] w fun e w' => e = .returned (.slice (some ⟨g, 0, none⟩) (i + (N - j)) cap) ∧ MbOwn w' B (.slice (some ⟨g, 0, none⟩) (i + (N - j)) cap) (ps.eraseIdx i) ∧ w.grownBy w' (some g) := by
  obtain ⟨g', cap', cur, hv, hB, hg, hnc, hcm, hsz, htk⟩ : ∃ g' cap' cur, Value.slice (some ⟨g, 0, none⟩) N cap = .slice (some ⟨g', 0, none⟩) ps.length cap' ∧ B ≤ g' ∧ w.heap[g']? = some (.cells cur 73 (0, 0)) ∧ ps.length ≤ cap' ∧ cap' ≤ maxLen ∧ cur.size = cap' * 4 ∧ cur.toList.take (ps.length * 4) = mbCells ps := by
    rcases hown.2 with ⟨hv, _⟩ | h
    · cases hv
    · exact h
  injection hv with q1 q2 q3
  injection q1 with q1
  injection q1 with q1 _ _
  subst q1 q3
  have hN : ps.length = N := q2.symm
  obtain ⟨i0, hi0, hz0, hz1, hz2⟩ := info_parts mb_info
  obtain ⟨news, hnews⟩ : ∃ news, news = mbCells (ps.drop j) := ⟨_, rfl⟩
  have hnl : news.length = (N - j) * 4 := by rw [hnews, mbCells_len, List.length_drop, hN]
  have hcell : ∀ k, k < cap * 4 → ∀ W : World, W.heap[g]? = w.heap[g]? → W.cell? ⟨g, k, none⟩ = cur[k]? ∧ W.frozen? ⟨g, k, none⟩ = false := fun k hk W hW => by
    have h1 := Lib.cell_of_heap (hW.trans hg) k
    exact ⟨h1, Lib.frozen_of_heap (hW.trans hg) k⟩
  have hnc4 : ∀ t u, news[t]? = some u → cur[j * 4 + t]? = some u := by
    intro t u hu
    rw [hnews, mbCells_drop, ← htk, List.getElem?_drop, List.getElem?_take] at hu
    split at hu
    · simpa using hu
    · cases hu
  obtain ⟨A, hA, hsrc⟩ : ∃ A : Addr, (if cap = j then some (⟨g, 0, none⟩ : Addr) else some ⟨g, j * 4, none⟩) = some A ∧ Hid (∀ t u, news[t]? = some u → w.drew.cell? (A.add t) = some u) := by
    by_cases h : cap = j
    · refine ⟨⟨g, 0, none⟩, by simp [h], fun t u hu => ?_⟩
      have h0 : news.length = 0 := by rw [hnl]; omega
      rw [List.length_eq_zero_iff.1 h0] at hu
      simp at hu
    · refine ⟨⟨g, j * 4, none⟩, by simp [h], fun t u hu => ?_⟩
      have ht : t < news.length := (List.getElem?_eq_some_iff.1 hu).1
      rw [Addr.add_lit, (hcell (j * 4 + t) (by omega) w.drew rfl).1]
      exact hnc4 t u hu
  have s1 : Hid (news.length = (N - j) * 4) := hnl
  have s2 : Hid (∀ u ∈ news, u.oneCell' = true) := by
    rw [hnews]
    exact mbCells_ones _ (fun x hx => hone x (List.mem_of_mem_drop hx))
  have s3 : Hid (∀ t, t < news.length → (w.drew.cell? ⟨g, 0 + i * 4 + t, none⟩).isSome = true ∧ w.drew.frozen? ⟨g, 0 + i * 4 + t, none⟩ = false) := by
    intro t ht
    obtain ⟨h1, h2⟩ := hcell (0 + i * 4 + t) (by omega) w.drew rfl
    exact ⟨by rw [h1, Array.getElem?_eq_getElem (by omega)]; rfl, h2⟩
  obtain ⟨W1, hW1⟩ : ∃ W1, W1 = w.drew.setCells g (0 + i * 4) news := ⟨_, rfl⟩
  have hb1 : W1.heap[g]? = some (.cells (over cur (0 + i * 4) news) 73 (0, 0)) := by rw [hW1]; exact heap_over g _ _ news _ cur w.drew hg
  have hs1 : (over cur (0 + i * 4) news).size = cap * 4 := by rw [over_size]; exact hsz
  have hcl : ∀ ty, (Builtin.clear_ #[67] ty #[.slice (some ⟨g, (i + (N - j)) * 4, none⟩) (N - (i + (N - j))) (cap - (i + (N - j)))]).run Tryz.prog W1 = .ok (.tuple #[]) (W1.setCells g ((i + (N - j)) * 4) (Builtin.zeroCells mbZ (N - (i + (N - j)))).toList) :=
    fun ty => mb_clear W1 g ((i + (N - j)) * 4) _ _ ty (by omega) (fun t ht => by
      rw [Lib.cell_of_heap hb1 _]
      rw [Array.getElem?_eq_getElem (by rw [hs1]; omega)]
      rfl) (fun t ht => Lib.frozen_of_heap hb1 _)
  have hW : Hid (W1 = w.drew.setCells g (0 + i * 4) news) := hW1
  have HB1 := hid hb1
  have hic : i ≤ cap := by omega
  have hjc : j ≤ cap := by omega
  have hcm' : cap ≤ 9223372036854775807 := by unfold maxLen at hcm; omega
  have HT := hid htk
  have HS := hid hsz
  have HNW := hid hnews
  have HNL := hid hN
  have hNcap : N ≤ cap := by omega
  have hlt : i < j := by omega
  have hqq : ¬ ((i : Int) = (j : Int)) := by omega
  have HIJ := hid hij
  clear q2 hij hW1 hb1 hcell hnc4 hg htk hsz hnews hnl hown hone hs1 hN hnc
  go_enter Tryz.func28, Tryz.ntmps28
  go_wp2_with fail
  go_region_law (refine step_append_room rfl (.tmp 22) (.tmp 25) 67 rfl 73 i0 4 Tryz.underlying67 hi0 hz1 g 0 i cap (by simp [Act.eval, Act.put]) A (N - j) (cap - j) news (by simp [Act.eval, Act.put, hA]) s1.out hsrc.out s2.out (by omega) s3.out ?_; rw [← hW.out])
  all_goals
    go_wp2
    go_ret
    obtain rfl := HNL.out
    have hij := HIJ.out
    have el : (ps.eraseIdx i).length = i + (ps.length - j) := by rw [List.length_eraseIdx_of_lt (by omega)]; omega
    have hnl : news.length = (ps.length - j) * 4 := s1.out
    have htk := HT.out
    have hsz := HS.out
    have e1 := over_list news (0 + i * 4) cur (by omega)
    have z1 : (over cur (0 + i * 4) news).size = cap * 4 := by rw [over_size]; exact hsz
    have e2 := over_list (Builtin.zeroCells mbZ (ps.length - (i + (ps.length - j)))).toList ((i + (ps.length - j)) * 4) (over cur (0 + i * 4) news) (by rw [mbZ_len, z1]; omega)
    have ecur : cur.toList.take (i * 4) = mbCells (ps.take i) := by
      rw [mbCells_take, ← htk, List.take_take, Nat.min_eq_left (by omega)]
    have hcl : (mbCells (ps.take i)).length = i * 4 := by rw [mbCells_len, List.length_take, Nat.min_eq_left (by omega)]
    refine ⟨rfl, ⟨mbCells_len _, Or.inr ⟨g, cap, over (over cur (0 + i * 4) news) ((i + (ps.length - j)) * 4) (Builtin.zeroCells mbZ (ps.length - (i + (ps.length - j)))).toList, by rw [el], hB, heap_over g _ _ _ _ _ W1 HB1.out, by rw [el]; omega, hcm, by rw [over_size]; exact z1, ?_⟩⟩, ?_⟩
    · rw [el, e2, e1, Nat.zero_add, ecur, HNW.out, erase_split, mbCells_append, ← hij]
      have hA1 : (mbCells (ps.take i) ++ mbCells (ps.drop j)).length = (i + (ps.length - j)) * 4 := by
        rw [List.length_append, hcl, ← HNW.out, hnl]; omega
      have h2 : (mbCells (ps.take i) ++ mbCells (ps.drop j) ++ cur.toList.drop (i * 4 + (mbCells (ps.drop j)).length)).take ((i + (ps.length - j)) * 4) = mbCells (ps.take i) ++ mbCells (ps.drop j) := by
        rw [List.take_append_of_le_length (by omega), List.take_of_length_le (by omega)]
      rw [h2, List.append_assoc, List.take_append_of_le_length (by omega), List.take_of_length_le (by omega)]
    · have m1 := meta_over g news (0 + i * 4) w.drew
      have m2 := meta_over g (Builtin.zeroCells mbZ (ps.length - (i + (ps.length - j)))).toList ((i + (ps.length - j)) * 4) W1
      have hw := hW.out
      refine ⟨?_, ?_, ?_, ?_, fun k hk hne => ?_⟩
      · rw [m2.1, hw, m1.1]; rfl
      · rw [m2.2.1, hw, m1.2.1]; rfl
      · rw [m2.2.2, hw, m1.2.2]; rfl
      · rw [size_over, hw, size_over]; exact Nat.le_refl _
      · have hk' : k ≠ g := fun e => hne (by rw [e])
        rw [other_over g _ _ _ k hk', hw, other_over g _ _ _ k hk']
        rfl
end Go.Proofs.YtejbififfceamaaGreatDoor
namespace Go.Proofs.YtejbififfceamaaGreatDoor
set_option linter.unusedSimpArgs false
set_option linter.unusedVariables false
set_option maxRecDepth 100000
open Go.RowKit
theorem del_erase : ∀ (ms : List Mbr) (n : Int) (k : Nat) (m : Mbr), ms.Pairwise (fun a b => a.id < b.id) → ms[k]? = some m → (m.id : Int) = n → ms.filter (fun m => !((m.id : Int) == n)) = ms.eraseIdx k
  | [], n, k, m, _, h, _ => by simp at h
  | a :: r, n, 0, m, hp, h, hn => by
    simp at h
    subst h
    rw [List.pairwise_cons] at hp
    have e1 : (!((a.id : Int) == n)) = false := by simp [hn]
    have e2 : r.filter (fun m => !((m.id : Int) == n)) = r := by
      rw [List.filter_eq_self]
      intro b hb
      have := hp.1 b hb
      have h3 : ¬ (b.id : Int) = n := by omega
      simp [h3]
    rw [List.filter_cons, e1]
    simp [e2]
  | a :: r, n, k + 1, m, hp, h, hn => by
    rw [List.pairwise_cons] at hp
    have hm : m ∈ r := List.mem_of_getElem? (by simpa using h)
    have := hp.1 m hm
    have h3 : ¬ (a.id : Int) = n := by omega
    have e1 : (!((a.id : Int) == n)) = true := by simp [h3]
    rw [List.filter_cons, e1]
    simp only [if_true, List.eraseIdx_cons_succ]
    rw [del_erase r n k m hp.2 (by simpa using h) hn]
theorem map_erase {α β : Type} (f : α → β) : ∀ (l : List α) (k : Nat), (l.eraseIdx k).map f = (l.map f).eraseIdx k
  | [], k => by simp
  | a :: r, 0 => rfl
  | a :: r, k + 1 => by simp [map_erase f r k]
end Go.Proofs.YtejbififfceamaaGreatDoor
namespace Go.Proofs.YtejbififfceamaaGreatDoor
set_option linter.unusedSimpArgs false
set_option linter.unusedVariables false
set_option maxRecDepth 100000
open Go.RowKit
set_option maxHeartbeats 1000000 in
theorem lpred_any (m k : Int) (s : ByteArray) (a : Option Addr) (n c : Nat) (d : ByteArray) (nb : Nat) (w : World) (hn : w.cell? ⟨nb, 0, none⟩ = some (.int .i64 k)) (hb : nb < w.heap.size) :
    Calls Tryz.prog 27 #[.agg #[.int .i64 m, .string s, .slice a n c, .string d], .pointer (some ⟨nb, 0, none⟩)] w fun e w' => e = .returned (.bool (m == k)) ∧ Below w.heap.size w w' := by
  have k0 : ∀ o, (w.alloc o).cell? ⟨nb, 0, none⟩ = some (.int .i64 k) := fun o => (World.cell?_of_block (Below.heap_alloc _ _ _ hb)).trans hn
  go_enter Tryz.func27, Tryz.ntmps27
  go_wp2
  go_ret
  exact ⟨rfl, (Below.refl _ _).alloc (Nat.le_refl _) _⟩
/-- Where a number is: at a place, or nowhere. -/
def PlcL (ms : List Mbr) (n : Int) : Option Nat → Prop
  | none => ∀ (j : Nat) m, ms[j]? = some m → ¬ (m.id : Int) = n
  | some i => ∃ m, ms[i]? = some m ∧ (m.id : Int) = n
def plcL : Option Nat → Int
  | none => -1
  | some i => (i : Int)
set_option maxHeartbeats 4000000 in
theorem lidx_any (ps : List (Mbr × Value)) (v : Value) (B : Nat) (w : World) (hown : MbOwn w B v ps) (hpv : ∀ x ∈ ps, ∃ a n c, x.2 = .slice a n c) (hl : ps.length ≤ 12) (k : Int) (nb : Nat) (hn : w.cell? ⟨nb, 0, none⟩ = some (.int .i64 k)) (hb : nb < w.heap.size) :
    Calls Tryz.prog 26 #[v, .func (.func 27) #[] #[.pointer (some ⟨nb, 0, none⟩)]] w fun e w' => ∃ r, e = .returned (.int .i64 (plcL r)) ∧ PlcL (ps.map (·.1)) k r ∧ Below w.heap.size w w' := by
  obtain ⟨a, cap, rfl, hat⟩ := MbOwn.at hown
  have HAT := hid hat
  have HO := hid hown
  have HPV := hid hpv
  have HP : Hid (∀ (m : Int) s a n c d w', Below w.heap.size w w' → _) := fun m s a n c d w' hb' => lpred_any m k s a n c d nb w' ((hb'.cell (p := ⟨nb, 0, none⟩) hb).trans hn) (Nat.lt_of_lt_of_le hb hb'.size)
  have HI0 : Hid (Below w.heap.size w w) := Below.refl _ _
  clear hat hown hpv hn
  go_enter Tryz.func26, Tryz.ntmps26
  go_wp2_with fail
  go_loopw [5, 8] (fun _ v wr => ∃ i : Nat, i ≤ ps.length ∧ v = .int .i64 (i : Int) ∧ Hid (Below w.heap.size w wr) ∧ Hid (∀ (j : Nat) x, j < i → ps[j]? = some x → ¬ (x.1.id : Int) = k)) (fun _ v _ => ps.length - (intOf v).toNat)
  case atStart => exact ⟨0, by omega, rfl, HI0, fun j x hj => by omega⟩
  case round =>
    clear HI0
    obtain ⟨i, hi, rfl, HA, HN⟩ := hrel
    by_cases hil : i < ps.length
    · obtain ⟨x, hx⟩ : ∃ x, ps[i]? = some x := ⟨ps[i], List.getElem?_eq_getElem hil⟩
      have i0 : (0 : Int) ≤ (i : Int) := by omega
      have i1 : (i : Int) < (ps.length : Int) := by omega
      obtain ⟨b, hbb⟩ : ∃ b, a = some ⟨b, 0, none⟩ := by
        rcases HAT.out with h | ⟨b, h, _⟩
        · rw [h] at hil; simp at hil
        · exact ⟨b, h⟩
      subst hbb
      have hbw : b < w.heap.size := (owns_block HO.out (g := b) rfl).2.1
      have hmat : MbAt w b ps := by
        rcases HAT.out with h | ⟨b', h1, h2⟩
        · rw [h] at hil; simp at hil
        · injection h1 with h1
          injection h1 with h1 _ _
          rw [h1]
          exact h2
      obtain ⟨za, zn, zc, hz⟩ := HPV.out x (List.mem_of_getElem? hx)
      have HX := hid hx
      obtain ⟨y0, y1, y2, y3⟩ := hmat i x hx
      have x0 := (HA.out.cell (p := ⟨b, i * 4, none⟩) hbw).trans y0
      have x1 := (HA.out.cell (p := ⟨b, i * 4 + 1, none⟩) hbw).trans y1
      have x2 := (HA.out.cell (p := ⟨b, i * 4 + 2, none⟩) hbw).trans y2
      have x3 := (HA.out.cell (p := ⟨b, i * 4 + 3, none⟩) hbw).trans y3
      rw [hz] at x2
      have CP := hid (HP.out x.1.id x.1.text za zn zc x.1.need wr HA.out)
      clear hx hz hmat y0 y1 y2 y3
      by_cases he : (x.1.id : Int) = k
      · have hq : ((x.1.id : Int) == k) = true := by rw [beq_iff_eq]; exact he
        rw [hq] at CP
        have HZ : Hid (PlcL (ps.map (·.1)) k (some i)) := ⟨x.1, by rw [List.getElem?_map, HX.out]; rfl, he⟩
        clear he hq
        go_wp2_with fail
        refine Calls.mono CP.out ?_
        rintro e w2 ⟨rfl, hb2⟩
        have HB2 := hid (HA.out.trans (hb2.mono HA.out.size))
        clear hb2
        go_wp2
        go_ret
        exact ⟨some i, rfl, HZ.out, HB2.out⟩
      · have hq : ((x.1.id : Int) == k) = false := by rw [beq_eq_false_iff_ne]; exact he
        rw [hq] at CP
        have HN2 : Hid (∀ (j : Nat) x, j < i + 1 → ps[j]? = some x → ¬ (x.1.id : Int) = k) := fun j x' hj hx' => by
          rcases Nat.lt_or_ge j i with h1 | h1
          · exact HN.out j x' h1 hx'
          · obtain rfl : j = i := by omega
            rw [HX.out] at hx'
            obtain rfl := Option.some.inj hx'
            exact he
        clear he hq HN
        go_wp2_with fail
        refine Calls.mono CP.out ?_
        rintro e w2 ⟨rfl, hb2⟩
        have HB2 := hid (HA.out.trans (hb2.mono HA.out.size))
        clear hb2 HA
        go_wp2
        exact ⟨⟨i + 1, by omega, by go_num, HB2, HN2⟩, by simp [intOf]; omega⟩
    · have g1 : ¬ (i : Int) < (ps.length : Int) := by omega
      have HZ : Hid (PlcL (ps.map (·.1)) k none) := fun j m hm => by
        rw [List.getElem?_map] at hm
        cases hx : ps[j]? with
        | none => rw [hx] at hm; cases hm
        | some x =>
          rw [hx] at hm
          obtain rfl := Option.some.inj hm
          exact HN.out j x (by have := (List.getElem?_eq_some_iff.1 hx).1; omega) hx
      clear HN
      go_wp2
      go_ret
      exact ⟨none, rfl, HZ.out, HA.out⟩
set_option maxHeartbeats 1000000 in
theorem lremove_no (mb : Nat) (v : Value) (ps : List (Mbr × Value)) (σ : SetS) (w : World) (h : MsI mb v ps σ w) (hσ : σ.Ok) (n : Int) (hno : ∀ (j : Nat) m, σ.ms[j]? = some m → ¬ (m.id : Int) = n) :
    Calls Tryz.prog 11 #[.pointer (some ⟨mb, 0, none⟩), .int .i64 n] w fun x w' => x = .returned (.iface 32 (.int .i64 4)) ∧ Below w.heap.size w w' := by
  obtain ⟨c0, -⟩ := h.cells
  have hmb := hp_lt h.box
  have k0 : ∀ o, (w.alloc o).cell? ⟨mb, 0, none⟩ = some v := fun o => (World.cell?_of_block (Below.heap_alloc _ _ _ hmb)).trans c0
  have HIX : Hid (∀ nb w', Below w.heap.size w w' → w'.cell? ⟨nb, 0, none⟩ = some (.int .i64 n) → nb < w'.heap.size → _) := fun nb w' hb hc hlt => lidx_any ps v 0 w' (h.below hb).row (fun x hx => by obtain ⟨a, c, e⟩ := owns_form (h.pats x hx); exact ⟨a, _, c, e⟩) (by rw [h.len]; exact hσ.len) n nb hc hlt
  have CX := hid (HIX.out w.heap.size (w.alloc (.cells #[.int .i64 n] 3)) ((Below.refl _ _).alloc (Nat.le_refl _) _) (by rw [World.cell?_alloc_at (w := w) _ _ w.heap.size 0 (by simp)]; rfl) (by simp))
  have HM := hid h.ms
  have HN := hid hno
  have hmf : ∀ (fn : Fn) (first cap : Array Value) (w : World), (Instr.makeFunc fn first cap).run Tryz.prog w = .ok (.func fn first cap) w := fun _ _ _ _ => rfl
  obtain ⟨a, cap, rfl, -⟩ := MbOwn.at h.row
  clear h hno HIX hσ
  go_enter Tryz.func11, Tryz.ntmps11
  go_wp2_with fail
  refine Calls.mono CX.out ?_
  rintro e w1 ⟨r, rfl, hr, hb⟩
  have hb' := hid (((Below.refl w.heap.size w).alloc (Nat.le_refl _) (.cells #[.int .i64 n] 3)).trans (hb.mono (by simp)))
  cases r with
  | some k =>
    exfalso
    obtain ⟨m, h1, h2⟩ := hr
    rw [← HM.out] at h1
    exact HN.out k m h1 h2
  | none =>
    rw [show plcL none = -1 from rfl]
    clear hr hb CX
    go_wp2
    go_ret
    exact ⟨rfl, hb'.out⟩
set_option maxHeartbeats 4000000 in
theorem lremove_yes (mb : Nat) (v : Value) (ps : List (Mbr × Value)) (σ : SetS) (w : World) (h : MsI mb v ps σ w) (hσ : σ.Ok) (n : Int) (i0 : Nat) (m0 : Mbr) (hm0 : σ.ms[i0]? = some m0) (hn : (m0.id : Int) = n) :
    Calls Tryz.prog 11 #[.pointer (some ⟨mb, 0, none⟩), .int .i64 n] w fun x w' => x = .returned .nilIface ∧ ∃ v' ps', MsI mb v' ps' (σ.del n) w' ∧ But (FootL mb v ps) w w' ∧ Onto (FootL mb v ps) (FootL mb v' ps') w := by
  obtain ⟨c0, -⟩ := h.cells
  have hmb := hp_lt h.box
  have k0 : ∀ o, (w.alloc o).cell? ⟨mb, 0, none⟩ = some v := fun o => (World.cell?_of_block (Below.heap_alloc _ _ _ hmb)).trans c0
  have HIX : Hid (∀ nb w', Below w.heap.size w w' → w'.cell? ⟨nb, 0, none⟩ = some (.int .i64 n) → nb < w'.heap.size → _) := fun nb w' hb hc hlt => lidx_any ps v 0 w' (h.below hb).row (fun x hx => by obtain ⟨a, c, e⟩ := owns_form (h.pats x hx); exact ⟨a, _, c, e⟩) (by rw [h.len]; exact hσ.len) n nb hc hlt
  have CX := hid (HIX.out w.heap.size (w.alloc (.cells #[.int .i64 n] 3)) ((Below.refl _ _).alloc (Nat.le_refl _) _) (by rw [World.cell?_alloc_at (w := w) _ _ w.heap.size 0 (by simp)]; rfl) (by simp))
  have HM := hid h.ms
  have H := hid h
  have Hσ := hid hσ
  have HM0 := hid hm0
  have HN := hid hn
  have h12 : ps.length ≤ 12 := by rw [h.len]; exact hσ.len
  have hmf : ∀ (fn : Fn) (first cap : Array Value) (w : World), (Instr.makeFunc fn first cap).run Tryz.prog w = .ok (.func fn first cap) w := fun _ _ _ _ => rfl
  obtain ⟨a, cap, rfl, -⟩ := MbOwn.at h.row
  clear h hm0 hn HIX hσ
  go_enter Tryz.func11, Tryz.ntmps11
  go_wp2_with fail
  refine Calls.mono CX.out ?_
  rintro e w1 ⟨r, rfl, hr, hb⟩
  have hb1 := ((Below.refl w.heap.size w).alloc (Nat.le_refl _) (.cells #[.int .i64 n] 3)).trans (hb.mono (by simp))
  have HB1 := hid hb1
  have H1 := hid (H.out.below hb1)
  cases r with
  | none =>
    exfalso
    rw [← HM.out] at hr
    exact hr i0 m0 HM0.out HN.out
  | some i =>
    rw [show plcL (some i) = (i : Int) from rfl]
    have HR := hid hr
    obtain ⟨m, hm1, hm2⟩ := hr
    have hil : i < ps.length := by
      rw [List.getElem?_map] at hm1
      cases hx : ps[i]? with
      | none => rw [hx] at hm1; cases hm1
      | some x => exact (List.getElem?_eq_some_iff.1 hx).1
    obtain ⟨b, hbb⟩ : ∃ b, a = some ⟨b, 0, none⟩ := by
      obtain ⟨a', cap', e, hcase⟩ := MbOwn.at H1.out.row
      injection e with e1 _ _
      rcases hcase with h | ⟨b, h, _⟩
      · rw [h] at hil; simp at hil
      · exact ⟨b, by rw [e1]; exact h⟩
    subst hbb
    obtain ⟨d0, -, -, -, d4⟩ := H1.out.cells
    have f0 := d4 0
    have CD := hid (ldel_any 0 b cap ps.length ps w1 H1.out.row (fun x hx => by obtain ⟨a, c, e⟩ := owns_form (H1.out.pats x hx); rw [e]; rfl) i (i + 1) rfl (by omega))
    have hge : ¬ (i : Int) < 0 := by omega
    have HIL := hid hil
    obtain ⟨j, hj⟩ : ∃ j, j = i + 1 := ⟨_, rfl⟩
    rw [← hj] at CD
    have hwj : IntKind.i64.wrap ((i : Int) + 1) = (j : Int) := by rw [IntKind.wrap_i64] <;> omega
    obtain ⟨L, hL⟩ : ∃ L, L = i + (ps.length - j) := ⟨_, rfl⟩
    rw [← hL] at CD
    have HL := hid hL
    have HJ := hid hj
    clear hm1 hm2 hb hb1 CX k0 c0 d4 hL hj hil
    go_wp2_with fail
    refine Calls.mono CD.out ?_
    rintro e w2 ⟨rfl, hO, hg⟩
    have hx2 := box_row H1.out.box H1.out.row (by decide) hg
    have p0 := Lib.cell_of_heap hx2 0
    have q0 := Lib.frozen_of_heap hx2 0
    simp only [List.getElem?_toArray, List.getElem?_cons_zero, List.getElem?_cons_succ] at p0
    have HX2 := hid hx2
    have HO := hid hO
    have HG := hid hg
    clear hO hg hx2 CD d0 f0
    go_wp2
    have hg3 := grown_cellR w2 ⟨mb, 0, none⟩ (.slice (some ⟨b, 0, none⟩) L cap)
    have hel : (ps.eraseIdx i).length = L := by rw [List.length_eraseIdx_of_lt HIL.out, HL.out]; have := HIL.out; have := HJ.out; omega
    have hdel : (σ.del n).ms = (ps.eraseIdx i).map (·.1) := by
      obtain ⟨m, h1, h2⟩ := HR.out
      rw [← HM.out] at h1
      rw [map_erase, ← HM.out]
      exact del_erase σ.ms n i m Hσ.out.rise h1 h2
    go_ret
    refine ⟨rfl, .slice (some ⟨b, 0, none⟩) L cap, ps.eraseIdx i, ⟨?_, owns_other HO.out HX2.out (by decide) hg3, fun x hx => ?_, hdel⟩, ?_, ?_⟩
    · simp [World.setCell, Array.getElem?_modify, HX2.out, SetS.del]
    · exact owns_other (owns_row (H1.out.pats x (List.mem_of_mem_eraseIdx hx)) H1.out.row (by decide) HG.out) HX2.out (by decide) hg3
    · exact ((But.below HB1.out).trans (But.grown (F := FootL mb (.slice (some ⟨b, 0, none⟩) ps.length cap) ps) HG.out (fun k e => Or.inr (Or.inl e))) (fun k hk => Or.inl hk)).trans (But.grown hg3 (fun k e => by injection e with e; exact Or.inl e.symm)) (fun k hk => Or.inl hk)
    · rintro k (rfl | hk | ⟨x, hx, hk⟩)
      · exact Or.inl (Or.inl rfl)
      · exact Or.inl (Or.inr (Or.inl hk))
      · exact Or.inl (Or.inr (Or.inr ⟨x, List.mem_of_mem_eraseIdx hx, hk⟩))
/-- Remove, whatever comes of it. -/
theorem lremove_any (mb : Nat) (v : Value) (ps : List (Mbr × Value)) (σ : SetS) (w : World) (h : MsI mb v ps σ w) (hσ : σ.Ok) (n : Int) :
    Calls Tryz.prog 11 #[.pointer (some ⟨mb, 0, none⟩), .int .i64 n] w fun x w' => x = .returned (errV (σ.delE n)) ∧ ∃ v' ps', MsI mb v' ps' (σ.del n) w' ∧ But (FootL mb v ps) w w' ∧ Onto (FootL mb v ps) (FootL mb v' ps') w := by
  cases hh : σ.has n with
  | false =>
    have hn : ∀ (j : Nat) m, σ.ms[j]? = some m → ¬ (m.id : Int) = n := fun j m hm e => by
      unfold SetS.has at hh
      rw [List.any_eq_false] at hh
      exact hh m (List.mem_of_getElem? hm) (by rw [beq_iff_eq]; exact e)
    have e : σ.delE n = 4 := by unfold SetS.delE; rw [hh]; rfl
    rw [e, show errV 4 = .iface 32 (.int .i64 4) from rfl]
    refine (lremove_no mb v ps σ w h hσ n hn).mono ?_
    rintro x w' ⟨rfl, hb⟩
    refine ⟨rfl, v, ps, ?_, But.below hb, fun k hk => Or.inl hk⟩
    rw [SetS.del_no hh]
    exact h.below hb
  | true =>
    obtain ⟨m, hm, hn⟩ : ∃ m ∈ σ.ms, (m.id : Int) = n := by
      unfold SetS.has at hh
      obtain ⟨m, hm, hn⟩ := List.any_eq_true.1 hh
      exact ⟨m, hm, by simpa using hn⟩
    obtain ⟨k, hk⟩ := List.getElem?_of_mem hm
    have e : σ.delE n = 0 := by unfold SetS.delE; rw [hh]; rfl
    rw [e, show errV 0 = .nilIface from rfl]
    exact lremove_yes mb v ps σ w h hσ n k m hk hn
end Go.Proofs.YtejbififfceamaaGreatDoor
