/- The landed sim: the places at which a program comes to its end, handed on one by one. The landed sim: Ends and Longest. -/
import Derived.Test.YtopoiljgghglaaaDoorY16
import Derived.RangeFuncNested
import Derived.RangeFuncBound
import Derived.RangeFuncCalls
import Derived.RangeFuncLeaves
import Derived.Shelf.Abstract
import Derived.Shelf.RegionOpen
import Derived.WalkKit
import Derived.OwnWalkIn
import Derived.TacticsInMore
import Derived.LoopNIn
import Derived.LoopIn
namespace Go.Proofs.YtopoiljgghglaaaDoor
set_option linter.unusedSimpArgs false
set_option linter.unusedVariables false
set_option maxRecDepth 100000
open Go.RowKit Go.Shelf
attribute [local go_sem] Oper.semAt_some
/-- What the loop's body turns: the box bf, and the row that it names. -/
abbrev noX : Nat → Prop := fun _ => False
/-- The box names a row that lies in memory. -/
def Bnd (bf : Nat) (W : World) : Prop := ∀ u k, W.cell? ⟨bf, 0, none⟩ = some u → u.ownBlock = some k → k < W.heap.size
/-- What each round keeps. -/
def Kp2 (bf : Nat) (W W' : World) : Prop := KpF bf noX W W' ∧ (Bnd bf W → Bnd bf W')
theorem Kp2.trans {bf : Nat} {A B C : World} (h : Kp2 bf A B) (g : Kp2 bf B C) : Kp2 bf A C := ⟨h.1.trans g.1, fun x => g.2 (h.2 x)⟩
theorem Bnd.below {bf : Nat} {W W' : World} (h : Bnd bf W) (hb : Below W.heap.size W W') (hl : bf < W.heap.size) : Bnd bf W' := fun u k hu hk => by
  rw [hb.cell (p := ⟨bf, 0, none⟩) hl] at hu
  exact Nat.lt_of_lt_of_le (h u k hu hk) hb.size
/-- What is new is not the loop's. -/
theorem frm_new {bf : Nat} {W W' : World} (h : Bnd bf W) (hb : Below W.heap.size W W') (hl : bf < W.heap.size) {k : Nat} (hk : W.heap.size ≤ k) : ¬ Frm bf noX W' k := by
  rintro ⟨_, h1 | h1 | ⟨u, h1, h2⟩⟩
  · exact h1
  · omega
  · rw [hb.cell (p := ⟨bf, 0, none⟩) hl] at h1
    have := h u k h1 h2
    omega
/-- What the iterator has of its own. -/
structure ItM (ss : List St) (b off cap : Nat) (s : ByteArray) (bf br : Nat) (w : World) : Prop where
  steps : SsAt w b off ss
  r0 : w.cell? ⟨br, 0, none⟩ = some (.slice (some ⟨b, off, none⟩) ss.length cap)
  r1 : w.cell? ⟨br, 1, none⟩ = some (.string s)
  blt : b < w.heap.size
  fb : ¬ Frm bf noX w b
  fr : ¬ Frm bf noX w br
  bnd : Bnd bf w
  lt : bf < w.heap.size
theorem ItM.below {ss : List St} {b off cap : Nat} {s : ByteArray} {bf br : Nat} {w w' : World} (h : ItM ss b off cap s bf br w) (hb : Below w.heap.size w w') : ItM ss b off cap s bf br w' where
  steps := h.steps.below hb h.blt
  r0 := (hb.cell (p := ⟨br, 0, none⟩) (cell_lt h.r0)).trans h.r0
  r1 := (hb.cell (p := ⟨br, 1, none⟩) (cell_lt h.r0)).trans h.r1
  blt := Nat.lt_of_lt_of_le h.blt hb.size
  fb := (KpF.below noX hb h.lt).free h.blt h.fb
  fr := (KpF.below noX hb h.lt).free (cell_lt h.r0) h.fr
  bnd := h.bnd.below hb h.lt
  lt := Nat.lt_of_lt_of_le h.lt hb.size
theorem SsAt.kp {bf : Nat} {X : Nat → Prop} {w w' : World} {b off : Nat} {ss : List St} (h : SsAt w b off ss) (hk : KpF bf X w w') (hn : ¬ Frm bf X w b) : SsAt w' b off ss := fun i n hi => by
  obtain ⟨h0, h1, h2, h3, h4, h5, h6⟩ := h i n hi
  exact ⟨hk.cell h0 hn, hk.cell h1 hn, hk.cell h2 hn, hk.cell h3 hn, hk.cell h4 hn, hk.cell h5 hn, hk.cell h6 hn⟩
theorem IsAt.kp {bf : Nat} {X : Nat → Prop} {w w' : World} {b off : Nat} {l : List Nat} (h : IsAt w b off l) (hk : KpF bf X w w') (hn : ¬ Frm bf X w b) : IsAt w' b off l := fun i n hi => hk.cell (h i n hi) hn
theorem ItM.kp {ss : List St} {b off cap : Nat} {s : ByteArray} {bf br : Nat} {w w' : World} (h : ItM ss b off cap s bf br w) (hk : Kp2 bf w w') : ItM ss b off cap s bf br w' where
  steps := h.steps.kp hk.1 h.fb
  r0 := hk.1.cell h.r0 h.fr
  r1 := hk.1.cell h.r1 h.fr
  blt := Nat.lt_of_lt_of_le h.blt hk.1.size
  fb := hk.1.free h.blt h.fb
  fr := hk.1.free (cell_lt h.r0) h.fr
  bnd := hk.2 h.bnd
  lt := Nat.lt_of_lt_of_le h.lt hk.1.size
theorem abide_below {β : Type} {B : Nat} {J : β → World → Prop} (hJ : AbidesFrom B J) {x : β} {W W' : World} (h : J x W) (hb : Below W.heap.size W W') : J x W' :=
  hJ x W W' none h ⟨hb.os, hb.tape, hb.output, hb.size, fun k hk _ => hb.block k hk⟩ (fun r e => by cases e)
/-- What is begun at a place. -/
def ItB (ss : List St) (s : List UInt8) (i a : Nat) (vb : Value) (w : World) : Prop := ∃ bg, IsIn w vb bg ∧ bg.length ≤ 200 ∧ (∀ x ∈ bg, x < ss.length) ∧ Bgn ss s i a bg
set_option maxHeartbeats 8000000 in
theorem iter_any (n : Nat) (hn : 1 ≤ n) (ss : List St) (hf : stepsF ss = 0) (hok : SsOk ss) (b off cap : Nat) (s : ByteArray) (hs : s.size ≤ 400) (i : Nat) (hi : i ≤ s.size) (l : List Nat) (hl : RunR ss s.data.toList i l) (bf ba br : Nat) (w : World) (hM : ItM ss b off cap s bf br w) (hba : w.cell? ⟨ba, 0, none⟩ = some (.int .i64 (i : Int))) :
    SeqStopsK Fence.wide n Tryd.prog 37 #[.pointer (some ⟨ba, 0, none⟩), .pointer (some ⟨br, 0, none⟩)] (fun x : Nat => #[.int .i64 (x : Int)]) (Kp2 bf) (fun xs => xs = l) (fun _ => True) (l.length + 1) w := by
  intro lp J Jx W hBW hJ hJx hY h0
  obtain ⟨h200, hpos, hst⟩ := stepsF_zero hf
  have hMW := hM.below hBW
  have hlen : s.data.toList.length = s.size := by simp
  obtain ⟨W0, hw0⟩ : ∃ W0, W.alloc (.cells #[.int .i64 0] 3) = W0 := ⟨_, rfl⟩
  have hB0 : Below W.heap.size W W0 := by rw [← hw0]; exact (Below.refl _ _).alloc (Nat.le_refl _) _
  have ca : W0.cell? ⟨ba, 0, none⟩ = some (.int .i64 (i : Int)) := by
    have h1 := (hBW.cell (p := ⟨ba, 0, none⟩) (cell_lt hba)).trans hba
    exact (hB0.cell (p := ⟨ba, 0, none⟩) (cell_lt h1)).trans h1
  have hB1 : ItB ss s.data.toList i i (.slice (some ⟨W.heap.size, 0, none⟩) 1 1) W0 := by
    rw [← hw0]
    refine ⟨[0], is_new W [0] _ rfl (by unfold maxLen; simp), by simp, fun x hx => by rw [List.mem_singleton.1 hx]; exact hpos, bgn_init _ _ _ (by omega)⟩
  have hge : ∀ j ∈ l, i ≤ j := fun j hj => by
    obtain ⟨k, hr, _⟩ := (run_mem (by omega) hl j).1 hj
    exact (hr.le (by omega)).1
  have H0 : Hid (∃ a : Nat, i ≤ a ∧ (i : Int) = (a : Int) ∧ ItB ss s.data.toList i a (.slice (some ⟨W.heap.size, 0, none⟩) 1 1) W0 ∧ J (ahead l a) W0 ∧ ItM ss b off cap s bf br W0) :=
    ⟨i, Nat.le_refl _, rfl, hB1, by rw [ahead_none i hge]; exact abide_below hJ h0 hB0, hMW.below hB0⟩
  have HY := hid hY
  have HJ := hid hJ
  have HJX := hid hJx
  have HL := hid hl
  have HOK := hid hok
  have HF := hid hf
  clear hY hJ hJx hl hok hst h0 hB1 hMW hM hba hBW hge hB0
  refine callsIn_of_wp Tryd.func37 rfl trivial ?_ rfl
  simp only [Tryd.ntmps37, List.size_toArray, List.length_cons, List.length_nil, Nat.reduceAdd, Nat.reduceSub, Array.replicate_succ, Array.replicate_zero, List.push_toArray, List.append_toArray, List.nil_append, List.cons_append]
  gi_wp2
  clear ca hw0
  gi_loopw [4, 5] (fun vb va wr => ∃ a : Nat, i ≤ a ∧ va = .int .i64 (a : Int) ∧ Hid (ItB ss s.data.toList i a vb wr ∧ J (ahead l a) wr ∧ ItM ss b off cap s bf br wr)) (fun _ va _ => s.size + 2 - (intOf va).toNat)
  case atStart =>
    obtain ⟨a, h1, h2, h3⟩ := H0.out
    exact ⟨a, h1, by rw [h2], h3⟩
  case round =>
    clear H0
    obtain ⟨a, hia, rfl, HR⟩ := hrel
    obtain ⟨⟨bg, hbI, hbl, hbx, hbB⟩, hj, hM⟩ := HR.out
    by_cases hb0 : bg = []
    · -- nothing is begun
      obtain ⟨va, vc, rfl, hvm⟩ := isIn_form hbI
      subst hb0
      have hfin : ahead l a = l := ahead_all a fun j hj => by
        obtain ⟨k, hr, _⟩ := (run_mem (by omega) HL.out j).1 hj
        exact hbB.none hia k j hr
      rw [hfin] at hj
      simp only [List.length_nil] at *
      clear hfin hbI
      gi_wp2
      go_end0
      exact ⟨⟨_, rfl⟩, Or.inl ⟨l, rfl, hj⟩⟩
    obtain ⟨va, vc, rfl, hvm, hb1 | ⟨g, o, rfl, hg, hIA⟩⟩ := hbI
    · exact absurd hb1 hb0
    have hb1 : 0 < bg.length := List.length_pos_iff.2 hb0
    have hal : a ≤ s.size := by
      obtain ⟨x, hx⟩ := List.exists_mem_of_ne_nil bg hb0
      have := (((hbB x).2 ⟨x, hx, .nil _⟩).le (show i ≤ s.data.toList.length by omega)).2
      omega
    have hlp : (0 : Int) < (bg.length : Int) := by omega
    have C1 := hid (reached_any ss b off cap HF.out s hs bg hbx hb1 hbl g o vc a (by omega) wr hM.blt hM.steps hg hIA)
    have r0 := hM.r0
    have r1 := hM.r1
    have HJ0 := hid hj
    have HM0 := hid hM
    have HBB := hid hbB
    clear hj hM hbB hbx hIA HR
    gi_wp2_with fail
    refine ⟨trivial, (callsIn_wide.2 C1.out).mono ?_⟩
    rintro e W1 ⟨gg, cc, F, rfl, hgg, hgl, hFI, hcl, hF2, hFx, hb1⟩
    have hM1 := HM0.out.below hb1
    have hfg : ¬ Frm bf noX W1 gg := frm_new HM0.out.bnd hb1 HM0.out.lt hgg
    have hj1 := abide_below HJ.out HJ0.out hb1
    have q0 := hM1.r0
    have q1 := hM1.r1
    have C2 := hid (isDone_any ss b off cap h200 s F hFx gg 0 cc hF2 W1 hM1.blt hM1.steps hgl hFI)
    have HM1 := hid hM1
    have HFI := hid hFI
    have HFG := hid hfg
    have HJ1 := hid hj1
    have HCL := hid hcl
    have HFX := hid hFx
    have HGL := hid hgl
    clear hM1 hFI hfg hj1 hcl hFx hgl hgg hb1 r0 r1 C1 HM0 HJ0
    gi_wp2_with fail
    refine ⟨trivial, (callsIn_wide.2 C2.out).mono ?_⟩
    rintro e W2 ⟨y, rfl, hyd, hb2⟩
    have HM2 := hid (HM1.out.below hb2)
    have HJ2 := hid (abide_below HJ.out HJ1.out hb2)
    have HFI2 := hid (HFI.out.below hb2 HGL.out)
    have HFG2 := hid ((KpF.below noX hb2 HM1.out.lt).free HGL.out HFG.out)
    have HGL2 : Hid (gg < W2.heap.size) := Nat.lt_of_lt_of_le HGL.out hb2.size
    have HYD : Hid (y = true ↔ a ∈ l) := by
      refine hyd.trans ?_
      rw [run_mem (show i ≤ s.data.toList.length by omega) HL.out a]
      constructor
      · rintro ⟨k, hk, hd⟩
        exact ⟨k, (HBB.out.clo HCL.out k).1 hk, hd⟩
      · rintro ⟨k, hk, hd⟩
        exact ⟨k, (HBB.out.clo HCL.out k).2 hk, hd⟩
    clear hyd hb2 C2 HM1 HJ1 HFI HFG HGL q0 q1
    have HNX : Hid (∀ W3, ItM ss b off cap s bf br W3 → IsAt W3 gg 0 F → gg < W3.heap.size → J (ahead l (a + 1)) W3 → Calls Tryd.prog 40 #[rnV (.slice (some ⟨b, off, none⟩) ss.length cap) s, .slice (some ⟨gg, 0, none⟩) F.length cc, .int .i64 (a : Int)] W3 fun e W4 => ∃ u, e = .returned u ∧ (∃ x y z, u = .slice x y z) ∧ ItB ss s.data.toList i (a + 1) u W4 ∧ J (ahead l (a + 1)) W4 ∧ ItM ss b off cap s bf br W4) := by
      intro W3 hM3 hI3 hg3 hj3
      refine Calls.mono (taken_any ss b off cap HF.out HOK.out s hs F HFX.out gg 0 cc a (by omega) hF2 W3 hM3.blt hM3.steps hg3 hI3) ?_
      rintro e W4 ⟨u, b', rfl, hu, ht, hbl', hbx', hb4⟩
      obtain ⟨x, z, hxz, _⟩ := isIn_form hu
      exact ⟨u, rfl, ⟨x, _, z, hxz⟩, ⟨b', hu, by omega, hbx', HBB.out.next hia HCL.out ht⟩, abide_below HJ.out hj3 hb4, hM3.below hb4⟩
    have hw1 : IntKind.i64.wrap ((a : Int) + 1) = (a : Int) + 1 := by rw [IntKind.wrap_i64]; omega
    cases y with
    | false =>
      have hna : ¬ a ∈ l := fun h => by have := HYD.out.2 h; cases this
      have C3 := hid (HNX.out W2 HM2.out HFI2.out HGL2.out (by rw [ahead_no a hna]; exact HJ2.out))
      have r0 := HM2.out.r0
      have r1 := HM2.out.r1
      clear hna
      gi_wp2_with fail
      refine ⟨fun f h => (by cases h), ?_⟩
      gi_wp2_with fail
      refine ⟨trivial, (callsIn_wide.2 C3.out).mono ?_⟩
      rintro e W4 ⟨u, rfl, ⟨ux, uy, uz, rfl⟩, hB4, hJ4, hM4⟩
      have HR4 : Hid (ItB ss s.data.toList i (a + 1) (.slice ux uy uz) W4 ∧ J (ahead l (a + 1)) W4 ∧ ItM ss b off cap s bf br W4) := ⟨hB4, hJ4, hM4⟩
      clear hB4 hJ4 hM4 r0 r1 C3
      gi_wp2
      exact ⟨⟨a + 1, by omega, by go_num, HR4⟩, by simp [intOf]; omega⟩
    | true =>
      have hya : a ∈ l := HYD.out.1 rfl
      have hpl : (ahead l a).length < l.length + 1 := by
        have : (ahead l a).length ≤ l.length := List.length_filter_le _ _
        omega
      obtain ⟨fn, tmps, assign, body, hy, hRR⟩ := HY.out (ahead l a) a W2 HJ2.out hpl
      have HRR := hid hRR
      have HAH : Hid (ahead l (a + 1) = ahead l a ++ [a]) := ahead_yes HL.out.1 a hya
      clear hya hpl hRR
      gi_wp2_with fail
      refine HRR.out.mono ?_
      rintro e W3 (⟨rfl, hJ3, hK3⟩ | ⟨rfl, hJ3⟩)
      · have hM3 := HM2.out.kp hK3
        have C3 := hid (HNX.out W3 hM3 (HFI2.out.kp hK3.1 HFG2.out) (Nat.lt_of_lt_of_le HGL2.out hK3.1.size) (by rw [HAH.out]; exact hJ3))
        have r0 := hM3.r0
        have r1 := hM3.r1
        clear hM3 hJ3 hK3 hy
        gi_wp2_with fail
        refine ⟨trivial, (callsIn_wide.2 C3.out).mono ?_⟩
        rintro e W4 ⟨u, rfl, ⟨ux, uy, uz, rfl⟩, hB4, hJ4, hM4⟩
        have HR4 : Hid (ItB ss s.data.toList i (a + 1) (.slice ux uy uz) W4 ∧ J (ahead l (a + 1)) W4 ∧ ItM ss b off cap s bf br W4) := ⟨hB4, hJ4, hM4⟩
        clear hB4 hJ4 hM4 r0 r1 C3
        gi_wp2
        exact ⟨⟨a + 1, by omega, by go_num, HR4⟩, by simp [intOf]; omega⟩
      · clear hy
        gi_wp2
        exact bodyPost_ret (results_none rfl _ _ _) rfl ⟨⟨_, rfl⟩, Or.inr ⟨_, trivial, hJ3⟩⟩
end Go.Proofs.YtopoiljgghglaaaDoor
namespace Go.Proofs.YtopoiljgghglaaaDoor
set_option linter.unusedSimpArgs false
set_option linter.unusedVariables false
set_option maxRecDepth 100000
open Go.RowKit Go.Shelf
attribute [local go_sem] Oper.semAt_some
/-- append of one number within a loop over an iterator: the row is the old one or new. -/
theorem wpListIn_append_isr {F : Fence} {n : Nat} {ops : Array Oper} {rest : List Oper} {o : Oper} {a : Act} {Q : Exit → Act → World → Prop} {w : World} (hgd : o.guard = none) (s x : Operand)
    (ho : o.op = .call { callee := .builtin .append, args := #[s, x], argTypes := #[34, 34] })
    (B : Nat) (v : Value) (hs : a.eval s = v) (l : List Nat) (hown : IsOwn w B v l) (g2 c2 y : Nat) (hx : a.eval x = .slice (some ⟨g2, 0, none⟩) 1 c2)
    (hnew : w.cell? ⟨g2, 0, none⟩ = some (.int .i64 (y : Int))) (hlen : l.length ≤ 1000000000) (hbase : B ≤ w.heap.size)
    (h : ∀ g cap w', IsOwn w' B (.slice (some ⟨g, 0, none⟩) (l.length + 1) cap) (l ++ [y]) → w.grownBy w' v.ownBlock → (v.ownBlock = some g ∨ w.heap.size ≤ g) → wpListIn F n Tryd.prog ops Q rest (a.put o.dst (.slice (some ⟨g, 0, none⟩) (l.length + 1) cap)) w') : wpListIn F n Tryd.prog ops Q (o :: rest) a w := by
  have hinfo : (Tryd.prog.info? 3).map (fun i => (i.zero, i.size, i.bytes)) = some (some (.int .i64 0), 1, 8) := by kernel_rfl
  obtain ⟨i0, hi, hz0, hz1, hz2⟩ := info_parts hinfo
  refine wpListIn_plain hgd fun K hK' => ?_
  obtain ⟨g, cap, w', hrun, r1, r2, r3, _⟩ := run_append_lies (P := Tryd.prog) w 34 o.type B 3 i0 _ 1 8 Tryd.underlying34 hi hz0 hz1 hz2 rfl (by decide) v l.length (isCells l) hown ⟨g2, 0, none⟩ 1 c2 (isCells [y]) rfl (by
    intro j u hj
    cases j with
    | zero =>
      simp [isCells] at hj
      subst hj
      rw [Addr.add_lit]
      exact hnew
    | succ j => simp [isCells] at hj) (by simp [isCells, Value.oneCell']) (by omega) (by unfold maxLen; omega) (by omega) hbase _ rfl
  unfold Oper.wpIn
  refine ⟨?_, ?_⟩
  · simp [Oper.about, ho, resolve, Target.leads, Sem.run_pure]
  · rw [Oper.semAt_plain F _ _ (by rw [ho]; intro c hc'; cases hc')]
    simp [execOp, ho, resolve, invoke, builtin, hs, hx, hrun, Result.andThen]
    refine hK' _ _ (h g cap w' ?_ r2 (r3.imp id (fun e => by omega)))
    unfold IsOwn
    simpa [isCells] using r1
/-- The iterator's value, and where it lies. -/
theorem ends_call (v : Value) (s : ByteArray) (i : Int) (w : World) :
    Calls Tryd.prog 20 #[rnV v s, .int .i64 i] w fun e w' => e = .returned (.func (.func 37) #[] #[.pointer (some ⟨w.heap.size + 1, 0, none⟩), .pointer (some ⟨w.heap.size, 0, none⟩)]) ∧ w' = (w.alloc (.cells #[v, .string s] 60)).alloc (.cells #[.int .i64 i] 3) := by
  go_enter Tryd.func20, Tryd.ntmps20
  go_wp2
  go_ret
  exact ⟨rfl, rfl⟩
theorem enters_iter : ∀ args w, (callFunc 37 args).run Tryd.prog w = .ok (.enter 37 args) w := fun _ _ => by kernel_rfl
/-- The world in which the loop begins: box bf, and behind it the iterator's two. -/
theorem itM_new (ss : List St) (b off cap : Nat) (s : ByteArray) (i : Int) (w : World) (c : Value) (t : TypeId) (hc : c.ownBlock = none) (hlt : b < w.heap.size) (hN : SsAt w b off ss) (W : World) (hW : W = ((w.alloc (.cells #[c] t)).alloc (.cells #[.slice (some ⟨b, off, none⟩) ss.length cap, .string s] 60)).alloc (.cells #[.int .i64 i] 3)) :
    ItM ss b off cap s w.heap.size (w.heap.size + 1) W ∧ W.cell? ⟨w.heap.size + 1 + 1, 0, none⟩ = some (.int .i64 i) ∧ Boxed W w.heap.size t c ∧ Below w.heap.size w W ∧ W.heap.size = w.heap.size + 3 := by
  subst hW
  have key : ∀ (W : World) (o : Obj) (k : Nat) (x : Obj), W.heap[k]? = some x → (W.alloc o).heap[k]? = some x := fun W o k x h => (Below.heap_alloc W o k (heap_lt h)).trans h
  have new : ∀ (W : World) (o : Obj) (k : Nat), k = W.heap.size → (W.alloc o).heap[k]? = some o := fun W o k e => e ▸ World.alloc_heap_new W o
  have h0 : (((w.alloc (.cells #[c] t)).alloc (.cells #[.slice (some ⟨b, off, none⟩) ss.length cap, .string s] 60)).alloc (.cells #[.int .i64 i] 3)).heap[w.heap.size]? = some (.cells #[c] t (0, 0)) := key _ _ _ _ (key _ _ _ _ (new _ _ _ rfl))
  have h1 : (((w.alloc (.cells #[c] t)).alloc (.cells #[.slice (some ⟨b, off, none⟩) ss.length cap, .string s] 60)).alloc (.cells #[.int .i64 i] 3)).heap[w.heap.size + 1]? = some (.cells #[.slice (some ⟨b, off, none⟩) ss.length cap, .string s] 60 (0, 0)) := key _ _ _ _ (new _ _ _ (by simp))
  have h2 : (((w.alloc (.cells #[c] t)).alloc (.cells #[.slice (some ⟨b, off, none⟩) ss.length cap, .string s] 60)).alloc (.cells #[.int .i64 i] 3)).heap[w.heap.size + 1 + 1]? = some (.cells #[.int .i64 i] 3 (0, 0)) := new _ _ _ (by simp)
  have hB : Below w.heap.size w (((w.alloc (.cells #[c] t)).alloc (.cells #[.slice (some ⟨b, off, none⟩) ss.length cap, .string s] 60)).alloc (.cells #[.int .i64 i] 3)) := (((Below.refl _ _).alloc (Nat.le_refl _) _).alloc (by simp) _).alloc (by simp; omega) _
  have hbox : Boxed (((w.alloc (.cells #[c] t)).alloc (.cells #[.slice (some ⟨b, off, none⟩) ss.length cap, .string s] 60)).alloc (.cells #[.int .i64 i] 3)) w.heap.size t c := h0
  have hf : ∀ k, Frm w.heap.size noX (((w.alloc (.cells #[c] t)).alloc (.cells #[.slice (some ⟨b, off, none⟩) ss.length cap, .string s] 60)).alloc (.cells #[.int .i64 i] 3)) k → k = w.heap.size := fun k hk => by
    obtain ⟨_, h | h | ⟨u, h, h'⟩⟩ := hk
    · exact h.elim
    · exact h
    · rw [hbox.cell] at h
      obtain rfl := Option.some.inj h
      rw [hc] at h'
      cases h'
  refine ⟨⟨hN.below hB hlt, (Lib.cell_of_heap h1 0).trans rfl, (Lib.cell_of_heap h1 1).trans rfl, by simp; omega, fun h => ?_, fun h => ?_, fun u k hu hk => ?_, by simp; omega⟩, (Lib.cell_of_heap h2 0).trans rfl, hbox, hB, by simp⟩
  · have := hf _ h
    omega
  · have := hf _ h
    omega
  · rw [hbox.cell] at hu
    obtain rfl := Option.some.inj hu
    rw [hc] at hk
    cases hk
theorem run_len {ss : List St} {s : List UInt8} {i : Nat} {l : List Nat} (hs : s.length ≤ 400) (hl : RunR ss s i l) : l.length ≤ 401 := by
  refine nodup_le 401 l (hl.1.imp (fun h => Nat.ne_of_lt h)) fun x hx => ?_
  obtain ⟨q, _, _, rfl⟩ := (hl.2 x).1 hx
  have := Nat.mod_lt q (show 0 < s.length + 1 by omega)
  omega
theorem kp2_obj {bf B : Nat} (hb : bf < B) (W : World) (l : Nat) (o o' : Obj) (hl : B ≤ l) (h : W.heap[l]? = some o) (ho : o.isCells = false) (_ : o.isWalk = false) : Kp2 bf W (W.putObj l o') := by
  refine ⟨KpF.obj noX W l o o' (by omega) h ho, fun hB u k hu hk => ?_⟩
  have e : (W.putObj l o').heap[bf]? = W.heap[bf]? := World.putObj_heap_other (by omega)
  have : W.cell? ⟨bf, 0, none⟩ = some u := by
    unfold World.cell? at hu ⊢
    simp only [e] at hu
    exact hu
  have := hB u k this hk
  simpa using this
theorem kp2_append {bf : Nat} {W W1 : World} {o : Obj} {v : Value} {pre : List Nat} {x g cap : Nat} (hv : Boxed W bf 34 v) (hrow : IsOwn W bf v pre) (hgr : (W.alloc o).grownBy W1 v.ownBlock) (hown : IsOwn W1 bf (.slice (some ⟨g, 0, none⟩) (pre.length + 1) cap) (pre ++ [x])) (hg : v.ownBlock = some g ∨ (W.alloc o).heap.size ≤ g) : Kp2 bf W (W1.setCell ⟨bf, 0, none⟩ (.slice (some ⟨g, 0, none⟩) (pre.length + 1) cap)) := by
  have hte : 34 ≠ 3 := by decide
  have hv1 : Boxed (W.alloc o) bf 34 v := hv.alloc o
  have hv2 : Boxed W1 bf 34 v := hv1.kept hgr (hv.not_row hte hrow)
  refine ⟨(KpF.below noX ((Below.refl _ _).alloc (Nat.le_refl _) o) hv.lt).trans (KpF.grow hv1 hgr (fun k e hk => ?_) (fun k e => ?_)), fun _ u k hu hk => ?_⟩
  · exact hv.not_row hte hrow (by rw [e, hk])
  · injection e with e
    simp only at e
    subst e
    exact hg
  · rw [(hv2.set _).cell] at hu
    obtain rfl := Option.some.inj hu
    have := (own_base hown k hk).2
    simpa using this
set_option maxHeartbeats 8000000 in
theorem sends_at (ss : List St) (hf : stepsF ss = 0) (hok : SsOk ss) (b off cap : Nat) (s : ByteArray) (hs : s.size ≤ 400) (i : Nat) (hi : i ≤ s.size) (l : List Nat) (hl : RunR ss s.data.toList i l) (w : World) (hlt : b < w.heap.size) (hN : SsAt w b off ss) :
    CallsIn Fence.wide 5 Tryd.prog 7 #[.slice (some ⟨b, off, none⟩) ss.length cap, .string s, .int .i64 (i : Int)] w fun e w' => ∃ u, e = .returned (.tuple #[u, .nilIface]) ∧ Below w.heap.size w w' ∧ IsIn w' u l := by
  have h200 := (stepsF_zero hf).1
  have HC := hid (scheck_any ss (.slice (some ⟨b, off, none⟩) ss.length cap) s (i : Int) w ⟨_, cap, rfl, by unfold maxLen; omega, Or.inr ⟨b, off, rfl, hlt, hN⟩⟩ (by unfold maxLen; omega))
  rw [show simE ss s.size (i : Int) = 0 from (simE_zero ss s.size i).2 ⟨hf, hs, by omega, by omega⟩, show errV 0 = .nilIface from rfl] at HC
  refine callsIn_of_wp_marks Tryd.func7 rfl trivial ?_ rfl
  simp only [Tryd.ntmps7, List.size_toArray, List.length_cons, List.length_nil, Nat.reduceAdd, Nat.reduceSub, Array.replicate_succ, Array.replicate_zero, List.push_toArray, List.append_toArray, List.nil_append, List.cons_append]
  gi_wp2_with fail
  refine ⟨trivial, (callsIn_wide.2 HC.out).mono ?_⟩
  rintro e w1 ⟨rfl, hb1⟩
  have HE := hid (ends_call (.slice (some ⟨b, off, none⟩) ss.length cap) s (i : Int) (w1.alloc (.cells #[.slice none 0 0] 34)))
  gi_wp2_with fail
  refine ⟨trivial, (callsIn_wide.2 HE.out).mono ?_⟩
  rintro e w3 ⟨rfl, hw3⟩
  obtain ⟨hM, hba, hbx, hB3, hsz⟩ := itM_new ss b off cap s (i : Int) w1 (.slice none 0 0) 34 rfl (Nat.lt_of_lt_of_le hlt hb1.size) (hN.below hb1 hlt) w3 hw3
  clear HC HE hw3
  gi_wp2_with fail
  refine wpIn_rangeFunc_ownH (gf := 37) (lb := #[.pointer (some ⟨w1.heap.size + 1 + 1, 0, none⟩), .pointer (some ⟨w1.heap.size + 1, 0, none⟩)]) rfl (by omega) (by first | rfl | simp [go_sem]) trivial enters_iter (iter_any (5 - 1) (by omega) ss hf hok b off cap s hs i hi l hl w1.heap.size (w1.heap.size + 1 + 1) (w1.heap.size + 1) w3 hM hba) Kp2.trans (fun W l o o' h1 h2 h3 h4 => kp2_obj (B := w3.heap.size) (by omega) W l o o' h1 h2 h3 h4) (Below.refl _ _) (fun x => rfl)
    (fun pre W => (∃ v, Boxed W w1.heap.size 34 v ∧ W.ownsRow w1.heap.size 3 1 v pre.length (isCells pre) ∧ True) ∧ Below w1.heap.size w1 W) (fun _ _ _ => False)
    (OwnFrom.and (Own.from (holdsRow_own w1.heap.size w1.heap.size 34 3 1 (fun pre : List Nat => pre.length) (fun pre => isCells pre) (fun pre v => True)) _) (ownFrom_below (Nat.le_refl _) (by omega)))
    (fun c => ownFrom_pure _ _) ⟨⟨_, hbx, World.ownsRow_nil _ _ _ _, trivial⟩, hB3⟩
    (fun x a' W => a' = { tmps := #[.slice (some ⟨b, off, none⟩) ss.length cap, .string s, .int .i64 (i : Int), undef, undef, undef, .slice none 0 0, .nilIface, .nilIface, .pointer (some ⟨w1.heap.size, 0, none⟩), .int .i64 (x : Int), .slice (some ⟨b, off, none⟩) ss.length cap, .string s, .int .i64 (i : Int), .nilIface, .nilIface, .bool false, undef, .slice (some ⟨b, off, none⟩) ss.length cap, .string s, .agg #[.slice (some ⟨b, off, none⟩) ss.length cap, .string s], .int .i64 (i : Int), .func (.func 37) #[] #[.pointer (some ⟨w1.heap.size + 1 + 1, 0, none⟩), .pointer (some ⟨w1.heap.size + 1, 0, none⟩)], .int .i64 (x : Int), undef, undef, undef, undef, undef], defers := [] }) (fun x a' => ownFrom_pure _ _) ?assign ?body ?done ?stop
  case assign =>
    intro lp pre x W K hI hK
    gi_wp2
    exact hK _ _ (KeepsFrom.refl _ _) ⟨KpF.refl _ _ _, id⟩ hI rfl
  case body =>
    rintro lp pre x a' W hlp hrec ⟨⟨v, hv, hrow, _⟩, hB⟩ rfl hpl
    have hc := hv.cell
    have hll : l.length ≤ 401 := run_len (by simpa using hs) hl
    obtain ⟨va, vc, rfl⟩ := IsOwn.form (l := pre) hrow
    gi_wp2_with (gi_at_builtin; refine wpListIn_append_isr rfl _ _ rfl w1.heap.size _ rfl pre (IsOwn.kept hrow ((Below.refl _ _).alloc (Nat.le_refl _) _)) W.heap.size 1 x rfl (by rw [World.cell?_alloc_at (w := W) _ _ W.heap.size 0 rfl]; rfl) (by omega) (by have := hB.size; simp; omega) ?_; intro g cap2 W1 hown hgr hgn; obtain ⟨hv1, hv2, hr2, hk2, hb2⟩ := hv.appended (by decide) hrow hB.size (Nat.le_refl _) hown hgr; have hc1 := hv1.cell; have hf1 := hv1.frozen)
    exact ⟨hk2.from _, kp2_append hv hrow hgr hown hgn, ⟨_, hv2, by simpa [isCells] using hr2, trivial⟩, hB.trans hb2⟩
  case done =>
    rintro D xs W hD rfl ⟨⟨v, hv, hrow, _⟩, hB⟩ hK
    have hc := hv.cell
    obtain ⟨va, vc, rfl⟩ := IsOwn.form (l := xs) hrow
    gi_wp2
    refine ⟨by simp, .inl ⟨_, _, rfl, run_takeDeferred hK, ?_⟩⟩
    exact ⟨_, results_tmp2 rfl _ _ _, _, rfl, hb1.trans ((hB.trans (belowK_b (w := w1) (Nat.le_refl _) W D _ _ (by omega) hK rfl rfl)).mono hb1.size), IsOwn.isIn (l := xs) (ownsRow_putObj hrow _ hK rfl) (by have := run_len (by simpa using hs) hl; unfold maxLen; omega)⟩
  case stop =>
    intro D c pre W _ _ h
    exact h.elim
theorem lastI_snoc (l : List Nat) (x : Nat) : lastI (l ++ [x]) = (x : Int) := by
  unfold lastI
  simp
theorem kp2_set {bf : Nat} {W : World} {t : TypeId} {v : Value} (hv : Boxed W bf t v) (z : Int) : Kp2 bf W (W.setCell ⟨bf, 0, none⟩ (.int .i64 z)) := by
  refine ⟨KpF.box W t v _ hv rfl, fun _ u k hu hk => ?_⟩
  rw [(hv.set _).cell] at hu
  obtain rfl := Option.some.inj hu
  cases hk
set_option maxHeartbeats 8000000 in
theorem slong_at (ss : List St) (hf : stepsF ss = 0) (hok : SsOk ss) (b off cap : Nat) (s : ByteArray) (hs : s.size ≤ 400) (i : Nat) (hi : i ≤ s.size) (l : List Nat) (hl : RunR ss s.data.toList i l) (w : World) (hlt : b < w.heap.size) (hN : SsAt w b off ss) :
    CallsIn Fence.wide 5 Tryd.prog 14 #[.slice (some ⟨b, off, none⟩) ss.length cap, .string s, .int .i64 (i : Int)] w fun e w' => e = .returned (.tuple #[.int .i64 (lastI l), .nilIface]) ∧ Below w.heap.size w w' := by
  have h200 := (stepsF_zero hf).1
  have HC := hid (scheck_any ss (.slice (some ⟨b, off, none⟩) ss.length cap) s (i : Int) w ⟨_, cap, rfl, by unfold maxLen; omega, Or.inr ⟨b, off, rfl, hlt, hN⟩⟩ (by unfold maxLen; omega))
  rw [show simE ss s.size (i : Int) = 0 from (simE_zero ss s.size i).2 ⟨hf, hs, by omega, by omega⟩, show errV 0 = .nilIface from rfl] at HC
  refine callsIn_of_wp_marks Tryd.func14 rfl trivial ?_ rfl
  simp only [Tryd.ntmps14, List.size_toArray, List.length_cons, List.length_nil, Nat.reduceAdd, Nat.reduceSub, Array.replicate_succ, Array.replicate_zero, List.push_toArray, List.append_toArray, List.nil_append, List.cons_append]
  gi_wp2_with fail
  refine ⟨trivial, (callsIn_wide.2 HC.out).mono ?_⟩
  rintro e w1 ⟨rfl, hb1⟩
  have HE := hid (ends_call (.slice (some ⟨b, off, none⟩) ss.length cap) s (i : Int) (w1.alloc (.cells #[.int .i64 (-1)] 3)))
  gi_wp2_with fail
  refine ⟨trivial, (callsIn_wide.2 HE.out).mono ?_⟩
  rintro e w3 ⟨rfl, hw3⟩
  obtain ⟨hM, hba, hbx, hB3, hsz⟩ := itM_new ss b off cap s (i : Int) w1 (.int .i64 (-1)) 3 rfl (Nat.lt_of_lt_of_le hlt hb1.size) (hN.below hb1 hlt) w3 hw3
  clear HC HE hw3
  gi_wp2_with fail
  refine wpIn_rangeFunc_ownH (gf := 37) (lb := #[.pointer (some ⟨w1.heap.size + 1 + 1, 0, none⟩), .pointer (some ⟨w1.heap.size + 1, 0, none⟩)]) rfl (by omega) (by first | rfl | simp [go_sem]) trivial enters_iter (iter_any (5 - 1) (by omega) ss hf hok b off cap s hs i hi l hl w1.heap.size (w1.heap.size + 1 + 1) (w1.heap.size + 1) w3 hM hba) Kp2.trans (fun W l o o' h1 h2 h3 h4 => kp2_obj (B := w3.heap.size) (by omega) W l o o' h1 h2 h3 h4) (Below.refl _ _) (fun x => rfl)
    (fun pre W => Boxed W w1.heap.size 3 (.int .i64 (lastI pre)) ∧ Below w1.heap.size w1 W) (fun _ _ _ => False)
    (OwnFrom.and (Own.from (boxed_own w1.heap.size 3 (fun pre : List Nat => .int .i64 (lastI pre))) _) (ownFrom_below (Nat.le_refl _) (by omega)))
    (fun c => ownFrom_pure _ _) ⟨hbx, hB3⟩
    (fun x a' W => a' = { tmps := #[.slice (some ⟨b, off, none⟩) ss.length cap, .string s, .int .i64 (i : Int), undef, undef, undef, .int .i64 0, .nilIface, .nilIface, .pointer (some ⟨w1.heap.size, 0, none⟩), .int .i64 (x : Int), .slice (some ⟨b, off, none⟩) ss.length cap, .string s, .int .i64 (i : Int), .nilIface, .nilIface, .bool false, undef, .slice (some ⟨b, off, none⟩) ss.length cap, .string s, .agg #[.slice (some ⟨b, off, none⟩) ss.length cap, .string s], .int .i64 (i : Int), .func (.func 37) #[] #[.pointer (some ⟨w1.heap.size + 1 + 1, 0, none⟩), .pointer (some ⟨w1.heap.size + 1, 0, none⟩)], .int .i64 (x : Int), undef, undef], defers := [] }) (fun x a' => ownFrom_pure _ _) ?assign ?body ?done ?stop
  case assign =>
    intro lp pre x W K hI hK
    gi_wp2
    exact hK _ _ (KeepsFrom.refl _ _) ⟨KpF.refl _ _ _, id⟩ hI rfl
  case body =>
    rintro lp pre x a' W hlp hrec ⟨hv, hB⟩ rfl hpl
    have hc := hv.cell
    have hz := hv.frozen
    have HV := hid hv
    have HB := hid hB
    clear hv hB
    gi_wp2
    exact ⟨(KeepsOthers.setCell _ _ _).from _, kp2_set HV.out _, by rw [lastI_snoc]; exact HV.out.set _, HB.out.setCell (p := ⟨w1.heap.size, 0, none⟩) (Nat.le_refl _) _⟩
  case done =>
    rintro D xs W hD rfl ⟨hv, hB⟩ hK
    have hc := hv.cell
    gi_wp2
    refine ⟨by simp, .inl ⟨_, _, rfl, run_takeDeferred hK, ?_⟩⟩
    exact ⟨_, results_tmp2 rfl _ _ _, rfl, hb1.trans ((hB.trans (belowK_b (w := w1) (Nat.le_refl _) W D _ _ (by omega) hK rfl rfl)).mono hb1.size)⟩
  case stop =>
    intro D c pre W _ _ h
    exact h.elim
set_option maxHeartbeats 1000000 in
theorem sends_bad (ss : List St) (v : Value) (s : ByteArray) (i : Int) (w : World) (hS : SsIn w v ss) (hs : s.size ≤ maxLen) (hne : ¬ simE ss s.size i = 0) :
    Calls Tryd.prog 7 #[v, .string s, .int .i64 i] w fun e w' => ∃ u, e = .returned (.tuple #[u, errV (simE ss s.size i)]) ∧ Below w.heap.size w w' ∧ IsIn w' u [] := by
  have HC := hid (scheck_any ss v s i w hS hs)
  have ee : errV (simE ss s.size i) = .iface 41 (.int .i64 (simE ss s.size i)) := by unfold errV; rw [if_neg hne]
  rw [ee] at HC ⊢
  clear ee
  obtain ⟨va, vc, rfl, _⟩ := ssIn_form hS
  go_enter Tryd.func7, Tryd.ntmps7
  go_wp2_with fail
  refine Calls.mono HC.out ?_
  rintro e w1 ⟨rfl, hb1⟩
  go_wp2
  go_ret2
  exact ⟨_, rfl, hb1, isIn_nil _⟩
set_option maxHeartbeats 1000000 in
theorem slong_bad (ss : List St) (v : Value) (s : ByteArray) (i : Int) (w : World) (hS : SsIn w v ss) (hs : s.size ≤ maxLen) (hne : ¬ simE ss s.size i = 0) :
    Calls Tryd.prog 14 #[v, .string s, .int .i64 i] w fun e w' => e = .returned (.tuple #[.int .i64 0, errV (simE ss s.size i)]) ∧ Below w.heap.size w w' := by
  have HC := hid (scheck_any ss v s i w hS hs)
  have ee : errV (simE ss s.size i) = .iface 41 (.int .i64 (simE ss s.size i)) := by unfold errV; rw [if_neg hne]
  rw [ee] at HC ⊢
  clear ee
  obtain ⟨va, vc, rfl, _⟩ := ssIn_form hS
  go_enter Tryd.func14, Tryd.ntmps14
  go_wp2_with fail
  refine Calls.mono HC.out ?_
  rintro e w1 ⟨rfl, hb1⟩
  go_wp2
  go_ret2
  exact ⟨rfl, hb1⟩
/-- What sim reads of the library: nothing. -/
abbrev noT : World → Prop := fun _ => True
theorem ssIn_at {w : World} {v : Value} {ss : List St} (h : SsIn w v ss) (h0 : 0 < ss.length) : ∃ b off cap, v = .slice (some ⟨b, off, none⟩) ss.length cap ∧ b < w.heap.size ∧ SsAt w b off ss := by
  obtain ⟨a, cap, rfl, hm, h | ⟨b, off, rfl, hlt, hn⟩⟩ := h
  · rw [h] at h0; simp at h0
  · exact ⟨b, off, cap, rfl, hlt, hn⟩
theorem simC : SimC noT where
  bad := fun ss v s i w hS _ hs hne => sends_bad ss v s i w hS hs hne
  ends := fun ss v s i l w _ hS hw hz hl => by
    obtain ⟨hf, hs, _, hi⟩ := (simE_zero ss s.size i).1 hz
    obtain ⟨b, off, cap, rfl, hlt, hN⟩ := ssIn_at hS (stepsF_zero hf).2.1
    exact callsIn_wide.1 (sends_at ss hf (fun n hn => C4.wf_ok (hw n hn).2.1) b off cap s hs i (by omega) l hl w hlt hN)
theorem simL : SimL noT where
  bad := fun ss v s i w hS _ hs hne => slong_bad ss v s i w hS hs hne
  long := fun ss v s i l w _ hS hw hz hl => by
    obtain ⟨hf, hs, _, hi⟩ := (simE_zero ss s.size i).1 hz
    obtain ⟨b, off, cap, rfl, hlt, hN⟩ := ssIn_at hS (stepsF_zero hf).2.1
    exact callsIn_wide.1 (slong_at ss hf (fun n hn => C4.wf_ok (hw n hn).2.1) b off cap s hs i (by omega) l hl w hlt hN)
end Go.Proofs.YtopoiljgghglaaaDoor
