/- Package sim: the places at which a program comes to its end, handed on one by one. Package sim: checked; the errors of Ends and Longest. -/
import Derived.Test.YtgnmlnfddcnkbaaDoorY18
import Derived.Test.YtgnmlnfddcnkbaaDoorY17
import Derived.Test.YtgnmlnfddcnkbaaDoorY04
import Derived.RangeFuncNested
import Derived.RangeFuncBound
import Derived.RangeFuncCalls
import Derived.RangeFuncLeaves
import Derived.Shelf.Abstract
import Derived.Shelf.RegionOpen
import Derived.WalkKit
import Derived.OwnWalkIn
import Derived.TacticsInMore
import Derived.LoopNIn
import Derived.LoopIn
import Derived.Sort.CutIn
import Derived.Deep.RegionHeld3
import Derived.Test.YtgnmlnfddcnkbaaDoorY06
namespace Go.Proofs.YtgnmlnfddcnkbaaDoor
set_option linter.unusedSimpArgs false
set_option linter.unusedVariables false
set_option maxRecDepth 100000
open Go.RowKit Go.Shelf
attribute [local go_sem] Oper.semAt_some
/-- What the loop's body turns: the box bf, and the row that it names. -/
abbrev noX : Nat → Prop := fun _ => False
/-- The box names a row that lies in memory. -/
def Bnd (bf : Nat) (W : World) : Prop := ∀ u k, W.cell? ⟨bf, 0, none⟩ = some u → u.ownBlock = some k → k < W.heap.size
/-- What each round keeps. -/
def Kp2 (bf : Nat) (W W' : World) : Prop := KpF bf noX W W' ∧ (Bnd bf W → Bnd bf W')
theorem Kp2.trans {bf : Nat} {A B C : World} (h : Kp2 bf A B) (g : Kp2 bf B C) : Kp2 bf A C := ⟨h.1.trans g.1, fun x => g.2 (h.2 x)⟩
theorem Bnd.below {bf : Nat} {W W' : World} (h : Bnd bf W) (hb : Below W.heap.size W W') (hl : bf < W.heap.size) : Bnd bf W' := fun u k hu hk => by
  rw [hb.cell (p := ⟨bf, 0, none⟩) hl] at hu
  exact Nat.lt_of_lt_of_le (h u k hu hk) hb.size
/-- What is new is not the loop's. -/
theorem frm_new {bf : Nat} {W W' : World} (h : Bnd bf W) (hb : Below W.heap.size W W') (hl : bf < W.heap.size) {k : Nat} (hk : W.heap.size ≤ k) : ¬ Frm bf noX W' k := by
  rintro ⟨_, h1 | h1 | ⟨u, h1, h2⟩⟩
  · exact h1
  · omega
  · rw [hb.cell (p := ⟨bf, 0, none⟩) hl] at h1
    have := h u k h1 h2
    omega
theorem SsAt.kp {bf : Nat} {X : Nat → Prop} {w w' : World} {b off : Nat} {ss : List St} (h : SsAt w b off ss) (hk : KpF bf X w w') (hn : ¬ Frm bf X w b) : SsAt w' b off ss := fun i n hi => by
  obtain ⟨h0, h1, h2, h3, h4, h5, h6⟩ := h i n hi
  exact ⟨hk.cell h0 hn, hk.cell h1 hn, hk.cell h2 hn, hk.cell h3 hn, hk.cell h4 hn, hk.cell h5 hn, hk.cell h6 hn⟩
theorem Tab.kp {bf : Nat} {X : Nat → Prop} {w w' : World} (h : Tab w) (hk : KpF bf X w w') (hn : ¬ Frm bf X w 0) : Tab w' := fun i hi => hk.cell (h i hi) hn
theorem Hq.kp {bf : Nat} {X : Nat → Prop} {w w' : World} {b : Nat} {p : Nat → Bool} (h : Hq w b p) (hk : KpF bf X w w') (hn : ¬ Frm bf X w b) : Hq w' b p := hk.same b _ h rfl hn
theorem abN_below {β : Type} {B : Nat} {Fr : World → Nat → Prop} {J : β → World → Prop} (hJ : AbN B Fr J) {x : β} {W W' : World} (h : J x W) (hb : Below W.heap.size W W') : J x W' :=
  hJ x W W' none h ⟨hb.os, hb.tape, hb.output, hb.size, fun k hk _ => hb.block k hk⟩ (fun r e => by cases e)
theorem ahead_split {l : List Nat} (hl : l.Pairwise (· < ·)) (a : Nat) (ha : a ∈ l) : ∃ rest, l = ahead l a ++ a :: rest := by
  induction l with
  | nil => cases ha
  | cons x r ih =>
    rw [List.pairwise_cons] at hl
    rcases List.mem_cons.1 ha with rfl | h
    · refine ⟨r, ?_⟩
      rw [ahead_none a (fun j hj => ?_)]
      · rfl
      · rcases List.mem_cons.1 hj with rfl | hj
        · exact Nat.le_refl _
        · exact Nat.le_of_lt (hl.1 j hj)
    · obtain ⟨rest, hr⟩ := ih hl.2 h
      have hx : x < a := hl.1 a h
      refine ⟨rest, ?_⟩
      have : ahead (x :: r) a = x :: ahead r a := by
        unfold ahead
        rw [List.filter_cons_of_pos (by simp [hx])]
      rw [this, List.cons_append, ← hr]
/-- What the iterator has of its own. -/
structure ItY (ss : List St) (b off cap : Nat) (s : ByteArray) (i bf bw bs ba : Nat) (w : World) : Prop where
  steps : SsAt w b off ss
  r0 : w.cell? ⟨bw, 0, none⟩ = some (.slice (some ⟨b, off, none⟩) ss.length cap)
  r1 : w.cell? ⟨bs, 0, none⟩ = some (.string s)
  r2 : w.cell? ⟨ba, 0, none⟩ = some (.int .i64 (i : Int))
  tab : Tab w
  blt : b < w.heap.size
  fb : ¬ Frm bf noX w b
  fw : ¬ Frm bf noX w bw
  fs : ¬ Frm bf noX w bs
  fa : ¬ Frm bf noX w ba
  ft : ¬ Frm bf noX w 0
  bnd : Bnd bf w
  lt : bf < w.heap.size
theorem ItY.below {ss : List St} {b off cap : Nat} {s : ByteArray} {i bf bw bs ba : Nat} {w w' : World} (h : ItY ss b off cap s i bf bw bs ba w) (hb : Below w.heap.size w w') : ItY ss b off cap s i bf bw bs ba w' where
  steps := h.steps.below hb h.blt
  r0 := (hb.cell (p := ⟨bw, 0, none⟩) (cell_lt h.r0)).trans h.r0
  r1 := (hb.cell (p := ⟨bs, 0, none⟩) (cell_lt h.r1)).trans h.r1
  r2 := (hb.cell (p := ⟨ba, 0, none⟩) (cell_lt h.r2)).trans h.r2
  tab := h.tab.below hb (Nat.le_refl _)
  blt := Nat.lt_of_lt_of_le h.blt hb.size
  fb := (KpF.below noX hb h.lt).free h.blt h.fb
  fw := (KpF.below noX hb h.lt).free (cell_lt h.r0) h.fw
  fs := (KpF.below noX hb h.lt).free (cell_lt h.r1) h.fs
  fa := (KpF.below noX hb h.lt).free (cell_lt h.r2) h.fa
  ft := (KpF.below noX hb h.lt).free (tab_lt h.tab) h.ft
  bnd := h.bnd.below hb h.lt
  lt := Nat.lt_of_lt_of_le h.lt hb.size
theorem ItY.kp {ss : List St} {b off cap : Nat} {s : ByteArray} {i bf bw bs ba : Nat} {w w' : World} (h : ItY ss b off cap s i bf bw bs ba w) (hk : Kp2 bf w w') : ItY ss b off cap s i bf bw bs ba w' where
  steps := h.steps.kp hk.1 h.fb
  r0 := hk.1.cell h.r0 h.fw
  r1 := hk.1.cell h.r1 h.fs
  r2 := hk.1.cell h.r2 h.fa
  tab := h.tab.kp hk.1 h.ft
  blt := Nat.lt_of_lt_of_le h.blt hk.1.size
  fb := hk.1.free h.blt h.fb
  fw := hk.1.free (cell_lt h.r0) h.fw
  fs := hk.1.free (cell_lt h.r1) h.fs
  fa := hk.1.free (cell_lt h.r2) h.fa
  ft := hk.1.free (tab_lt h.tab) h.ft
  bnd := hk.2 h.bnd
  lt := Nat.lt_of_lt_of_le h.lt hk.1.size
theorem ItY.S3 {ss : List St} {b off cap : Nat} {s : ByteArray} {i bf bw bs ba : Nat} {w : World} (h : ItY ss b off cap s i bf bw bs ba w) : w.cell? ⟨bw, 0, none⟩ = some (.slice (some ⟨b, off, none⟩) ss.length cap) ∧ w.cell? ⟨bs, 0, none⟩ = some (.string s) ∧ w.cell? ⟨ba, 0, none⟩ = some (.int .i64 (i : Int)) := ⟨h.r0, h.r1, h.r2⟩
/-- The three stay where another block is written. -/
theorem S3_put {b off cap n : Nat} {s : ByteArray} {z bw bs ba nb o : Nat} {i : Int} {v : Value} {w : World} (hw : bw < z) (hs : bs < z) (ha : ba < z) (hz : z ≤ nb) (h : w.cell? ⟨bw, 0, none⟩ = some (.slice (some ⟨b, off, none⟩) n cap) ∧ w.cell? ⟨bs, 0, none⟩ = some (.string s) ∧ w.cell? ⟨ba, 0, none⟩ = some (.int .i64 i)) : (w.setCell ⟨nb, o, none⟩ v).cell? ⟨bw, 0, none⟩ = some (.slice (some ⟨b, off, none⟩) n cap) ∧ (w.setCell ⟨nb, o, none⟩ v).cell? ⟨bs, 0, none⟩ = some (.string s) ∧ (w.setCell ⟨nb, o, none⟩ v).cell? ⟨ba, 0, none⟩ = some (.int .i64 i) := by
  have key : ∀ k c, k < z → w.cell? ⟨k, 0, none⟩ = some c → (w.setCell ⟨nb, o, none⟩ v).cell? ⟨k, 0, none⟩ = some c := fun k c hk hc =>
    (World.cell?_of_block (a := ⟨k, 0, none⟩) (Below.heap_setCell w ⟨nb, o, none⟩ v k (by simp only; omega))).trans hc
  exact ⟨key _ _ hw h.1, key _ _ hs h.2.1, key _ _ ha h.2.2⟩
/-- At place a, in the loop: nb holds the set of steps; what is asked for lies ahead of z, the set behind it. -/
structure ItL (ss : List St) (b off cap : Nat) (s : ByteArray) (i bf bw bs ba z nb a : Nat) (w : World) : Prop where
  m : ItY ss b off cap s i bf bw bs ba w
  now : Hq w nb (curS ss s.data.toList i a)
  fn : ¬ Frm bf noX w nb
  lo : z ≤ nb
  lb : b < z
  lw : bw < z
  ls : bs < z
  la : ba < z
  lt : 0 < z
  lf : bf < z
theorem ItL.below {ss : List St} {b off cap : Nat} {s : ByteArray} {i bf bw bs ba z nb a : Nat} {w w' : World} (h : ItL ss b off cap s i bf bw bs ba z nb a w) (hb : Below w.heap.size w w') : ItL ss b off cap s i bf bw bs ba z nb a w' :=
  ⟨h.m.below hb, h.now.below hb h.now.lt, (KpF.below noX hb h.m.lt).free h.now.lt h.fn, h.lo, h.lb, h.lw, h.ls, h.la, h.lt, h.lf⟩
theorem ItL.kp {ss : List St} {b off cap : Nat} {s : ByteArray} {i bf bw bs ba z nb a : Nat} {w w' : World} (h : ItL ss b off cap s i bf bw bs ba z nb a w) (hk : Kp2 bf w w') : ItL ss b off cap s i bf bw bs ba z nb a w' :=
  ⟨h.m.kp hk, h.now.kp hk.1 h.fn, hk.1.free h.now.lt h.fn, h.lo, h.lb, h.lw, h.ls, h.la, h.lt, h.lf⟩
theorem ItL.S2 {ss : List St} {b off cap : Nat} {s : ByteArray} {i bf bw bs ba z nb a : Nat} {w : World} (h : ItL ss b off cap s i bf bw bs ba z nb a w) : w.cell? ⟨bw, 0, none⟩ = some (.slice (some ⟨b, off, none⟩) ss.length cap) ∧ w.cell? ⟨bs, 0, none⟩ = some (.string s) := ⟨h.m.r0, h.m.r1⟩
/-- A block that is none of those is written: the frame is what it was. -/
theorem frm_put {bf nb k : Nat} {w w' : World} (hg : w.grownBy w' (some nb)) (hf : bf ≠ nb) (hl : bf < w.heap.size) (hs : w'.heap.size = w.heap.size) : Frm bf noX w' k ↔ Frm bf noX w k := by
  have h0 : w'.cell? ⟨bf, 0, none⟩ = w.cell? ⟨bf, 0, none⟩ := World.cell?_of_block (a := ⟨bf, 0, none⟩) (hg.block bf hl (by intro e; injection e with e; exact hf e))
  unfold Frm
  rw [h0, hs]
theorem ItL.put {ss : List St} {b off cap : Nat} {s : ByteArray} {i bf bw bs ba z nb a : Nat} {w : World} (h : ItL ss b off cap s i bf bw bs ba z nb a w) (a' : Nat) : ItL ss b off cap s i bf bw bs ba z nb a' (putS w nb (curS ss s.data.toList i a')) := by
  obtain ⟨h1, h2, h3, h4, h5, h6, h7, h8, h9, h10⟩ := h
  have hg := grown_putS w nb (curS ss s.data.toList i a')
  have hs := putS_size w nb (curS ss s.data.toList i a')
  have hne : ∀ k, k < z → some k ≠ some nb := fun k hk e => by injection e with e; omega
  have cell : ∀ k o c, k < z → w.cell? ⟨k, o, none⟩ = some c → (putS w nb (curS ss s.data.toList i a')).cell? ⟨k, o, none⟩ = some c := fun k o c hk hc =>
    (World.cell?_of_block (a := ⟨k, o, none⟩) (hg.block k (cell_lt hc) (hne k hk))).trans hc
  have hf : ∀ k, Frm bf noX (putS w nb (curS ss s.data.toList i a')) k ↔ Frm bf noX w k := fun k => frm_put hg (by omega) h1.lt hs
  refine ⟨⟨h1.steps.grown hg h1.blt (hne _ h5), cell _ _ _ h6 h1.r0, cell _ _ _ h7 h1.r1, cell _ _ _ h8 h1.r2, fun j hj => cell _ _ _ h9 (h1.tab j hj), by rw [hs]; exact h1.blt, fun e => h1.fb ((hf _).1 e), fun e => h1.fw ((hf _).1 e), fun e => h1.fs ((hf _).1 e), fun e => h1.fa ((hf _).1 e), fun e => h1.ft ((hf _).1 e), ?_, by rw [hs]; exact h1.lt⟩, h2.putS _, fun e => h3 ((hf _).1 e), h4, h5, h6, h7, h8, h9, h10⟩
  intro u k hu hk
  rw [hs]
  rw [show (putS w nb (curS ss s.data.toList i a')).cell? ⟨bf, 0, none⟩ = w.cell? ⟨bf, 0, none⟩ from World.cell?_of_block (a := ⟨bf, 0, none⟩) (hg.block bf h1.lt (hne _ h10))] at hu
  exact h1.bnd u k hu hk
theorem bel_a {W w1 : World} {o : Obj} (h : Below (W.alloc o).heap.size (W.alloc o) w1) : Below W.heap.size W w1 ∧ w1.heap[W.heap.size]? = some o :=
  ⟨((Below.refl _ W).alloc (Nat.le_refl _) _).trans (h.mono (by simp)), (h.block _ (by simp)).trans (World.alloc_heap_new W o)⟩
theorem hq_zero {w : World} {b : Nat} (h : w.heap[b]? = some (.cells #[.int .u64 0, .int .u64 0, .int .u64 0, .int .u64 0] 99 (0, 0))) : Hq w b noP := by
  unfold Hq
  rw [wd_no, wd_no, wd_no, wd_no]
  exact h
set_option maxHeartbeats 8000000 in
theorem yiter_any (n : Nat) (hn : 1 ≤ n) (ss : List St) (hf : stepsF ss = 0) (hok : SsOk ss) (b off cap : Nat) (s : ByteArray) (hs : s.size ≤ 400) (i : Nat) (hi : i ≤ s.size) (l : List Nat) (hl : RunR ss s.data.toList i l) (bf bw bs ba : Nat) (w : World) (hM : ItY ss b off cap s i bf bw bs ba w) :
    SeqN Fence.wide n Tryd.prog 51 #[.pointer (some ⟨bw, 0, none⟩), .pointer (some ⟨bs, 0, none⟩), .pointer (some ⟨ba, 0, none⟩)] (fun x : Nat => .int .i64 (x : Int)) (Kp2 bf) (Frm bf noX) l w := by
  intro lp J W hBW hJ hY h0
  obtain ⟨h200, hpos, hst⟩ := stepsF_zero hf
  have hMW := hM.below hBW
  have hlen : s.data.toList.length = s.size := by simp
  have hL := leads_of hf
  have HB := hid (fun w' (h : ItY ss b off cap s i bf bw bs ba w') => sbegin_any ss hf b off cap (decide (i = 0)) (decide (i = s.data.toList.length)) w' h.tab h.blt h.steps)
  have HPL := hid (fun w' => placeOf_any s i w')
  have HY := hid hY
  have HJ := hid hJ
  have HL := hid hl
  have HOK := hid hok
  have HF := hid hf
  have HLD := hid hL
  have HJ0 : Hid (J (ahead l i) W) := by
    show J _ _
    rw [cur_begin (by omega) hl]
    exact h0
  have HMW := hid hMW
  have HBEG : Hid (∀ X nb, Below W.heap.size W X → W.heap.size ≤ nb → Hq X nb (begS ss (decide (i = 0)) (decide (i = s.size))) → ∃ nb', (Value.pointer (some ⟨nb, 0, none⟩)) = .pointer (some ⟨nb', 0, none⟩) ∧ ItL ss b off cap s i bf bw bs ba W.heap.size nb' i X ∧ J (ahead l i) X) := fun X nb hb hn hq => by
    refine ⟨nb, rfl, ⟨hMW.below hb, ?_, frm_new hMW.bnd hb hMW.lt hn, hn, hMW.blt, cell_lt hMW.r0, cell_lt hMW.r1, cell_lt hMW.r2, tab_lt hMW.tab, hMW.lt⟩, abN_below HJ.out HJ0.out hb⟩
    rw [cur_beg ss s.data.toList i (by omega), hlen]
    exact hq
  have r0 := hMW.r0
  have r1 := hMW.r1
  have r2 := hMW.r2
  clear hY hJ hl hok hst h0 hMW hM hBW hL hf
  refine callsIn_of_wp Tryd.func51 rfl trivial ?_ rfl
  simp only [Tryd.ntmps51, List.size_toArray, List.length_cons, List.length_nil, Nat.reduceAdd, Nat.reduceSub, Array.replicate_succ, Array.replicate_zero, List.push_toArray, List.append_toArray, List.nil_append, List.cons_append]
  gi_upto_region 7 with fail
  gi_cut [5] from 7 (fun s5 wc => ∃ nb, s5 = .pointer (some ⟨nb, 0, none⟩) ∧ ItL ss b off cap s i bf bw bs ba W.heap.size nb i wc ∧ J (ahead l i) wc)
  case first =>
    refine wpIn_wide.2 ?_
    have hwz := cell_lt r0
    have hsz := cell_lt r1
    have haz := cell_lt r2
    go_region_held3 (fun w' => w'.cell? ⟨bw, 0, none⟩ = some (.slice (some ⟨b, off, none⟩) ss.length cap) ∧ w'.cell? ⟨bs, 0, none⟩ = some (.string s) ∧ w'.cell? ⟨ba, 0, none⟩ = some (.int .i64 (i : Int))) (first | (first | with_reducible exact m2.S3 | with_reducible exact (m2.below ((Below.refl _ _).alloc (Nat.le_refl _) _)).S3 | with_reducible exact m1.S3 | with_reducible exact (m1.below ((Below.refl _ _).alloc (Nat.le_refl _) _)).S3 | with_reducible exact HMW.out.S3 | with_reducible exact (HMW.out.below (Below.refl _ _).drew).S3 | with_reducible exact (HMW.out.below ((Below.refl _ _).alloc (Nat.le_refl _) _).drew).S3) | (with_reducible refine S3_put hwz hsz haz (by omega) ?_; with_reducible refine S3_put hwz hsz haz (by omega) ?_; with_reducible refine S3_put hwz hsz haz (by omega) ?_; with_reducible refine S3_put hwz hsz haz (by omega) ?_; (first | with_reducible exact m2.S3 | with_reducible exact (m2.below ((Below.refl _ _).alloc (Nat.le_refl _) _)).S3 | with_reducible exact m1.S3 | with_reducible exact (m1.below ((Below.refl _ _).alloc (Nat.le_refl _) _)).S3 | with_reducible exact HMW.out.S3 | with_reducible exact (HMW.out.below (Below.refl _ _).drew).S3 | with_reducible exact (HMW.out.below ((Below.refl _ _).alloc (Nat.le_refl _) _).drew).S3)) | (trace_state; fail)) (first
      | (go_at_call 42; refine (HPL.out _).mono ?_; rintro e w1 ⟨rfl, hb1⟩; (first | (have hbw : Below W.heap.size W w1 := bel_d hb1; have m1 := HMW.out.below hbw; have hsz1 := hbw.size) | (obtain ⟨hbw, hz⟩ : Below W.heap.size W w1 ∧ _ := bel_da hb1; have m1 := HMW.out.below hbw; have hsz1 := hbw.size)))
      | (go_at_call 52; refine (HB.out _ ?_).mono ?_; (first | with_reducible exact m1 | with_reducible exact m1.below ((Below.refl _ _).alloc (Nat.le_refl _) _)); rintro e w2 ⟨rfl, hb2⟩; (first | (obtain ⟨hb3, hz2⟩ := bel_a hb2; have hbw2 := hbw.trans (hb3.mono hbw.size); have hsz2 := hbw2.size; have m2 := HMW.out.below hbw2; obtain ⟨z0, z1, z2, z3⟩ := (hq_zero hz2).all; obtain ⟨f0, f1, f2, f3⟩ := (hq_zero hz2).frz) | (have hbw2 := hbw.trans (hb2.mono hbw.size); have hsz2 := hbw2.size; have m2 := HMW.out.below hbw2; first | (have hz2 := (hb2.block _ (heap_lt hz)).trans hz; obtain ⟨z0, z1, z2, z3⟩ := (hq_zero hz2).all; obtain ⟨f0, f1, f2, f3⟩ := (hq_zero hz2).frz) | (have hz2 := World.alloc_heap_new w2 (.cells #[.int .u64 0, .int .u64 0, .int .u64 0, .int .u64 0] 99); obtain ⟨z0, z1, z2, z3⟩ := (hq_zero hz2).all; obtain ⟨f0, f1, f2, f3⟩ := (hq_zero hz2).frz))); unfold stV))
    all_goals go_wp2_with fail
    all_goals gi_meet
    case rel =>
      exact HBEG.out _ _ (hbw2.alloc hsz2 _) hsz2 (Hq.new w2 _ _ rfl)
    all_goals first | exact HBEG.out _ _ (below_putS hbw2 (Nat.le_refl _) _) (Nat.le_refl _) ((hq_zero hz2).putS _) | exact HBEG.out _ _ (below_putS hbw2 hsz1 _) hsz1 ((hq_zero hz2).putS _)
  case rest =>
    obtain ⟨nb, rfl, hL0, hj0⟩ := hcut
    have HR0 : Hid (∃ a : Nat, i ≤ a ∧ a ≤ s.size ∧ (i : Int) = (a : Int) ∧ ItL ss b off cap s i bf bw bs ba W.heap.size nb a wc ∧ J (ahead l a) wc) := ⟨i, Nat.le_refl _, hi, rfl, hL0, hj0⟩
    have r2' := hL0.m.r2
    clear hL0 hj0 r0 r1 r2 HBEG HB HPL HMW HJ0
    gi_wp2_with fail
    clear r2'
    gi_loopw [6] (fun va wr => ∃ a : Nat, i ≤ a ∧ a ≤ s.size ∧ va = .int .i64 (a : Int) ∧ Hid (ItL ss b off cap s i bf bw bs ba W.heap.size nb a wr ∧ J (ahead l a) wr)) (fun va _ => s.size + 1 - (intOf va).toNat)
    case atStart =>
      obtain ⟨a, h1, h2, h3, h4⟩ := HR0.out
      exact ⟨a, h1, h2, by rw [h3], h4⟩
    case round =>
      clear HR0
      obtain ⟨a, hia, has, rfl, HR⟩ := hrel
      obtain ⟨hL, hj⟩ := HR.out
      have hsub : Sub ss (curS ss s.data.toList i a) := cur_sub HLD.out hpos
      have CE := hid (sempty_any (by omega) (curS ss s.data.toList i a) hsub wr)
      have CD := hid (fun w' (h : ItL ss b off cap s i bf bw bs ba W.heap.size nb a w') => sdone_any ss (by omega) b off cap (curS ss s.data.toList i a) hsub w' h.m.tab h.m.blt h.m.steps)
      obtain ⟨c0, c1, c2, c3⟩ := hL.now.all
      have HEND : Hid (curS ss s.data.toList i a = noP → ahead l a = l) := fun h => cur_all (by omega) hia HL.out h
      have HLL := hid hL
      have HJJ := hid hj
      unfold stV at CE CD
      clear hL hj HR
      gi_wp2_with fail
      refine ⟨trivial, (callsIn_wide.2 CE.out).mono ?_⟩
      rintro e w1 ⟨y, rfl, hy, hb1⟩
      cases y with
      | true =>
        have HP : Hid (J l w1) := by
          have := abN_below HJ.out HJJ.out hb1
          rwa [HEND.out (hy.1 rfl)] at this
        clear HEND hy CE CD c0 c1 c2 c3
        gi_wp2
        go_end0
        exact ⟨⟨_, rfl⟩, HP.out⟩
      | false =>
        have hL1 := HLL.out.below hb1
        have hj1 := abN_below HJ.out HJJ.out hb1
        obtain ⟨c0, c1, c2, c3⟩ := hL1.now.all
        have r0 := hL1.m.r0
        have C1 := hid (CD.out w1 hL1)
        have HL1 := hid hL1
        have HJ1 := hid hj1
        clear hL1 hj1 hy HEND CE CD HLL HJJ hb1
        have HDN := hid (fun y => cur_done (ss := ss) (s := s.data.toList) (i := i) (show i ≤ s.data.toList.length by omega) HL.out y)
        cases hd : donF ss (curS ss s.data.toList i a)
        case' false =>
          rw [hd] at C1
          have hna : ¬ a ∈ l := fun h => by
            have := (HDN.out a).2 h
            rw [hd] at this
            cases this
          gi_wp2_with fail
          refine ⟨trivial, (callsIn_wide.2 C1.out).mono ?_⟩
          rintro e w3 ⟨rfl, hb2⟩
          have hL3 := HL1.out.below hb2
          have hj3 := abN_below HJ.out HJ1.out hb2
          rw [← ahead_no a hna] at hj3
          clear hna hd C1 HDN HL1 HJ1 c0 c1 c2 c3 r0 hb2
          gi_wp2_with fail
          refine ⟨fun f h => (by cases h), ?_⟩
        case' true =>
          rw [hd] at C1
          have hya : a ∈ l := (HDN.out a).1 hd
          obtain ⟨rest, hrest⟩ := ahead_split HL.out.1 a hya
          have hrest := hid hrest
          have HAH : Hid (ahead l (a + 1) = ahead l a ++ [a]) := ahead_yes HL.out.1 a hya
          gi_wp2_with fail
          refine ⟨trivial, (callsIn_wide.2 C1.out).mono ?_⟩
          rintro e w2 ⟨rfl, hb2⟩
          have HL2 := hid (HL1.out.below hb2)
          obtain ⟨fn, tmps, assign, body, hyy, hRR⟩ := HY.out (ahead l a) a rest w2 hrest.out (abN_below HJ.out HJ1.out hb2)
          have HRR := hid hRR
          clear hya hd C1 HDN HL1 HJ1 c0 c1 c2 c3 r0 hb2 hRR hrest
          gi_wp2_with fail
          refine HRR.out.mono ?_
          rintro e w3 ⟨rfl, hj3, hK3⟩
          have hL3 := HL2.out.kp hK3
          rw [← HAH.out] at hj3
          clear HAH HRR HL2 hK3 hyy
        all_goals
          have r0 := hL3.m.r0
          have r1 := hL3.m.r1
          obtain ⟨c0, c1, c2, c3⟩ := hL3.now.all
          obtain ⟨f0, f1, f2, f3⟩ := hL3.now.frz
          have HL3 := hid hL3
          have HJ3 := hid hj3
          clear hL3 hj3
          by_cases hae : a = s.size
          · have he : ((a : Int) == (s.size : Int)) = true := by rw [hae]; simp
            have HP : Hid (J l w3) := by
              have := HJ3.out
              rw [hae, ← hlen, cur_last (by omega) HL.out] at this
              exact this
            clear HL3 HJ3 hae
            gi_wp2
            exact bodyPost_ret (results_none rfl _ _ _) rfl ⟨⟨_, rfl⟩, HP.out⟩
          · have he : ((a : Int) == (s.size : Int)) = false := by rw [beq_eq_false_iff_ne]; omega
            have hal : a < s.size := by omega
            have g0 : (0 : Int) ≤ (a : Int) := by omega
            have g1 : (a : Int) < (s.size : Int) := by omega
            have hsa : s.data.toList[a]? = some s[a] := by
              rw [List.getElem?_eq_getElem (by simpa using hal)]; rfl
            have HNX : Hid (nxtS ss (curS ss s.data.toList i a) s[a].toNat false (decide (a + 1 = s.size)) = curS ss s.data.toList i (a + 1)) := by
              show _ = _
              rw [cur_next ss s.data.toList i a hia s[a] hsa, hlen]
            have CP := hid (fun w' => placeOf_any s (a + 1) w')
            have e1 : ((a + 1 : Nat) : Int) = (a : Int) + 1 := by omega
            rw [e1, show decide (a + 1 = 0) = false by simp, hlen] at CP
            have hw1 : IntKind.i64.wrap ((a : Int) + 1) = (a : Int) + 1 := by rw [IntKind.wrap_i64]; omega
            have CN := hid (fun w' (h : ItL ss b off cap s i bf bw bs ba W.heap.size nb a w') => snext_any ss HF.out HOK.out b off cap (curS ss s.data.toList i a) hsub s[a] false (decide (a + 1 = s.size)) w' h.m.tab h.m.blt h.m.steps)
            rw [HNX.out] at CN
            unfold stV at CN
            clear e1 hsa
            gi_wp2_with fail
            refine wpIn_wide.2 ?_
            refine wp_region_noPanic ?_
            refine wp_region_held_drew (S := fun w => w.cell? ⟨bw, 0, none⟩ = some (.slice (some ⟨b, off, none⟩) ss.length cap) ∧ w.cell? ⟨bs, 0, none⟩ = some (.string s)) (by kernel_rfl) (HL3.out.below (Below.refl _ _).drew).S2 (fun hHeld => ?_)
            refine wpAnyH_take (i := 0) (oi := _) (v := ?_) rfl (by kernel_rfl) (by kernel_rfl) (by kernel_rfl) (fun _ _ _ h => h) (Or.inl ⟨by rfl, ?_⟩) (by assumption) ?_
            rotate_left
            · (intro w hSw; (try dsimp only at hSw); simp only [List.getElem_toArray, List.getElem_cons_zero, List.getElem_cons_succ]; go_simp; try with_reducible rfl)
            simp only [List.getElem_toArray, List.getElem_cons_zero, List.getElem_cons_succ, Act.put, List.setIfInBounds_toArray, List.set_cons_zero, List.set_cons_succ]
            refine wpAnyH_take (i := 2) (oi := _) (v := ?_) rfl (by kernel_rfl) (by kernel_rfl) (by kernel_rfl) (fun _ _ _ h => h) (Or.inl ⟨by rfl, ?_⟩) (by assumption) ?_
            rotate_left
            · (intro w hSw; (try dsimp only at hSw); simp only [List.getElem_toArray, List.getElem_cons_zero, List.getElem_cons_succ]; go_simp; try with_reducible rfl)
            simp only [List.getElem_toArray, List.getElem_cons_zero, List.getElem_cons_succ, Act.put, List.setIfInBounds_toArray, List.set_cons_zero, List.set_cons_succ]
            refine wpAnyH_take (i := 3) (oi := _) (v := ?_) rfl (by kernel_rfl) (by kernel_rfl) (by kernel_rfl) (fun _ _ _ h => h) (Or.inl ⟨by rfl, ?_⟩) (by assumption) ?_
            rotate_left
            · (intro w hSw; (try dsimp only at hSw); simp only [List.getElem_toArray, List.getElem_cons_zero, List.getElem_cons_succ]; go_simp; try with_reducible rfl)
            simp only [List.getElem_toArray, List.getElem_cons_zero, List.getElem_cons_succ, Act.put, List.setIfInBounds_toArray, List.set_cons_zero, List.set_cons_succ]
            refine wpAnyH_take (i := 4) (oi := _) (v := ?_) rfl (by kernel_rfl) (by kernel_rfl) (by kernel_rfl) (fun _ _ _ h => h) (Or.inl ⟨by rfl, ?_⟩) (by assumption) ?_
            rotate_left
            · (intro w hSw; (try dsimp only at hSw); simp only [List.getElem_toArray, List.getElem_cons_zero, List.getElem_cons_succ]; go_simp; try with_reducible rfl)
            simp only [List.getElem_toArray, List.getElem_cons_zero, List.getElem_cons_succ, Act.put, List.setIfInBounds_toArray, List.set_cons_zero, List.set_cons_succ]
            refine wpAnyH_take (i := 5) (oi := _) (v := ?_) rfl (by kernel_rfl) (by kernel_rfl) (by kernel_rfl) (fun _ _ _ h => h) (Or.inl ⟨by rfl, ?_⟩) (by assumption) ?_
            rotate_left
            · (intro w hSw; (try dsimp only at hSw); simp only [List.getElem_toArray, List.getElem_cons_zero, List.getElem_cons_succ]; go_simp; try with_reducible rfl)
            simp only [List.getElem_toArray, List.getElem_cons_zero, List.getElem_cons_succ, Act.put, List.setIfInBounds_toArray, List.set_cons_zero, List.set_cons_succ]
            refine wpAnyH_take (i := 6) (oi := _) (v := ?_) rfl (by kernel_rfl) (by kernel_rfl) (by kernel_rfl) (fun _ _ _ h => h) (Or.inl ⟨by rfl, ?_⟩) (by assumption) ?_
            rotate_left
            · (intro w hSw; (try dsimp only at hSw); simp only [List.getElem_toArray, List.getElem_cons_zero, List.getElem_cons_succ]; go_simp; try with_reducible rfl)
            simp only [List.getElem_toArray, List.getElem_cons_zero, List.getElem_cons_succ, Act.put, List.setIfInBounds_toArray, List.set_cons_zero, List.set_cons_succ]
            refine wpAnyH_take (i := 7) (oi := _) (v := ?_) rfl (by kernel_rfl) (by kernel_rfl) (by kernel_rfl) (fun _ _ _ h => h) (Or.inl ⟨by rfl, ?_⟩) (by assumption) ?_
            rotate_left
            · (intro w hSw; (try dsimp only at hSw); simp only [List.getElem_toArray, List.getElem_cons_zero, List.getElem_cons_succ]; go_simp; try with_reducible rfl)
            simp only [List.getElem_toArray, List.getElem_cons_zero, List.getElem_cons_succ, Act.put, List.setIfInBounds_toArray, List.set_cons_zero, List.set_cons_succ]
            refine wpAnyH_ready (rs := [1, 8]) (by kernel_rfl) (by simp) (AllReadyH.cons (o := _) rfl (fun K hK => ?_) (AllReadyH.cons (o := _) rfl (fun K hK => ?_) (AllReadyH.nil)))
            · try simp only [List.getElem_toArray, List.getElem_cons_zero, List.getElem_cons_succ]
              go_simp
              refine hK.out _ _ ?_ (fun hHeld => ?_)
              · exact hHeld
              clear hK K
              try simp only [List.getElem_toArray, List.getElem_cons_zero, List.getElem_cons_succ, Act.put, List.setIfInBounds_toArray, List.set_cons_zero, List.set_cons_succ]
              refine wpAnyH_ready (rs := [8]) (by kernel_rfl) (by simp) (AllReadyH.cons (o := _) rfl (fun K hK => ?_) (AllReadyH.nil))
              try simp only [List.getElem_toArray, List.getElem_cons_zero, List.getElem_cons_succ]
              go_simp
              refine (CP.out _).mono ?_
              rintro e w4 ⟨rfl, hb4⟩
              have m4 := (HL3.out.below (Below.refl _ _).drew).below hb4
              obtain ⟨y0, y1, y2, y3⟩ := m4.now.all
              try go_simp
              refine hK.out _ _ ?_ (fun hHeld => ?_)
              · exact m4.S2
              clear hK K
              try simp only [List.getElem_toArray, List.getElem_cons_zero, List.getElem_cons_succ, Act.put, List.setIfInBounds_toArray, List.set_cons_zero, List.set_cons_succ]
              refine wpAnyH_ready (rs := [9]) (by kernel_rfl) (by simp) (AllReadyH.cons (o := _) rfl (fun K hK => ?_) (AllReadyH.nil))
              try simp only [List.getElem_toArray, List.getElem_cons_zero, List.getElem_cons_succ]
              go_simp
              refine (CN.out _ m4).mono ?_
              rintro e w5 ⟨rfl, hb5⟩
              have m5 := m4.below hb5
              obtain ⟨z0, z1, z2, z3⟩ := m5.now.all
              obtain ⟨q0, q1, q2, q3⟩ := m5.now.frz
              try go_simp
              refine hK.out _ _ ?_ (fun hHeld => ?_)
              · exact m5.S2
              clear hK K
              try simp only [List.getElem_toArray, List.getElem_cons_zero, List.getElem_cons_succ, Act.put, List.setIfInBounds_toArray, List.set_cons_zero, List.set_cons_succ]
              refine wpAnyH_ready (rs := [10]) (by kernel_rfl) (by simp) (AllReadyH.cons (o := _) rfl (fun K hK => ?_) (AllReadyH.nil))
              try simp only [List.getElem_toArray, List.getElem_cons_zero, List.getElem_cons_succ]
              go_simp
              refine hK.out _ _ ?_ (fun hHeld => ?_)
              · exact (m5.put (a + 1)).S2
              clear hK K
              try simp only [List.getElem_toArray, List.getElem_cons_zero, List.getElem_cons_succ, Act.put, List.setIfInBounds_toArray, List.set_cons_zero, List.set_cons_succ]
              refine wpAnyH_done (by kernel_rfl) ?_ _
              refine NoPanic.normal ?_
              have HP : Hid (ItL ss b off cap s i bf bw bs ba W.heap.size nb (a + 1) (putS w5 nb (curS ss s.data.toList i (a + 1))) ∧ J (ahead l (a + 1)) (putS w5 nb (curS ss s.data.toList i (a + 1)))) := ⟨m5.put (a + 1), HJ.out _ _ _ (some nb) (abN_below HJ.out (abN_below HJ.out (abN_below HJ.out HJ3.out (Below.refl _ _).drew) hb4) hb5) (grown_putS _ _ _) (fun r e => by cases e; exact ⟨m5.lo, ⟨_, m5.now, rfl⟩, m5.fn⟩)⟩
              clear m4 m5 y0 y1 y2 y3 z0 z1 z2 z3 q0 q1 q2 q3 hHeld CP CN c0 c1 c2 c3 f0 f1 f2 f3 r0 r1 HL3 HJ3
              gi_wp2
              exact ⟨⟨a + 1, by omega, by omega, by go_num, HP⟩, by simp [intOf]; omega⟩
            · try simp only [List.getElem_toArray, List.getElem_cons_zero, List.getElem_cons_succ]
              go_simp
              refine (CP.out _).mono ?_
              rintro e w4 ⟨rfl, hb4⟩
              have m4 := (HL3.out.below (Below.refl _ _).drew).below hb4
              obtain ⟨y0, y1, y2, y3⟩ := m4.now.all
              try go_simp
              refine hK.out _ _ ?_ (fun hHeld => ?_)
              · exact m4.S2
              clear hK K
              try simp only [List.getElem_toArray, List.getElem_cons_zero, List.getElem_cons_succ, Act.put, List.setIfInBounds_toArray, List.set_cons_zero, List.set_cons_succ]
              refine wpAnyH_ready (rs := [1]) (by kernel_rfl) (by simp) (AllReadyH.cons (o := _) rfl (fun K hK => ?_) (AllReadyH.nil))
              try simp only [List.getElem_toArray, List.getElem_cons_zero, List.getElem_cons_succ]
              go_simp
              refine hK.out _ _ ?_ (fun hHeld => ?_)
              · exact m4.S2
              clear hK K
              try simp only [List.getElem_toArray, List.getElem_cons_zero, List.getElem_cons_succ, Act.put, List.setIfInBounds_toArray, List.set_cons_zero, List.set_cons_succ]
              refine wpAnyH_ready (rs := [9]) (by kernel_rfl) (by simp) (AllReadyH.cons (o := _) rfl (fun K hK => ?_) (AllReadyH.nil))
              try simp only [List.getElem_toArray, List.getElem_cons_zero, List.getElem_cons_succ]
              go_simp
              refine (CN.out _ m4).mono ?_
              rintro e w5 ⟨rfl, hb5⟩
              have m5 := m4.below hb5
              obtain ⟨z0, z1, z2, z3⟩ := m5.now.all
              obtain ⟨q0, q1, q2, q3⟩ := m5.now.frz
              try go_simp
              refine hK.out _ _ ?_ (fun hHeld => ?_)
              · exact m5.S2
              clear hK K
              try simp only [List.getElem_toArray, List.getElem_cons_zero, List.getElem_cons_succ, Act.put, List.setIfInBounds_toArray, List.set_cons_zero, List.set_cons_succ]
              refine wpAnyH_ready (rs := [10]) (by kernel_rfl) (by simp) (AllReadyH.cons (o := _) rfl (fun K hK => ?_) (AllReadyH.nil))
              try simp only [List.getElem_toArray, List.getElem_cons_zero, List.getElem_cons_succ]
              go_simp
              refine hK.out _ _ ?_ (fun hHeld => ?_)
              · exact (m5.put (a + 1)).S2
              clear hK K
              try simp only [List.getElem_toArray, List.getElem_cons_zero, List.getElem_cons_succ, Act.put, List.setIfInBounds_toArray, List.set_cons_zero, List.set_cons_succ]
              refine wpAnyH_done (by kernel_rfl) ?_ _
              refine NoPanic.normal ?_
              have HP : Hid (ItL ss b off cap s i bf bw bs ba W.heap.size nb (a + 1) (putS w5 nb (curS ss s.data.toList i (a + 1))) ∧ J (ahead l (a + 1)) (putS w5 nb (curS ss s.data.toList i (a + 1)))) := ⟨m5.put (a + 1), HJ.out _ _ _ (some nb) (abN_below HJ.out (abN_below HJ.out (abN_below HJ.out HJ3.out (Below.refl _ _).drew) hb4) hb5) (grown_putS _ _ _) (fun r e => by cases e; exact ⟨m5.lo, ⟨_, m5.now, rfl⟩, m5.fn⟩)⟩
              clear m4 m5 y0 y1 y2 y3 z0 z1 z2 z3 q0 q1 q2 q3 hHeld CP CN c0 c1 c2 c3 f0 f1 f2 f3 r0 r1 HL3 HJ3
              gi_wp2
              exact ⟨⟨a + 1, by omega, by omega, by go_num, HP⟩, by simp [intOf]; omega⟩
theorem enters_yiter : ∀ args w, (callFunc 51 args).run Tryd.prog w = .ok (.enter 51 args) w := fun _ _ => by kernel_rfl
end Go.Proofs.YtgnmlnfddcnkbaaDoor
namespace Go.Proofs.YtgnmlnfddcnkbaaDoor
set_option linter.unusedSimpArgs false
set_option linter.unusedVariables false
set_option maxRecDepth 100000
open Go.RowKit Go.Shelf
attribute [local go_sem] Oper.semAt_some
theorem plE_form (n : Nat) (i : Int) : errV (plE n i) = .nilIface ∨ ∃ z, errV (plE n i) = .iface 45 (.int .i64 z) := by
  unfold errV
  by_cases h : plE n i = 0
  · exact Or.inl (if_pos h)
  · exact Or.inr ⟨_, if_neg h⟩
set_option maxHeartbeats 2000000 in
theorem checked_ok (ss : List St) (v : Value) (s : ByteArray) (i : Int) (w : World) (hf : stepsF ss = 0) (hS : SsIn w v ss) (hs : s.size ≤ maxLen) :
    Calls Tryd.prog 25 #[v, .string s, .int .i64 i] w fun e w' => ∃ g c, e = .returned (.tuple #[wyV g 0 ss.length c, errV (plE s.size i)]) ∧ Below w.heap.size w w' ∧ SsAt w' g 0 ss ∧ w.heap.size ≤ g ∧ g < w'.heap.size := by
  have HC := hid (fun w' (h : SsIn w' v ss) => waysOf_ok ss v w' hf h)
  have HP := hid (fun w' => checkPlace_any s i w' hs)
  have HS := hid hS
  obtain ⟨a, cap, rfl, hm⟩ := ssIn_form hS
  have hb0 : Below w.heap.size w (w.alloc (.cells #[.slice none 0 0] 66)) := (Below.refl _ _).alloc (Nat.le_refl _) _
  have HS0 := hid (HS.out.below hb0)
  have hh0 : (w.alloc (.cells #[.slice none 0 0] 66)).heap[w.heap.size]? = some (.cells #[.slice none 0 0] 66 (0, 0)) := World.alloc_heap_new w _
  have hs0 : (w.alloc (.cells #[.slice none 0 0] 66)).heap.size = w.heap.size + 1 := by simp
  obtain ⟨w0, hw0⟩ : ∃ w0, w.alloc (.cells #[.slice none 0 0] 66) = w0 := ⟨_, rfl⟩
  rw [hw0] at hb0 HS0 hh0 hs0
  have HH := hid hh0
  have HB0 := hid hb0
  clear hf hm HS hh0 hb0 hS hs
  rcases plE_form s.size i with hE | ⟨z, hE⟩ <;> rw [hE] at HP ⊢
  all_goals
    go_enter Tryd.func25, Tryd.ntmps25
    go_wp2_with fail
    refine Calls.mono (HC.out _ HS0.out) ?_
    rintro e w1 ⟨g, c, rfl, hb1, hN1, hg1, hgl1⟩
    have HB1 := hid (HB0.out.trans (hb1.mono HB0.out.size))
    have hh1 : Boxed w1 w.heap.size 66 (.slice none 0 0) := (hb1.block _ (heap_lt HH.out)).trans HH.out
    obtain ⟨w2, hw2⟩ : ∃ w2, w1.alloc (.cells #[.slice (some ⟨g, 0, none⟩) ss.length c] 66) = w2 := ⟨_, rfl⟩
    have hb2 : Below w1.heap.size w1 w2 := by rw [← hw2]; exact (Below.refl _ _).alloc (Nat.le_refl _) _
    have hh2 : Boxed w2 w1.heap.size 66 (.slice (some ⟨g, 0, none⟩) ss.length c) := by rw [← hw2]; exact World.alloc_heap_new w1 _
    have hbx2 : Boxed w2 w.heap.size 66 (.slice none 0 0) := (hb2.block _ (heap_lt hh1)).trans hh1
    have hsz1 := heap_lt hh1
    have c1 := hh2.cell
    have HK : Hid (∀ w3, Below w2.drew.heap.size w2.drew w3 → w3.cell? ⟨w1.heap.size, 0, none⟩ = some (.slice (some ⟨g, 0, none⟩) ss.length c) ∧ Boxed w3 w.heap.size 66 (.slice none 0 0) ∧ Below w.heap.size w (w3.setCell ⟨w.heap.size, 0, none⟩ (.slice (some ⟨g, 0, none⟩) ss.length c)) ∧ SsAt (w3.setCell ⟨w.heap.size, 0, none⟩ (.slice (some ⟨g, 0, none⟩) ss.length c)) g 0 ss ∧ w.heap.size ≤ g ∧ g < (w3.setCell ⟨w.heap.size, 0, none⟩ (.slice (some ⟨g, 0, none⟩) ss.length c)).heap.size) := fun w3 hb3 => by
      have hb : Below w1.heap.size w1 w3 := hb2.drew.trans (hb3.mono hb2.size)
      refine ⟨(hb3.cell (p := ⟨w1.heap.size, 0, none⟩) (heap_lt hh2)).trans hh2.cell, (hb.block _ (heap_lt hh1)).trans hh1, (HB1.out.trans (hb.mono HB1.out.size)).setCell (p := ⟨w.heap.size, 0, none⟩) (Nat.le_refl _) _, ?_, by omega, ?_⟩
      · exact (hN1.below hb hgl1).grown (grown_setS w3 w.heap.size 0 _) (Nat.lt_of_lt_of_le hgl1 hb.size) (by intro e; injection e with e; omega)
      · have := hb.size
        simp
        omega
    clear hb1 hN1 hg1 hgl1 hh1 hb2 hh2 hw0
    go_wp2_with fail
    go_region_with (go_at_call 40; refine (HP.out _).mono ?_; rintro e w3 ⟨rfl, hb3⟩; obtain ⟨d1, hbx3, _⟩ := HK.out _ hb3; have u0 := hbx3.cell; have z0 := hbx3.frozen)
    all_goals
      have c3 := (hbx3.set (.slice (some ⟨g, 0, none⟩) ss.length c)).cell
      have HR := hid (HK.out _ hb3).2.2
      go_wp2
      refine bodyPost_ret (v := .tuple #[wyV g 0 ss.length c, _]) (by simp [results, Tryd.results25, go_sem, c3]) rfl ⟨g, c, rfl, HR.out⟩
set_option maxHeartbeats 2000000 in
theorem checked_bad (ss : List St) (v : Value) (s : ByteArray) (i : Int) (w : World) (hf : ¬ stepsF ss = 0) (hS : SsIn w v ss) :
    Calls Tryd.prog 25 #[v, .string s, .int .i64 i] w fun e w' => e = .returned (.tuple #[.agg #[.slice none 0 0], errV (stepsF ss)]) ∧ Below w.heap.size w w' := by
  have HC := hid (fun w' (h : SsIn w' v ss) => waysOf_bad ss v w' hf h)
  have HS := hid hS
  obtain ⟨a, cap, rfl, hm⟩ := ssIn_form hS
  have hE : errV (stepsF ss) = .iface 45 (.int .i64 (stepsF ss)) := by unfold errV; rw [if_neg hf]
  rw [hE] at HC ⊢
  have hb0 : Below w.heap.size w (w.alloc (.cells #[.slice none 0 0] 66)) := (Below.refl _ _).alloc (Nat.le_refl _) _
  have HS0 := hid (HS.out.below hb0)
  have hh0 : (w.alloc (.cells #[.slice none 0 0] 66)).heap[w.heap.size]? = some (.cells #[.slice none 0 0] 66 (0, 0)) := World.alloc_heap_new w _
  obtain ⟨w0, hw0⟩ : ∃ w0, w.alloc (.cells #[.slice none 0 0] 66) = w0 := ⟨_, rfl⟩
  rw [hw0] at hb0 HS0 hh0
  have HH := hid hh0
  have HB0 := hid hb0
  clear hf hm HS hh0 hb0 hS
  go_enter Tryd.func25, Tryd.ntmps25
  go_wp2_with fail
  refine Calls.mono (HC.out _ HS0.out) ?_
  rintro e w1 ⟨rfl, hb1⟩
  have hB1 := HB0.out.trans (hb1.mono HB0.out.size)
  have hh1 : Boxed w1 w.heap.size 66 (.slice none 0 0) := (hb1.block _ (heap_lt HH.out)).trans HH.out
  have hh2 : Boxed (w1.alloc (.cells #[.slice none 0 0] 66)) w.heap.size 66 (.slice none 0 0) := hh1.alloc _
  have u0 := hh2.cell
  have z0 := hh2.frozen
  have c2 := (hh2.set (.slice none 0 0)).cell
  have HR := hid ((hB1.alloc hB1.size (.cells #[.slice none 0 0] 66)).setCell (p := ⟨w.heap.size, 0, none⟩) (Nat.le_refl _) (.slice none 0 0))
  clear hb1 hw0 HH HB0 HC HS0 hB1 hh1 hh2
  go_wp2
  refine bodyPost_ret (v := .tuple #[.agg #[.slice none 0 0], .iface 45 (.int .i64 (stepsF ss))]) (by simp [results, Tryd.results25, go_sem, c2]) rfl ⟨rfl, HR.out⟩
/-- What is wrong is told. -/
theorem checked_any (ss : List St) (v : Value) (s : ByteArray) (i : Int) (w : World) (hS : SsIn w v ss) (hs : s.size ≤ maxLen) :
    Calls Tryd.prog 25 #[v, .string s, .int .i64 i] w fun e w' => ∃ x n c, e = .returned (.tuple #[.agg #[.slice x n c], errV (simE ss s.size i)]) ∧ Below w.heap.size w w' := by
  rw [simE_eq]
  by_cases hf : stepsF ss = 0
  · rw [if_pos hf]
    refine (checked_ok ss v s i w hf hS hs).mono ?_
    rintro e w' ⟨g, c, rfl, hb, _⟩
    exact ⟨_, _, _, rfl, hb⟩
  · rw [if_neg hf]
    refine (checked_bad ss v s i w hf hS).mono ?_
    rintro e w' ⟨rfl, hb⟩
    exact ⟨_, _, _, rfl, hb⟩
set_option maxHeartbeats 1000000 in
theorem sends_bad (ss : List St) (v : Value) (s : ByteArray) (i : Int) (w : World) (hS : SsIn w v ss) (hs : s.size ≤ maxLen) (hE : ¬ simE ss s.size i = 0) :
    Calls Tryd.prog 9 #[v, .string s, .int .i64 i] w fun e w' => e = .returned (.tuple #[.slice none 0 0, errV (simE ss s.size i)]) ∧ Below w.heap.size w w' := by
  have HC := hid (checked_any ss v s i w hS hs)
  obtain ⟨a, cap, rfl, hm⟩ := ssIn_form hS
  rw [show errV (simE ss s.size i) = .iface 45 (.int .i64 (simE ss s.size i)) by unfold errV; rw [if_neg hE]] at HC ⊢
  clear hS hE
  go_enter Tryd.func9, Tryd.ntmps9
  go_wp2_with fail
  refine Calls.mono HC.out ?_
  rintro e w1 ⟨x, n, c, rfl, hb⟩
  go_wp2
  go_ret2
  exact ⟨rfl, hb.alloc hb.size _⟩
set_option maxHeartbeats 1000000 in
theorem slong_bad (ss : List St) (v : Value) (s : ByteArray) (i : Int) (w : World) (hS : SsIn w v ss) (hs : s.size ≤ maxLen) (hE : ¬ simE ss s.size i = 0) :
    Calls Tryd.prog 13 #[v, .string s, .int .i64 i] w fun e w' => e = .returned (.tuple #[.int .i64 0, errV (simE ss s.size i)]) ∧ Below w.heap.size w w' := by
  have HC := hid (checked_any ss v s i w hS hs)
  obtain ⟨a, cap, rfl, hm⟩ := ssIn_form hS
  rw [show errV (simE ss s.size i) = .iface 45 (.int .i64 (simE ss s.size i)) by unfold errV; rw [if_neg hE]] at HC ⊢
  clear hS hE
  go_enter Tryd.func13, Tryd.ntmps13
  go_wp2_with fail
  refine Calls.mono HC.out ?_
  rintro e w1 ⟨x, n, c, rfl, hb⟩
  go_wp2
  go_ret2
  exact ⟨rfl, hb.alloc hb.size _⟩
end Go.Proofs.YtgnmlnfddcnkbaaDoor
