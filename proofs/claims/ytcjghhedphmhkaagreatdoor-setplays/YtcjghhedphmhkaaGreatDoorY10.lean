/- Own texts. -/
import Derived.Test.YtcjghhedphmhkaaGreatDoorY09
import Derived.Lib.SmallJoins
import Derived.DeepKeys4
import Derived.Maps.Range
set_option linter.unusedSimpArgs false
set_option linter.unusedVariables false
set_option maxRecDepth 100000
set_option maxHeartbeats 8000000
namespace Go.Proofs.YtcjghhedphmhkaaGreatDoor
open Go.RowKit Go.Shelf
attribute [local go_sem] Oper.semAt_some
def ycAt (ss : List St) (b off cap : Nat) (fi la : Bool) (z : Nat) : Yc:=⟨ss,b,off,cap,fi,la,z + 1 + 1 + 1 + 1,z,z + 1 + 1 + 1 + 1 + 1,z + 1 + 1⟩
theorem ycAt_good (ss : List St) (b off cap : Nat) (fi la : Bool) (z : Nat) (hf : stepsF ss = 0) (hb : b < z) : (ycAt ss b off cap fi la z).Good:=by
  constructor <;> first | assumption | (simp only [ycAt]; omega)
theorem heap_at6 (w : World) (o0 o1 o2 o3 o4 o5 : Obj) (W : World) (h : W = (((((w.alloc o0).alloc o1).alloc o2).alloc o3).alloc o4).alloc o5) : W.heap[w.heap.size]? = some o0 ∧ W.heap[w.heap.size + 1]? = some o1 ∧ W.heap[w.heap.size + 1 + 1]? = some o2 ∧ W.heap[w.heap.size + 1 + 1 + 1]? = some o3 ∧ W.heap[w.heap.size + 1 + 1 + 1 + 1]? = some o4 ∧ W.heap[w.heap.size + 1 + 1 + 1 + 1 + 1]? = some o5 ∧ Below w.heap.size w W ∧ W.heap.size = w.heap.size + 6:=by
  subst h
  have key : ∀ (W : World) (o : Obj) (k : Nat) (x : Obj),W.heap[k]? = some x → (W.alloc o).heap[k]? = some x:=fun W o k x h => (Below.heap_alloc W o k (heap_lt h)).trans h
  have new : ∀ (W : World) (o : Obj) (k : Nat),k = W.heap.size → (W.alloc o).heap[k]? = some o:=fun W o k e => e ▸ World.alloc_heap_new W o
  exact ⟨key _ _ _ _ (key _ _ _ _ (key _ _ _ _ (key _ _ _ _ (key _ _ _ _ (new _ _ _ rfl))))),key _ _ _ _ (key _ _ _ _ (key _ _ _ _ (key _ _ _ _ (new _ _ _ (by simp))))),key _ _ _ _ (key _ _ _ _ (key _ _ _ _ (new _ _ _ (by simp)))),key _ _ _ _ (key _ _ _ _ (new _ _ _ (by simp))),key _ _ _ _ (new _ _ _ (by simp)),new _ _ _ (by simp),
    (((((((Below.refl _ _).alloc (Nat.le_refl _) _).alloc (by simp) _).alloc (by simp; omega) _).alloc (by simp; omega) _).alloc (by simp; omega) _).alloc (by simp; omega) _),by simp⟩
theorem cells_keep {X Y : World} {row : Option Nat} (hg : X.grownBy Y row) (hr : ∀ r,row = some r → ∃ o : Obj,X.heap[r]? = some o ∧ o.isCells = false) {k : Nat} {o : Obj} (h : X.heap[k]? = some o) (ho : o.isCells = true) : Y.heap[k]? = some o:=by
  refine (hg.block k (heap_lt h) (fun e => ?_)).trans h
  obtain ⟨o',h',hc⟩:=hr k e.symm
  rw [h] at h'
  obtain rfl:=Option.some.inj h'
  rw [ho] at hc
  cases hc
theorem cells_keepc {X Y : World} {row : Option Nat} (hg : X.grownBy Y row) (hr : ∀ r,row = some r → ∃ o : Obj,X.heap[r]? = some o ∧ o.isCells = false) {k i : Nat} {v : Value} (h : X.cell? ⟨k,i,none⟩ = some v) : Y.cell? ⟨k,i,none⟩ = some v:=by
  obtain ⟨ob,h1,h2⟩:=cell_block h
  rw [cell_of_block h1 (cells_keep hg hr h1 h2),h]
theorem SsAt.keep {X Y : World} {row : Option Nat} (hg : X.grownBy Y row) (hr : ∀ r,row = some r → ∃ o : Obj,X.heap[r]? = some o ∧ o.isCells = false) {b off : Nat} {ss : List St} (h : SsAt X b off ss) : SsAt Y b off ss:=fun i n hi => by
  obtain ⟨h0,h1,h2,h3,h4,h5,h6⟩:=h i n hi
  exact ⟨cells_keepc hg hr h0,cells_keepc hg hr h1,cells_keepc hg hr h2,cells_keepc hg hr h3,cells_keepc hg hr h4,cells_keepc hg hr h5,cells_keepc hg hr h6⟩
theorem Hq.keep {X Y : World} {row : Option Nat} (hg : X.grownBy Y row) (hr : ∀ r,row = some r → ∃ o : Obj,X.heap[r]? = some o ∧ o.isCells = false) {b : Nat} {p : Nat → Bool} (h : Hq X b p) : Hq Y b p:=cells_keep hg hr h rfl
def YcR (c : Yc) (z : Nat) (w : World) (pre : List Nat) (W : World) : Prop:=∃ S,c.At W S ∧ Vst c.ss (tx c.fi c.la) (pc c.fi) [] S pre ∧ Hq W z noP ∧ Below w.heap.size w W
theorem ycR_own (c : Yc) (z : Nat) (w : World) (B : Nat) (hB : w.heap.size ≤ B) : OwnFrom B (YcR c z w):=fun pre X Y row hs hg hr => by
  obtain ⟨S,hA,hV,hq,hb⟩:=hs
  have hr2:=fun r e => (hr r e).2
  refine ⟨S,⟨hA.steps.keep hg hr2,cells_keepc hg hr2 hA.r0,cells_keepc hg hr2 hA.a0,cells_keepc hg hr2 hA.a1,cells_keepc hg hr2 hA.v0,hA.found.keep hg hr2,hA.nod,hA.lt,Nat.lt_of_lt_of_le hA.blt hg.size⟩,hV,hq.keep hg hr2,?_⟩
  exact hb.grown hg hb.size (fun k e => Nat.le_trans hB (hr k e).1)
theorem Hq.putK {W : World} {b D : Nat} {p : Nat → Bool} (h : Hq W b p) (hK : W.heap[D]? = some (.deferred (some []))) (o : Obj) : Hq (W.putObj D o) b p:=by
  have hne : b ≠ D:=fun e => by
    rw [← e,show W.heap[b]? = _ from h] at hK
    cases hK
  exact (World.putObj_heap_other hne).trans h
theorem hq_def {W : World} {b D : Nat} {p : Nat → Bool} (h : Hq W b p) (q : Nat → Bool) (hK : W.heap[D]? = some (.deferred (some []))) : (putS W b q).heap[D]? = some (.deferred (some [])):=by
  have hne : D ≠ b:=fun e => by
    rw [e,show W.heap[b]? = _ from h] at hK
    cases hK
  exact ((grown_putS W b q).block D (heap_lt hK) (by intro e; injection e with e; exact hne e)).trans hK
theorem sreached_in (ss : List St) (hf : stepsF ss = 0) (b off cap : Nat) (p : Nat → Bool) (hp : Sub ss p) (fi la : Bool) (w : World) (hT : Tab w) (hlt : b < w.heap.size) (hN : SsAt w b off ss) :
    CallsIn Fence.wide 3 Tryz.prog 138 #[wyV b off ss.length cap,stV p,pcV fi la] w fun e w' => e = .returned (stV (cloF ss fi la p)) ∧ Below w.heap.size w w':=by
  have HG:=hid (ycAt_good ss b off cap fi la w.heap.size hf hlt)
  have HV:=hid (yvisit_any _ HG.out)
  have h200:=(stepsF_zero hf).1
  obtain ⟨W0,hW0⟩ : ∃ W0,W0 = (((((w.alloc (.cells #[.slice (some ⟨b,off,none⟩) ss.length cap] 160)).alloc (.cells #[.int .u64 (wd p 0),.int .u64 (wd p 1),.int .u64 (wd p 2),.int .u64 (wd p 3)] 207)).alloc (.cells #[.bool fi,.bool la] 204)).alloc (.cells #[.int .u64 0,.int .u64 0,.int .u64 0,.int .u64 0] 207)).alloc (.cells #[.int .u64 0,.int .u64 0,.int .u64 0,.int .u64 0] 207)).alloc (.cells #[.nilFunc] 95):=⟨_,rfl⟩
  obtain ⟨k0,k1,k2,k3,k4,k5,hB0,hs0⟩:=heap_at6 w _ _ _ _ _ _ W0 hW0
  have u5 : W0.cell? ⟨w.heap.size + 1 + 1 + 1 + 1 + 1,0,none⟩ = some .nilFunc:=(Lib.cell_of_heap k5 0).trans rfl
  have z5:=Lib.frozen_of_heap k5 0
  obtain ⟨W1,hW1⟩ : ∃ W1,W0.setCell ⟨w.heap.size + 1 + 1 + 1 + 1 + 1,0,none⟩ (ycAt ss b off cap fi la w.heap.size).v = W1:=⟨_,rfl⟩
  have hg1 : W0.grownBy W1 (some (w.heap.size + 1 + 1 + 1 + 1 + 1)):=by rw [← hW1]; exact grown_setS _ _ _ _
  have hB1 : Below w.heap.size w W1:=by rw [← hW1]; exact hB0.setCell (p:=⟨w.heap.size + 1 + 1 + 1 + 1 + 1,0,none⟩) (by simp only; omega) _
  have hs1 : W1.heap.size = w.heap.size + 6:=by rw [← hW1]; simpa using hs0
  have kk : ∀ j o,j ≠ w.heap.size + 1 + 1 + 1 + 1 + 1 → W0.heap[j]? = some o → W1.heap[j]? = some o:=fun j o hj h => (hg1.block j (heap_lt h) (by intro e; injection e with e; exact hj e)).trans h
  have m0:=kk _ _ (by omega) k0
  have m1 : Hq W1 (w.heap.size + 1) p:=kk _ _ (by omega) k1
  have m2:=kk _ _ (by omega) k2
  have m3 : Hq W1 (w.heap.size + 1 + 1 + 1) noP:=by
    have:=kk _ _ (by omega) k3
    unfold Hq
    rw [wd_no,wd_no,wd_no,wd_no]
    exact this
  have m4 : Hq W1 (w.heap.size + 1 + 1 + 1 + 1) (fun j => decide (j ∈ ([] : List Nat))):=by
    have:=kk _ _ (by omega) k4
    have e : (fun j => decide (j ∈ ([] : List Nat))) = noP:=by funext j; simp [noP]
    rw [e]
    unfold Hq
    rw [wd_no,wd_no,wd_no,wd_no]
    exact this
  have m5 : W1.heap[w.heap.size + 1 + 1 + 1 + 1 + 1]? = some (.cells #[(ycAt ss b off cap fi la w.heap.size).v] 95 (0,0)):=by
    rw [← hW1]
    simp [World.setCell,Array.getElem?_modify,k5]
  have hA1 : (ycAt ss b off cap fi la w.heap.size).At W1 []:=⟨hN.below hB1 hlt,(Lib.cell_of_heap m0 0).trans rfl,(Lib.cell_of_heap m2 0).trans rfl,(Lib.cell_of_heap m2 1).trans rfl,(Lib.cell_of_heap m5 0).trans rfl,m4,by simp,by simp,Nat.lt_of_lt_of_le hlt hB1.size⟩
  obtain ⟨j0,j1,j2,j3⟩:=m1.all
  have HR1 : Hid (YcR (ycAt ss b off cap fi la w.heap.size) (w.heap.size + 1 + 1 + 1) w [] W1):=⟨[],hA1,Vst.refl _ _ _ _ _ (by simp),m3,hB1⟩
  unfold Yc.v ycAt at hW1
  replace hW0:=hW0.symm
  clear k0 k1 k2 k3 k4 k5 m0 m1 m2 m3 m4 m5 kk hg1 hA1 hB0 hB1
  refine callsIn_of_wp_marks Tryz.func138 rfl trivial ?_ rfl
  simp only [Tryz.ntmps138,List.size_toArray,List.length_cons,List.length_nil,Nat.reduceAdd,Nat.reduceSub,Array.replicate_succ,Array.replicate_zero,List.push_toArray,List.append_toArray,List.nil_append,List.cons_append]
  unfold stV
  gi_wp2_with fail
  refine wpIn_runsTo rfl (by omega) 140 #[stV p] rfl trivial enters_srising (fun x : Nat => Value.int .i64 (x : Int)) Tab (el p 256) (srises (3 - 1) (by omega) p) rfl
    (YcR (ycAt ss b off cap fi la w.heap.size) (w.heap.size + 1 + 1 + 1) w) (fun _ _ => False)
    (ycR_own _ _ _ _ (by omega)) (ownFrom_pure _ (fun _ => False))
    (fun pre W h => by obtain ⟨_,_,_,_,hb⟩:=h; exact hT.below hb (Nat.le_refl _))
    HR1.out
    (fun x => { tmps:=#[wyV b off ss.length cap,stV p,pcV fi la,.pointer (some ⟨w.heap.size,0,none⟩),.pointer (some ⟨w.heap.size + 1,0,none⟩),.pointer (some ⟨w.heap.size + 1 + 1,0,none⟩),.pointer (some ⟨w.heap.size + 1 + 1 + 1,0,none⟩),.pointer (some ⟨w.heap.size + 1 + 1 + 1 + 1,0,none⟩),.pointer (some ⟨w.heap.size + 1 + 1 + 1 + 1 + 1,0,none⟩),.int .i64 (x : Int),(ycAt ss b off cap fi la w.heap.size).v,stV p,.func (.func 140) #[stV p] #[],.int .i64 (x : Int),undef,undef,undef,undef],defers:=[] }) ?assign ?body ?done ?stop
  case assign =>
    intro l x W K hK
    gi_wp2
    exact hK
  case body =>
    rintro l pre x rest W hx ⟨S,hA,hV,hq,hB⟩
    obtain ⟨hpx,hxl⟩:=el_one hp hx
    have v0 : W.cell? ⟨w.heap.size + 1 + 1 + 1 + 1 + 1,0,none⟩ = some (.func (.func 151) #[] #[.pointer (some ⟨w.heap.size + 1 + 1 + 1 + 1,0,none⟩),.pointer (some ⟨w.heap.size,0,none⟩),.pointer (some ⟨w.heap.size + 1 + 1 + 1 + 1 + 1,0,none⟩),.pointer (some ⟨w.heap.size + 1 + 1,0,none⟩)]):=hA.v0
    have C:=hid (HV.out ss.length S x W (by show ss.length ≤ _; omega) hxl hA)
    have HA:=hid hA
    have HVS:=hid hV
    have HB:=hid hB
    have HQ:=hid hq
    clear hA hV hB hq hx hW0 hW1 u5 z5 j0 j1 j2 j3 HR1
    gi_wp2_with fail
    refine ⟨trivial,(callsIn_wide.2 C.out).mono ?_⟩
    rintro e W6 ⟨vv,S1,rfl,hA6,hV6,hg6⟩
    gi_wp2
    have hg6' : W.grownBy W6 (some (w.heap.size + 1 + 1 + 1 + 1)):=hg6
    refine ⟨⟨hg6'.size,fun k o hk ho _ => ?_⟩,S1,hA6,HVS.out.comp hV6,HQ.out.grown hg6' (by intro e; injection e with e; omega),HB.out.grown hg6' HB.out.size (fun k e => by injection e with e; omega)⟩
    exact (hg6'.block k (heap_lt ho) (by intro e; injection e with e; omega)).trans ho
  case done =>
    rintro D W hD ⟨S,hA,hV,hq,hB⟩ hK
    have hcl : (fun j => decide (j ∈ S)) = cloF ss fi la p:=clo_list h200 hp hV
    have hF : Hq W (w.heap.size + 1 + 1 + 1 + 1) (cloF ss fi la p):=by rw [← hcl]; exact hA.found
    obtain ⟨c0,c1,c2,c3⟩:=hF.all
    obtain ⟨d0,d1,d2,d3⟩:=hq.all
    obtain ⟨f0,f1,f2,f3⟩:=hq.frz
    have HF:=hid hF
    have HQ:=hid hq
    have HB:=hid hB
    clear hF hq hB hA hV hcl hW0 hW1 u5 z5 j0 j1 j2 j3 HR1
    gi_wp2
    have hKD:=hq_def HQ.out (cloF ss fi la p) hK
    have hq2:=(HQ.out.putS (cloF ss fi la p)).putK hKD (.deferred none)
    obtain ⟨e0,e1,e2,e3⟩:=hq2.all
    refine ⟨by simp,.inl ⟨_,_,rfl,run_takeDeferred hKD,?_⟩⟩
    refine ⟨stV (cloF ss fi la p),by simp [results,Tryz.results138,go_sem,stV,e0,e1,e2,e3],rfl,?_⟩
    exact (below_putS HB.out (by omega) _).trans (belowK_b (w:=w) (Nat.le_refl _) _ D _ _ (by omega) hKD rfl rfl)
  case stop =>
    intro D pre W _ h
    exact h.elim
theorem sreached_any (ss : List St) (hf : stepsF ss = 0) (b off cap : Nat) (p : Nat → Bool) (hp : Sub ss p) (fi la : Bool) (w : World) (hT : Tab w) (hlt : b < w.heap.size) (hN : SsAt w b off ss) :
    Calls Tryz.prog 138 #[wyV b off ss.length cap,stV p,pcV fi la] w fun e w' => e = .returned (stV (cloF ss fi la p)) ∧ Below w.heap.size w w':=callsIn_wide.1 (sreached_in ss hf b off cap p hp fi la w hT hlt hN)
attribute [local go_sem] Oper.semAt_some
theorem heap_at3 (w : World) (o0 o1 o2 : Obj) (W : World) (h : W = ((w.alloc o0).alloc o1).alloc o2) : W.heap[w.heap.size]? = some o0 ∧ W.heap[w.heap.size + 1]? = some o1 ∧ W.heap[w.heap.size + 1 + 1]? = some o2 ∧ Below w.heap.size w W ∧ W.heap.size = w.heap.size + 3:=by
  subst h
  have key : ∀ (W : World) (o : Obj) (k : Nat) (x : Obj),W.heap[k]? = some x → (W.alloc o).heap[k]? = some x:=fun W o k x h => (Below.heap_alloc W o k (heap_lt h)).trans h
  have new : ∀ (W : World) (o : Obj) (k : Nat),k = W.heap.size → (W.alloc o).heap[k]? = some o:=fun W o k e => e ▸ World.alloc_heap_new W o
  exact ⟨key _ _ _ _ (key _ _ _ _ (new _ _ _ rfl)),key _ _ _ _ (new _ _ _ (by simp)),new _ _ _ (by simp),(((Below.refl _ _).alloc (Nat.le_refl _) _).alloc (by simp) _).alloc (by simp; omega) _,by simp⟩
theorem sbegin_any (ss : List St) (hf : stepsF ss = 0) (b off cap : Nat) (fi la : Bool) (w : World) (hT : Tab w) (hlt : b < w.heap.size) (hN : SsAt w b off ss) :
    Calls Tryz.prog 126 #[wyV b off ss.length cap,pcV fi la] w fun e w' => e = .returned (stV (begS ss fi la)) ∧ Below w.heap.size w w':=by
  obtain ⟨w0,hw0⟩ : ∃ w0,w0 = (((w.alloc (.cells #[.slice (some ⟨b,off,none⟩) ss.length cap] 160)).alloc (.cells #[.bool fi,.bool la] 204)).alloc (.cells #[.int .u64 0,.int .u64 0,.int .u64 0,.int .u64 0] 207)):=⟨_,rfl⟩
  obtain ⟨k0,k1,k2,hB0,hs0⟩:=heap_at3 w _ _ _ w0 hw0
  have hK : Hid (∀ w',Below w0.drew.heap.size w0.drew w' → w'.cell? ⟨w.heap.size,0,none⟩ = some (.slice (some ⟨b,off,none⟩) ss.length cap) ∧ w'.cell? ⟨w.heap.size + 1,0,none⟩ = some (.bool fi) ∧ w'.cell? ⟨w.heap.size + 1,1,none⟩ = some (.bool la) ∧ Hq w' (w.heap.size + 1 + 1) noP ∧ Tab w' ∧ b < w'.heap.size ∧ SsAt w' b off ss ∧ Below w.heap.size w w'):=fun w' hb => by
    have hb2:=hB0.drew.trans (hb.mono (by show _ ≤ w0.heap.size; omega))
    refine ⟨(Lib.cell_of_heap ((hb.block _ (heap_lt k0)).trans k0) 0).trans rfl,(Lib.cell_of_heap ((hb.block _ (heap_lt k1)).trans k1) 0).trans rfl,(Lib.cell_of_heap ((hb.block _ (heap_lt k1)).trans k1) 1).trans rfl,?_,hT.below hb2 (Nat.le_refl _),Nat.lt_of_lt_of_le hlt hb2.size,hN.below hb2 hlt,hb2⟩
    unfold Hq
    rw [wd_no,wd_no,wd_no,wd_no]
    exact (hb.block _ (heap_lt k2)).trans k2
  obtain ⟨c0,p0,p1,hZ,_⟩:=hK.out w0.drew (Below.refl _ _)
  replace c0 : w0.cell? ⟨w.heap.size,0,none⟩ = _:=c0
  replace p0 : w0.cell? ⟨w.heap.size + 1,0,none⟩ = _:=p0
  replace p1 : w0.cell? ⟨w.heap.size + 1,1,none⟩ = _:=p1
  replace hZ : Hq w0 _ noP:=hZ
  obtain ⟨f0,f1,f2,f3⟩:=hZ.frz
  have CW:=hid (fun w => swith_any noP 0 (by omega) w)
  have CR:=hid (fun w' (hT : Tab w') hlt hN => sreached_any ss hf b off cap (withP noP 0) (zero_sub (stepsF_zero hf).2.1) fi la w' hT hlt hN)
  rw [stV_no] at CW
  clear k0 k1 k2 hB0 hs0 hT hlt hN hZ
  go_enter Tryz.func126,Tryz.ntmps126
  go_wp2_with fail
  rw [← hw0]
  clear hw0
  go_region_with (first
    | (go_at_call 139; refine (CW.out _).mono ?_; rintro e w1 ⟨rfl,hb1⟩; obtain ⟨c0',p0',p1',hZ',hT',hl',hN',_⟩:=hK.out w1 hb1; obtain ⟨g0,g1,g2,g3⟩:=hZ'.frz)
    | (go_at_call 138; refine (CR.out w1 hT' hl' hN').mono ?_; rintro e w2 ⟨rfl,hb2⟩; obtain ⟨_,_,_,hZ2,_,_,_,hB2⟩:=hK.out w2 (hb1.trans (hb2.mono hb1.size)); obtain ⟨q0,q1,q2,q3⟩:=hZ2.frz; obtain ⟨d0,d1,d2,d3⟩:=hZ2.all; unfold stV))
  all_goals go_wp2
  all_goals
    have hq:=hZ2.putS (cloF ss fi la (withP noP 0))
    obtain ⟨e0,e1,e2,e3⟩:=hq.all
    refine bodyPost_ret (v:=stV (cloF ss fi la (withP noP 0))) (by simp [results,Tryz.results126,go_sem,stV,e0,e1,e2,e3]) rfl ⟨rfl,?_⟩
    exact below_putS hB2 (by omega) _
attribute [local go_sem] Oper.semAt_some
theorem leads_of {ss : List St} (hf : stepsF ss = 0) : Leads ss:=fun k n hn => by
  have:=((stepsF_zero hf).2.2 n (List.mem_of_getElem? hn)).1
  unfold stRange at this
  omega
structure NxI (ss : List St) (b off cap : Nat) (c : UInt8) (fi la : Bool) (w : World) (pre : List Nat) (W : World) : Prop where
  h0 : Boxed W w.heap.size 160 (.slice (some ⟨b,off,none⟩) ss.length cap)
  h2 : Boxed W (w.heap.size + 1 + 1) 5 (.int .u8 (c.toNat : Int))
  h3 : W.heap[w.heap.size + 1 + 1 + 1]? = some (.cells #[.bool fi,.bool la] 204 (0,0))
  h4 : Hq W (w.heap.size + 1 + 1 + 1 + 1) noP
  h5 : Hq W (w.heap.size + 1 + 1 + 1 + 1 + 1) (takL ss c.toNat pre)
  bel : Below w.heap.size w W
theorem nxI_own (ss : List St) (b off cap : Nat) (c : UInt8) (fi la : Bool) (w : World) (B : Nat) (hB : w.heap.size ≤ B) : OwnFrom B (NxI ss b off cap c fi la w):=fun pre X Y row hs hg hr => by
  have hr2:=fun r e => (hr r e).2
  exact ⟨cells_keep hg hr2 hs.h0 rfl,cells_keep hg hr2 hs.h2 rfl,cells_keep hg hr2 hs.h3 rfl,hs.h4.keep hg hr2,hs.h5.keep hg hr2,hs.bel.grown hg hs.bel.size (fun k e => Nat.le_trans hB (hr k e).1)⟩
theorem NxI.no {ss : List St} {b off cap : Nat} {c : UInt8} {fi la : Bool} {w : World} {pre : List Nat} {x : Nat} {n : St} {W W' : World} (h : NxI ss b off cap c fi la w pre W) (hb : Below W.heap.size W W') (hn : ss[x]? = some n) (hno : ¬ (n.op = 1 ∧ n.c.has c.toNat = true)) (B : Nat) : KeepsFrom B W W' ∧ NxI ss b off cap c fi la w (pre ++ [x]) W':=by
  refine ⟨KeepsFrom.of_grownBy (gr_below hb none) (fun j e => by cases e),?_⟩
  exact ⟨(hb.block _ (heap_lt h.h0)).trans h.h0,(hb.block _ (heap_lt h.h2)).trans h.h2,(hb.block _ (heap_lt h.h3)).trans h.h3,h.h4.below hb h.h4.lt,by rw [takL_no hn hno]; exact h.h5.below hb h.h5.lt,h.bel.trans (hb.mono h.bel.size)⟩
theorem NxI.yes {ss : List St} {b off cap : Nat} {c : UInt8} {fi la : Bool} {w : World} {pre : List Nat} {x y : Nat} {n : St} {W W' : World} (h : NxI ss b off cap c fi la w pre W) (hb : Below W.heap.size W W') (hn : ss[x]? = some n) (h1 : n.op = 1) (hc : n.c.has c.toNat = true) (hy : n.x.toNat = y) (B : Nat) (hB : w.heap.size + 6 ≤ B) : KeepsFrom B W (putS W' (w.heap.size + 1 + 1 + 1 + 1 + 1) (withP (takL ss c.toNat pre) y)) ∧ NxI ss b off cap c fi la w (pre ++ [x]) (putS W' (w.heap.size + 1 + 1 + 1 + 1 + 1) (withP (takL ss c.toNat pre) y)):=by
  have hg:=grown_putS W' (w.heap.size + 1 + 1 + 1 + 1 + 1) (withP (takL ss c.toNat pre) y)
  have key : ∀ k o,k ≠ w.heap.size + 1 + 1 + 1 + 1 + 1 → W.heap[k]? = some o → (putS W' (w.heap.size + 1 + 1 + 1 + 1 + 1) (withP (takL ss c.toNat pre) y)).heap[k]? = some o:=fun k o hk ho =>
    (hg.block k (Nat.lt_of_lt_of_le (heap_lt ho) hb.size) (by intro e; injection e with e; exact hk e)).trans ((hb.block k (heap_lt ho)).trans ho)
  refine ⟨(KeepsFrom.of_grownBy (gr_below hb none) (fun j e => by cases e)).trans (KeepsFrom.of_grownBy hg (fun j e => by cases e; omega)),?_⟩
  refine ⟨key _ _ (by omega) h.h0,key _ _ (by omega) h.h2,key _ _ (by omega) h.h3,key _ _ (by omega) h.h4,?_,below_putS (h.bel.trans (hb.mono h.bel.size)) (by omega) _⟩
  rw [takL_yes hn h1 hc,hy]
  exact (h.h5.below hb h.h5.lt).putS _
theorem snext_in (ss : List St) (hf : stepsF ss = 0) (hok : SsOk ss) (b off cap : Nat) (p : Nat → Bool) (hp : Sub ss p) (c : UInt8) (fi la : Bool) (w : World) (hT : Tab w) (hlt : b < w.heap.size) (hN : SsAt w b off ss) :
    CallsIn Fence.wide 3 Tryz.prog 127 #[wyV b off ss.length cap,stV p,.int .u8 (c.toNat : Int),pcV fi la] w fun e w' => e = .returned (stV (nxtS ss p c.toNat fi la)) ∧ Below w.heap.size w w':=by
  have h200:=(stepsF_zero hf).1
  obtain ⟨W0,hW0⟩ : ∃ W0,W0 = (((((w.alloc (.cells #[.slice (some ⟨b,off,none⟩) ss.length cap] 160)).alloc (.cells #[.int .u64 (wd p 0),.int .u64 (wd p 1),.int .u64 (wd p 2),.int .u64 (wd p 3)] 207)).alloc (.cells #[.int .u8 (c.toNat : Int)] 5)).alloc (.cells #[.bool fi,.bool la] 204)).alloc (.cells #[.int .u64 0,.int .u64 0,.int .u64 0,.int .u64 0] 207)).alloc (.cells #[.int .u64 0,.int .u64 0,.int .u64 0,.int .u64 0] 207):=⟨_,rfl⟩
  obtain ⟨k0,k1,k2,k3,k4,k5,hB0,hs0⟩:=heap_at6 w _ _ _ _ _ _ W0 hW0
  have hZ : ∀ b,W0.heap[b]? = some (.cells #[.int .u64 0,.int .u64 0,.int .u64 0,.int .u64 0] 207 (0,0)) → Hq W0 b noP:=fun b h => by
    unfold Hq
    rw [wd_no,wd_no,wd_no,wd_no]
    exact h
  have HI0 : Hid (NxI ss b off cap c fi la w [] W0):=⟨k0,k2,k3,hZ _ k4,by rw [takL_nil]; exact hZ _ k5,hB0⟩
  have m1 : Hq W0 (w.heap.size + 1) p:=k1
  obtain ⟨j0,j1,j2,j3⟩:=m1.all
  replace hW0:=hW0.symm
  have hc256 : (c.toNat : Int) < 256:=by have:=c.toNat_lt; omega
  have HCR:=hid (fun q (hq : Sub ss q) w' hT hlt hN => sreached_any ss hf b off cap q hq fi la w' hT hlt hN)
  have HOK:=hid hok
  have HL:=hid (leads_of hf)
  clear k0 k1 k2 k3 k4 k5 hZ m1 hB0 hok
  refine callsIn_of_wp_marks Tryz.func127 rfl trivial ?_ rfl
  simp only [Tryz.ntmps127,List.size_toArray,List.length_cons,List.length_nil,Nat.reduceAdd,Nat.reduceSub,Array.replicate_succ,Array.replicate_zero,List.push_toArray,List.append_toArray,List.nil_append,List.cons_append]
  unfold stV
  gi_wp2_with fail
  refine wpIn_runsTo rfl (by omega) 140 #[stV p] rfl trivial enters_srising (fun x : Nat => Value.int .i64 (x : Int)) Tab (el p 256) (srises (3 - 1) (by omega) p) rfl
    (NxI ss b off cap c fi la w) (fun _ _ => False)
    (nxI_own _ _ _ _ _ _ _ _ _ (by omega)) (ownFrom_pure _ (fun _ => False))
    (fun pre W h => hT.below h.bel (Nat.le_refl _))
    HI0.out
    (fun x => { tmps:=#[wyV b off ss.length cap,stV p,.int .u8 (c.toNat : Int),pcV fi la,.pointer (some ⟨w.heap.size,0,none⟩),.pointer (some ⟨w.heap.size + 1,0,none⟩),.pointer (some ⟨w.heap.size + 1 + 1,0,none⟩),.pointer (some ⟨w.heap.size + 1 + 1 + 1,0,none⟩),.pointer (some ⟨w.heap.size + 1 + 1 + 1 + 1,0,none⟩),.pointer (some ⟨w.heap.size + 1 + 1 + 1 + 1 + 1,0,none⟩),.int .i64 (x : Int),undef,stV p,.func (.func 140) #[stV p] #[],.int .i64 (x : Int),undef,undef,undef,undef,undef,undef,undef,undef,undef,undef,undef,undef,undef,undef,undef,undef,undef,undef,undef,undef,undef,undef],defers:=[] }) ?assign ?body ?done ?stop
  case assign =>
    intro l x W K hK
    gi_wp2
    exact hK
  case body =>
    rintro l pre x rest W hx hI
    obtain ⟨hpx,hxl⟩:=el_one hp hx
    obtain ⟨n,hn⟩ : ∃ n,ss[x]? = some n:=⟨ss[x],List.getElem?_eq_getElem hxl⟩
    have r0:=hI.h0.cell
    have r2:=hI.h2.cell
    obtain ⟨d0,d1,d2,d3,d4,d5,d6⟩:=(hN.below hI.bel hlt) x n hn
    have g0 : (0 : Int) ≤ (x : Int):=by omega
    have g1 : (x : Int) < (ss.length : Int):=by omega
    obtain ⟨W5,hW5⟩ : ∃ W5,W.alloc (.cells #[.int .i64 n.op,.int .u64 n.c.a,.int .u64 n.c.b,.int .u64 n.c.c,.int .u64 n.c.d,.int .i64 n.x,.int .i64 n.y] 158) = W5:=⟨_,rfl⟩
    have hh5 : W5.heap[W.heap.size]? = some (.cells #[.int .i64 n.op,.int .u64 n.c.a,.int .u64 n.c.b,.int .u64 n.c.c,.int .u64 n.c.d,.int .i64 n.x,.int .i64 n.y] 158 (0,0)):=by rw [← hW5]; exact heap_alloc_new W _
    have hb5 : Below W.heap.size W W5:=by rw [← hW5]; exact (Below.refl _ _).alloc (Nat.le_refl _) _
    have HNO : Hid (¬ (n.op = 1 ∧ n.c.has c.toNat = true) → ∀ w',Below W.heap.size W w' → KeepsFrom W0.heap.size W w' ∧ NxI ss b off cap c fi la w (pre ++ [x]) w'):=fun hno w' hb => hI.no hb hn hno _
    have HYES : Hid (n.op = 1 → n.c.has c.toNat = true → ∀ y,n.x.toNat = y → ∀ w',Below W.heap.size W w' → KeepsFrom W0.heap.size W (putS w' (w.heap.size + 1 + 1 + 1 + 1 + 1) (withP (takL ss c.toNat pre) y)) ∧ NxI ss b off cap c fi la w (pre ++ [x]) (putS w' (w.heap.size + 1 + 1 + 1 + 1 + 1) (withP (takL ss c.toNat pre) y))):=fun h1 h2 y hy w' hb => hI.yes hb hn h1 h2 hy _ (by omega)
    have e0:=Lib.cell_of_heap hh5 0
    have e1:=Lib.cell_of_heap hh5 1
    have e2:=Lib.cell_of_heap hh5 2
    have e3:=Lib.cell_of_heap hh5 3
    have e4:=Lib.cell_of_heap hh5 4
    simp only [List.getElem?_toArray,List.getElem?_cons_zero,List.getElem?_cons_succ] at e0 e1 e2 e3 e4
    have s2:=(hb5.cell (p:=⟨w.heap.size + 1 + 1,0,none⟩) (cell_lt r2)).trans r2
    have HCH:=hid (has_any n.c (c.toNat : Int) W5 (by omega) hc256)
    rw [C4.hasI_eq n.c (HOK.out n (List.mem_of_getElem? hn))] at HCH
    have HX : Hid (n.op = 1 → 0 ≤ n.x ∧ n.x.toNat < ss.length):=fun h1 => by
      have:=((stepsF_zero hf).2.2 n (List.mem_of_getElem? hn)).1
      unfold stRange at this
      omega
    have HH5:=hid hh5
    have HB5:=hid hb5
    have H5:=hid (fun w' (hb : Below W.heap.size W w') => hI.h5.below hb hI.h5.lt)
    clear hI hn hh5 hb5 HI0 hW0 j0 j1 j2 j3 hN hx
    by_cases h1 : n.op = 1
    · obtain ⟨hx0,hxl2⟩:=HX.out h1
      obtain ⟨y,hy,hyn⟩ : ∃ y : Nat,n.x = (y : Int) ∧ n.x.toNat = y:=⟨n.x.toNat,by omega,rfl⟩
      have H1:=hid h1
      rw [h1] at d0 hW5 e0
      rw [hy] at d5 hW5
      have HY:=hid hy
      clear h1 hy
      gi_wp2_with fail
      refine ⟨trivial,(callsIn_wide.2 HCH.out).mono ?_⟩
      rintro e w6 ⟨rfl,hb6⟩
      have HB6:=hid (HB5.out.trans (hb6.mono HB5.out.size))
      cases hc : n.c.has c.toNat with
      | false =>
        have HP:=hid (HNO.out (by rw [hc]; simp) w6 HB6.out)
        gi_wp2
        exact HP.out
      | true =>
        have q5:=H5.out w6 HB6.out
        obtain ⟨q0,q1,q2,q3⟩:=q5.all
        have t5:=(Lib.cell_of_heap ((hb6.block _ (heap_lt HH5.out)).trans HH5.out) 5)
        simp only [List.getElem?_toArray,List.getElem?_cons_zero,List.getElem?_cons_succ] at t5
        rw [HY.out] at t5
        have HSW:=hid (swith_any (takL ss c.toNat pre) y (by omega) w6)
        have HP:=hid (HYES.out H1.out hc y hyn)
        unfold stV at HSW
        have HQ5:=hid q5
        clear HX HNO HYES HCH HCR hc hyn q5
        gi_wp2_with fail
        refine ⟨trivial,(callsIn_wide.2 HSW.out).mono ?_⟩
        rintro e w7 ⟨rfl,hb7⟩
        have q7:=HQ5.out.below hb7 HQ5.out.lt
        obtain ⟨z0,z1,z2,z3⟩:=q7.frz
        obtain ⟨y0,y1,y2,y3⟩:=q7.all
        have HB7:=hid (HB6.out.trans (hb7.mono HB6.out.size))
        clear q7
        unfold stV
        gi_wp2
        exact HP.out w7 HB7.out
    · have h1' : (n.op == 1) = false:=by rw [beq_eq_false_iff_ne]; exact h1
      have HP:=hid (HNO.out (fun h => h1 h.1) W5 HB5.out)
      gi_wp2
      refine ⟨trivial,?_⟩
      gi_wp2
      exact HP.out
  case done =>
    rintro D W hD hI hK
    have r0:=hI.h0.cell
    have b0:=(Lib.cell_of_heap hI.h3 0).trans rfl
    have b1:=(Lib.cell_of_heap hI.h3 1).trans rfl
    simp only [List.getElem?_toArray,List.getElem?_cons_zero,List.getElem?_cons_succ] at b0 b1
    obtain ⟨q0,q1,q2,q3⟩:=hI.h5.all
    have HC:=hid (HCR.out (takL ss c.toNat (el p 256)) (takL_sub HL.out) W (hT.below hI.bel (Nat.le_refl _)) (Nat.lt_of_lt_of_le hlt hI.bel.size) (hN.below hI.bel hlt))
    rw [tak_list h200 hp] at HC q0 q1 q2 q3
    have HB:=hid hI.bel
    have H4:=hid (fun w' (hb : Below W.heap.size W w') => hI.h4.below hb hI.h4.lt)
    have hDW:=heap_lt hK
    unfold stV at HC
    clear hI HI0 HCR j0 j1 j2 j3 hW0
    gi_wp2_with fail
    refine ⟨trivial,(callsIn_wide.2 HC.out).mono ?_⟩
    rintro e w1 ⟨rfl,hb1⟩
    have hZ:=H4.out w1 hb1
    have hK1:=(hb1.block D hDW).trans hK
    obtain ⟨f0,f1,f2,f3⟩:=hZ.frz
    have HZ:=hid hZ
    have HK1:=hid hK1
    obtain ⟨y0,y1,y2,y3⟩:=hZ.all
    clear hZ hK1 q0 q1 q2 q3 r0 b0 b1 HC
    gi_wp2
    have hKD:=hq_def HZ.out (cloF ss fi la (takF ss c.toNat p)) HK1.out
    have hq2:=(HZ.out.putS (cloF ss fi la (takF ss c.toNat p))).putK hKD (.deferred none)
    obtain ⟨e0,e1,e2,e3⟩:=hq2.all
    refine ⟨by simp,.inl ⟨_,_,rfl,run_takeDeferred hKD,?_⟩⟩
    refine ⟨stV (cloF ss fi la (takF ss c.toNat p)),by simp [results,Tryz.results127,go_sem,stV,e0,e1,e2,e3],rfl,?_⟩
    exact (below_putS (HB.out.trans (hb1.mono HB.out.size)) (by omega) _).trans (belowK_b (w:=w) (Nat.le_refl _) _ D _ _ (by omega) hKD rfl rfl)
  case stop =>
    intro D pre W _ h
    exact h.elim
theorem snext_any (ss : List St) (hf : stepsF ss = 0) (hok : SsOk ss) (b off cap : Nat) (p : Nat → Bool) (hp : Sub ss p) (c : UInt8) (fi la : Bool) (w : World) (hT : Tab w) (hlt : b < w.heap.size) (hN : SsAt w b off ss) :
    Calls Tryz.prog 127 #[wyV b off ss.length cap,stV p,.int .u8 (c.toNat : Int),pcV fi la] w fun e w' => e = .returned (stV (nxtS ss p c.toNat fi la)) ∧ Below w.heap.size w w':=callsIn_wide.1 (snext_in ss hf hok b off cap p hp c fi la w hT hlt hN)
theorem bel_d {W w1 : World} (h : Below W.drew.heap.size W.drew w1) : Below W.heap.size W w1:=((Below.refl _ W).drew).trans h
theorem bel_da {W w1 : World} {o : Obj} (h : Below (W.alloc o).drew.heap.size (W.alloc o).drew w1) : Below W.heap.size W w1 ∧ w1.heap[W.heap.size]? = some o :=
  ⟨(((Below.refl _ W).alloc (Nat.le_refl _) _).drew).trans (h.mono (by show W.heap.size ≤ (W.alloc o).heap.size; simp)),(h.block _ (by show W.heap.size < (W.alloc o).heap.size; simp)).trans (World.alloc_heap_new W o)⟩
end Go.Proofs.YtcjghhedphmhkaaGreatDoor
namespace Go.Proofs.YtcjghhedphmhkaaGreatDoor
open Go.ChangeShapes Go.WideShapes Go.ChangeAt Go.RowKit Go.Deep Go.Joins
def St.wf (n : St) : Prop:=(Lit.int .i64 n.op).wf = true ∧ n.c.wf ∧ (Lit.int .i64 n.x).wf = true ∧ (Lit.int .i64 n.y).wf = true
instance : Inhabited St:=⟨⟨0,⟨0,0,0,0⟩,0,0⟩⟩
def St.cells (n : St) : List Value:=[.int .i64 n.op,.int .u64 n.c.a,.int .u64 n.c.b,.int .u64 n.c.c,.int .u64 n.c.d,.int .i64 n.x,.int .i64 n.y]
end Go.Proofs.YtcjghhedphmhkaaGreatDoor
namespace Go.Proofs.YtcjghhedphmhkaaGreatDoor
open Go.RowKit
def Lasts (X : World → Prop) : Prop:=∀ w w',X w → Below w.heap.size w w' → X w'
def lastI (l : List Nat) : Int:=match l.getLast? with
  | none => -1
  | some x => (x : Int)
theorem lastI_snoc (l : List Nat) (x : Nat) : lastI (l ++ [x]) = (x : Int):=by
  unfold lastI
  simp
def stCells (n : St) : List Value:=[.int .i64 n.op,.int .u64 n.c.a,.int .u64 n.c.b,.int .u64 n.c.c,.int .u64 n.c.d,.int .i64 n.x,.int .i64 n.y]
def ssCells : List St → List Value
  | [] => []
  | n :: r => stCells n ++ ssCells r
theorem ssCells_append : ∀ (x y : List St),ssCells (x ++ y) = ssCells x ++ ssCells y
  | [],y => rfl
  | n :: r,y => by simp [ssCells,ssCells_append r y]
theorem ssCells_len : ∀ (x : List St),(ssCells x).length = x.length * 7
  | [] => rfl
  | n :: r => by simp [ssCells,stCells,ssCells_len r]; omega
theorem ssCells_one : ∀ (x : List St),∀ u ∈ ssCells x,u.oneCell' = true
  | [],u,h => by simp [ssCells] at h
  | n :: r,u,h => by
    rw [ssCells,List.mem_append] at h
    rcases h with h | h
    · simp [stCells] at h
      rcases h with rfl | rfl | rfl | rfl | rfl | rfl | rfl <;> rfl
    · exact ssCells_one r u h
theorem ssCells_at : ∀ (x : List St) (i : Nat) (n : St),x[i]? = some n → ∀ t,t < 7 → (ssCells x)[i * 7 + t]? = (stCells n)[t]?
  | [],i,n,h => by simp at h
  | m :: r,0,n,h => by
    simp at h
    subst h
    intro t ht
    rw [ssCells,List.getElem?_append_left (by simp [stCells]; omega),Nat.zero_mul,Nat.zero_add]
  | m :: r,i + 1,n,h => by
    intro t ht
    rw [ssCells,List.getElem?_append_right (by simp [stCells]; omega),← ssCells_at r i n (by simpa using h) t ht]
    congr 1
    simp [stCells]
    omega
def SsOwn (w : World) (base : Nat) (v : Value) (ss : List St) : Prop:=w.ownsRow base 158 7 v ss.length (ssCells ss)
theorem SsOwn.below {w w' : World} {base : Nat} {v : Value} {ss : List St} (h : SsOwn w base v ss) (hb : Below w.heap.size w w') : SsOwn w' base v ss:=by
  refine World.ownsRow.kept (row:=none) h ⟨hb.os,hb.tape,hb.output,hb.size,fun k hk _ => hb.block k hk⟩ ?_
  cases hv : v.ownBlock with
  | none => exact Or.inl rfl
  | some x => exact Or.inr (by simp)
theorem SsOwn.form {w : World} {base : Nat} {v : Value} {ss : List St} (h : SsOwn w base v ss) (h0 : 0 < ss.length) : ∃ g cap,v = .slice (some ⟨g,0,none⟩) ss.length cap ∧ base ≤ g ∧ g < w.heap.size ∧ ss.length ≤ cap ∧ ∃ cur,w.heap[g]? = some (.cells cur 158 (0,0)) ∧ cur.size = cap * 7 ∧ cur.toList.take (ss.length * 7) = ssCells ss:=by
  rcases h.2 with ⟨hv,hn⟩ | ⟨g,cap,cur,hv,hb,hh,hnc,hcm,hcs,htk⟩
  · omega
  · refine ⟨g,cap,hv,hb,?_,hnc,cur,hh,hcs,htk⟩
    rcases Nat.lt_or_ge g w.heap.size with hlt | hge
    · exact hlt
    · rw [Array.getElem?_eq_none hge] at hh; cases hh
theorem SsOwn.len {w : World} {base : Nat} {v : Value} {ss : List St} (h : SsOwn w base v ss) : ∃ a cap,v = .slice a ss.length cap:=by
  rcases h.2 with ⟨hv,hn⟩ | ⟨g,cap,cur,hv,_⟩
  · exact ⟨none,0,by rw [hv,hn]⟩
  · exact ⟨_,cap,hv⟩
theorem SsOwn.ne {w : World} {B : Nat} {v : Value} {ss : List St} (h : SsOwn w B v ss) (k : Nat) (hk : v.ownBlock = some k) : B ≤ k ∧ k < w.heap.size:=by
  rcases h.2 with ⟨hv,_⟩ | ⟨b,cap,cur,hv,hb,hh,_⟩
  · rw [hv] at hk; cases hk
  · rw [hv] at hk
    injection hk with hk
    simp only at hk
    subst hk
    refine ⟨hb,?_⟩
    rcases Nat.lt_or_ge b w.heap.size with hlt | hge
    · exact hlt
    · rw [Array.getElem?_eq_none hge] at hh; cases hh
theorem SsOwn.keptG {w w' : World} {B g : Nat} {v : Value} {ss : List St} (h : SsOwn w B v ss) (hg : w.grownBy w' (some g)) (hlt : g < B) : SsOwn w' B v ss:=by
  refine World.ownsRow.kept h hg ?_
  rcases h.2 with ⟨hv,_⟩ | ⟨b,cap,cur,hv,hb,_⟩
  · rw [hv]; exact Or.inl rfl
  · rw [hv]
    refine Or.inr ?_
    intro e
    injection e with e
    simp only at e
    omega
theorem SsOwn.isIn {w : World} {base : Nat} {v : Value} {ss : List St} (h : SsOwn w base v ss) (hm : ss.length ≤ maxLen) : SsIn w v ss:=by
  obtain ⟨a,cap,hv⟩:=h.len
  refine ⟨a,cap,hv,hm,?_⟩
  by_cases h0 : ss.length = 0
  · exact Or.inl (List.length_eq_zero_iff.1 h0)
  · obtain ⟨g,cap',hv',_,hg,hlc,cur,hh,hcs,htk⟩:=h.form (by omega)
    rw [hv] at hv'
    injection hv' with hv' _ _
    subst hv'
    refine Or.inr ⟨g,0,rfl,hg,?_⟩
    intro i n hn
    have hi : i < ss.length:=by
      rcases Nat.lt_or_ge i ss.length with h' | h'
      · exact h'
      · rw [List.getElem?_eq_none h'] at hn; cases hn
    have hc : ∀ t,t < 7 → ∀ u,(stCells n)[t]? = some u → w.cell? ⟨g,0 + i * 7 + t,none⟩ = some u:=by
      intro t ht u hu
      rw [Lib.cell_of_heap hh,Nat.zero_add]
      have e:=ssCells_at ss i n hn t ht
      rw [hu,← htk,List.getElem?_take_of_lt (by omega)] at e
      simpa using e
    exact ⟨hc 0 (by omega) _ rfl,hc 1 (by omega) _ rfl,hc 2 (by omega) _ rfl,hc 3 (by omega) _ rfl,hc 4 (by omega) _ rfl,hc 5 (by omega) _ rfl,hc 6 (by omega) _ rfl⟩
theorem info_step : ∃ i0,Tryz.prog.info? 158 = some i0 ∧ i0.zero = some (.agg #[.int .i64 0,.int .u64 0,.int .u64 0,.int .u64 0,.int .u64 0,.int .i64 0,.int .i64 0]) ∧ i0.size = 7 ∧ i0.bytes = 56:=by
  have hinfo : (Tryz.prog.info? 158).map (fun i => (i.zero,i.size,i.bytes)) = some (some (.agg #[.int .i64 0,.int .u64 0,.int .u64 0,.int .u64 0,.int .u64 0,.int .i64 0,.int .i64 0]),7,56):=by kernel_rfl
  exact info_parts hinfo
theorem step_append_ss {ops : Array Oper} {o : Oper} {a : Act} {K : Act → World → Prop} {Q : Exit → Act → World → Prop} {E : Prop} {w : World} (hgd : o.guard = none) (s x : Operand)
    (ho : o.op = .call { callee:=.builtin .append,args:=#[s,x],argTypes:=#[119,119] })
    (B : Nat) (v : Value) (hs : a.eval s = v) (ss : List St) (hown : SsOwn w B v ss) (g2 c2 : Nat) (n : St) (hx : a.eval x = .slice (some ⟨g2,0,none⟩) 1 c2)
    (hnews : ∀ j u,(ssCells [n])[j]? = some u → w.cell? ⟨g2,j,none⟩ = some u) (hbytes : (ss.length + 1) * 56 ≤ 140737488355328) (hbase : B ≤ w.heap.size)
    (h : ∀ g cap w',SsOwn w' B (.slice (some ⟨g,0,none⟩) (ss.length + 1) cap) (ss ++ [n]) → w.grownBy w' v.ownBlock → B ≤ g → g < w'.heap.size → K (a.put o.dst (.slice (some ⟨g,0,none⟩) (ss.length + 1) cap)) w') :
    if Region.wanted o (yielded ops a.tmps) = true then Oper.wp Tryz.prog o a w K Q else E:=by
  obtain ⟨i0,hi,hz0,hz1,hz2⟩:=info_step
  refine step_append_lies w hgd s x 119 ho B 158 i0 _ 7 56 Tryz.underlying119 hi hz0 hz1 hz2 rfl (by decide) v ss.length (ssCells ss) hs hown ⟨g2,0,none⟩ 1 c2 (ssCells [n]) hx (ssCells_len [n]) ?_ (ssCells_one [n]) (by omega) (by unfold maxLen; omega) hbytes hbase w.heap.size rfl ?_
  · intro j u hj
    rw [Addr.add_lit,Nat.zero_add]
    exact hnews j u hj
  · intro g cap w' h1 h2 h3 h4
    have e : SsOwn w' B (.slice (some ⟨g,0,none⟩) (ss.length + 1) cap) (ss ++ [n]):=by
      unfold SsOwn
      rw [ssCells_append,List.length_append]
      exact h1
    have hg : B ≤ g:=by
      rcases h3 with h3 | h3
      · rcases hown.2 with ⟨hv,_⟩ | ⟨g',cap',cur,hv,hb,_⟩
        · rw [hv] at h3; cases h3
        · rw [hv] at h3
          injection h3 with h3
          simp at h3
          omega
      · omega
    exact h g cap w' e h2 hg h4
def Bld (w : World) (g : Nat) (nv sv : Value) : Prop:=w.heap[g]? = some (.cells #[nv,sv] 155 (0,0))
theorem Bld.all {w : World} {g : Nat} {nv sv : Value} (h : Bld w g nv sv) : w.cell? ⟨g,0,none⟩ = some nv ∧ w.cell? ⟨g,1,none⟩ = some sv ∧ w.frozen? ⟨g,1,none⟩ = false:=by
  refine ⟨?_,?_,Lib.frozen_of_heap h 1⟩ <;> (rw [Lib.cell_of_heap h]; rfl)
theorem Bld.lt {w : World} {g : Nat} {nv sv : Value} (h : Bld w g nv sv) : g < w.heap.size:=by
  rcases Nat.lt_or_ge g w.heap.size with h' | h'
  · exact h'
  · simp [Bld,Array.getElem?_eq_none h'] at h
theorem Bld.setSteps {w : World} {g : Nat} {nv sv : Value} (h : Bld w g nv sv) (u : Value) : Bld (w.setCell ⟨g,1,none⟩ u) g nv u:=by
  simp only [Bld] at h ⊢
  simp [World.setCell,Array.getElem?_modify,h]
theorem Bld.below {w w' : World} {g : Nat} {nv sv : Value} (h : Bld w g nv sv) (hb : Below w.heap.size w w') : Bld w' g nv sv:=(hb.block g h.lt).trans h
theorem Bld.alloc {w : World} {g : Nat} {nv sv : Value} (h : Bld w g nv sv) (o : Obj) : Bld (w.alloc o) g nv sv:=(Below.heap_alloc w o g h.lt).trans h
theorem bgrown_cell (w : World) (g : Nat) (i : Nat) (v : Value) : w.grownBy (w.setCell ⟨g,i,none⟩ v) (some g):=Lib.grownBy_setB (World.grownBy.refl w _) i v
theorem isStep_any (N : Nat) (hN : N ≤ 9223372036854775807) (x : Int) (b : Nat) (a : Option Addr) (cap : Nat) (w : World) (hb : w.cell? ⟨b,0,none⟩ = some (.slice a N cap)) :
    Calls Tryz.prog 123 #[.int .i64 x,.pointer (some ⟨b,0,none⟩)] w fun e w' => e = .returned (.bool (decide (0 ≤ x ∧ x < (N : Int)))) ∧ w' = w:=by
  by_cases h0 : 0 ≤ x
  · by_cases h1 : x < (N : Int)
    · go_enter Tryz.func123,Tryz.ntmps123
      go_wp2
      go_ret
      exact ⟨by first | (simp [h0,h1]; done) | (simp [h0]; omega),rfl⟩
    · go_enter Tryz.func123,Tryz.ntmps123
      go_wp2
      go_ret
      exact ⟨by first | (simp [h0,h1]; done) | (simp [h0]; omega),rfl⟩
  · go_enter Tryz.func123,Tryz.ntmps123
    go_wp2
    go_ret
    exact ⟨by first | (simp [h0]; done) | (simp; omega),rfl⟩
def bareS (s : St) : St:=if s.op = 1 then ⟨s.op,s.c,s.x,0⟩ else if s.op = 2 then ⟨s.op,z4,s.x,s.y⟩ else if s.op = 3 ∨ s.op = 4 then ⟨s.op,z4,s.x,0⟩ else ⟨s.op,z4,0,0⟩
theorem bare_any (s : St) (w : World) : Calls Tryz.prog 136 #[s.v] w fun e w' => e = .returned (bareS s).v ∧ Below w.heap.size w w':=by
  obtain ⟨op,c,x,y⟩:=s
  have HB : Hid (∀ o1 o2,Below w.heap.size w ((w.alloc o1).alloc o2)):=fun o1 o2 => ((Below.refl _ _).alloc (Nat.le_refl _) _).alloc (by simp) _
  by_cases h1 : op = 1
  · subst h1
    have HF : Hid (bareS ⟨1,c,x,y⟩ = ⟨1,c,x,0⟩):=by show _ = _; unfold bareS; rw [if_pos rfl]
    go_enter Tryz.func136,Tryz.ntmps136
    go_wp2
    rw [HF.out]
    refine bodyPost_ret (by simp [results,Tryz.results136,go_sem,z4]) rfl ⟨rfl,HB.out _ _⟩
  by_cases h2 : op = 2
  · subst h2
    have HF : Hid (bareS ⟨2,c,x,y⟩ = ⟨2,z4,x,y⟩):=by show _ = _; unfold bareS; rw [if_neg (by simp),if_pos rfl]
    go_enter Tryz.func136,Tryz.ntmps136
    go_wp2
    rw [HF.out]
    refine bodyPost_ret (by simp [results,Tryz.results136,go_sem,z4]) rfl ⟨rfl,HB.out _ _⟩
  by_cases h3 : op = 3
  · subst h3
    have HF : Hid (bareS ⟨3,c,x,y⟩ = ⟨3,z4,x,0⟩):=by show _ = _; unfold bareS; rw [if_neg (by simp),if_neg (by simp),if_pos (by simp)]
    go_enter Tryz.func136,Tryz.ntmps136
    go_wp2
    rw [HF.out]
    refine bodyPost_ret (by simp [results,Tryz.results136,go_sem,z4]) rfl ⟨rfl,HB.out _ _⟩
  by_cases h4 : op = 4
  · subst h4
    have HF : Hid (bareS ⟨4,c,x,y⟩ = ⟨4,z4,x,0⟩):=by show _ = _; unfold bareS; rw [if_neg (by simp),if_neg (by simp),if_pos (by simp)]
    go_enter Tryz.func136,Tryz.ntmps136
    go_wp2
    rw [HF.out]
    refine bodyPost_ret (by simp [results,Tryz.results136,go_sem,z4]) rfl ⟨rfl,HB.out _ _⟩
  have HF : Hid (bareS ⟨op,c,x,y⟩ = ⟨op,z4,0,0⟩):=by show _ = _; unfold bareS; rw [if_neg h1,if_neg h2,if_neg (by simp; omega)]
  have g1 : (op == 1) = false:=by simp [h1]
  have g2 : (op == 2) = false:=by simp [h2]
  have g3 : (op == 3) = false:=by simp [h3]
  have g4 : (op == 4) = false:=by simp [h4]
  clear h1 h2 h3 h4
  go_enter Tryz.func136,Tryz.ntmps136
  go_wp2
  rw [HF.out]
  refine bodyPost_ret (by simp [results,Tryz.results136,go_sem,z4]) rfl ⟨rfl,HB.out _ _⟩
theorem bareS_eqb (s : St) (h1 : ¬ s.op < 1) (h5 : ¬ 5 < s.op) : s.eqb (bareS s) = ! decide (stShape s):=by
  obtain ⟨op,c,x,y⟩:=s
  have hc : c.eqb c = true:=eqb_self c
  have hop : op = 1 ∨ op = 2 ∨ op = 3 ∨ op = 4 ∨ op = 5:=by simp only at h1 h5; omega
  unfold stShape
  rcases hop with rfl | rfl | rfl | rfl | rfl <;> cases h : c.eqb z4 <;> by_cases hy : y = 0 <;> by_cases hx : x = 0 <;> simp [bareS,St.eqb,hc,h,hy,hx]
abbrev isV (b : Nat) : Value:=.func (.func 123) #[] #[.pointer (some ⟨b,0,none⟩)]
theorem checkStep_any (N : Nat) (hN : N ≤ 9223372036854775807) (s : St) (b : Nat) (a : Option Addr) (cap : Nat) (w : World) (hb : w.cell? ⟨b,0,none⟩ = some (.slice a N cap)) :
    Calls Tryz.prog 124 #[s.v,isV b] w fun e w' => e = .returned (errV (stBad N s)) ∧ Below w.heap.size w w':=by
  obtain ⟨op,c,x,y⟩:=s
  have hbl : b < w.heap.size:=by
    rcases Nat.lt_or_ge b w.heap.size with h | h
    · exact h
    · simp [World.cell?,Array.getElem?_eq_none h] at hb
  obtain ⟨o,ho⟩ : ∃ o : Obj,o = .cells #[.int .i64 op,.int .u64 c.a,.int .u64 c.b,.int .u64 c.c,.int .u64 c.d,.int .i64 x,.int .i64 y] 158:=⟨_,rfl⟩
  have HC' : Hid (∀ (z : Int),Calls Tryz.prog 123 #[.int .i64 z,.pointer (some ⟨b,0,none⟩)] (w.alloc o) fun e w' => e = .returned (.bool (decide (0 ≤ z ∧ z < (N : Int)))) ∧ w' = w.alloc o):=fun z =>
    isStep_any N hN z b a cap _ ((World.cell?_of_block (a:=⟨b,0,none⟩) (Below.heap_alloc w o b hbl)).trans hb)
  have HB : Hid (Below w.heap.size w (w.alloc o)):=(Below.refl _ _).alloc (Nat.le_refl _) _
  obtain ⟨t,HT⟩ : ∃ t,Hid (t = bareS ⟨op,c,x,y⟩):=⟨_,Eq.refl _⟩
  have BA : Hid (∀ W,Calls Tryz.prog 136 #[.agg #[.int .i64 op,.int .u64 c.a,.int .u64 c.b,.int .u64 c.c,.int .u64 c.d,.int .i64 x,.int .i64 y]] W fun e w' => e = .returned (.agg #[.int .i64 t.op,.int .u64 t.c.a,.int .u64 t.c.b,.int .u64 t.c.c,.int .u64 t.c.d,.int .i64 t.x,.int .i64 t.y]) ∧ Below W.heap.size W w'):=by
    intro W
    rw [HT.out]
    exact bare_any ⟨op,c,x,y⟩ W
  have RC : Hid ((∀ d os,(Go.Sort.grow (redrawn (w.alloc o) d) os).cell? ⟨w.heap.size,0,none⟩ = some (.int .i64 op)) ∧ (∀ d os,(Go.Sort.grow (redrawn (w.alloc o) d) os).cell? ⟨w.heap.size,1,none⟩ = some (.int .u64 c.a)) ∧ (∀ d os,(Go.Sort.grow (redrawn (w.alloc o) d) os).cell? ⟨w.heap.size,2,none⟩ = some (.int .u64 c.b)) ∧ (∀ d os,(Go.Sort.grow (redrawn (w.alloc o) d) os).cell? ⟨w.heap.size,3,none⟩ = some (.int .u64 c.c)) ∧ (∀ d os,(Go.Sort.grow (redrawn (w.alloc o) d) os).cell? ⟨w.heap.size,4,none⟩ = some (.int .u64 c.d)) ∧ (∀ d os,(Go.Sort.grow (redrawn (w.alloc o) d) os).cell? ⟨w.heap.size,5,none⟩ = some (.int .i64 x)) ∧ (∀ d os,(Go.Sort.grow (redrawn (w.alloc o) d) os).cell? ⟨w.heap.size,6,none⟩ = some (.int .i64 y))):=by
    refine ⟨?_,?_,?_,?_,?_,?_,?_⟩ <;> exact cell_regrown (by rw [ho]; simp)
  clear hb
  by_cases h1 : op < 1
  · have HF : Hid (stBad N ⟨op,c,x,y⟩ = 1):=stBad_range (Or.inl h1)
    go_enter Tryz.func124,Tryz.ntmps124
    go_wp2
    go_ret
    exact ⟨by rw [HF.out]; rfl,by rw [← ho]; exact HB.out⟩
  by_cases h5 : 5 < op
  · have HF : Hid (stBad N ⟨op,c,x,y⟩ = 1):=stBad_range (Or.inr (Or.inl h5))
    go_enter Tryz.func124,Tryz.ntmps124
    go_wp2
    go_ret
    exact ⟨by rw [HF.out]; rfl,by rw [← ho]; exact HB.out⟩
  have HC : Hid (∀ (z : Int),Calls Tryz.prog 123 #[.int .i64 z,.pointer (some ⟨b,0,none⟩)] (w.alloc (.cells #[.int .i64 op,.int .u64 c.a,.int .u64 c.b,.int .u64 c.c,.int .u64 c.d,.int .i64 x,.int .i64 y] 158)) fun e w' => e = .returned (.bool (decide (0 ≤ z ∧ z < (N : Int)))) ∧ w' = w.alloc (.cells #[.int .i64 op,.int .u64 c.a,.int .u64 c.b,.int .u64 c.c,.int .u64 c.d,.int .i64 x,.int .i64 y] 158)):=by
    rw [← ho]
    exact HC'
  clear HC'
  by_cases hd : op = 5
  · subst hd
    have hr : ¬ stRange N ⟨5,c,x,y⟩:=by unfold stRange; simp
    by_cases hs : stShape ⟨5,c,x,y⟩
    · have HF : Hid (stBad N ⟨5,c,x,y⟩ = 2):=stBad_shape hr hs
      have he : ∀ w,(Op.equalIn 10000 158 (.agg #[.int .i64 5,.int .u64 c.a,.int .u64 c.b,.int .u64 c.c,.int .u64 c.d,.int .i64 x,.int .i64 y]) (.agg #[.int .i64 t.op,.int .u64 t.c.a,.int .u64 t.c.b,.int .u64 t.c.c,.int .u64 t.c.d,.int .i64 t.x,.int .i64 t.y])).run Tryz.prog w = .ok false w:=fun w => (eqS ⟨5,c,x,y⟩ t w).trans (by rw [HT.out,bareS_eqb _ (by show ¬ 5 < 1; omega) (by show ¬ 5 < 5; omega)]; simp only [hs,decide_true,decide_false,Bool.not_true,Bool.not_false])
      go_enter Tryz.func124,Tryz.ntmps124
      go_wp2_with fail
      rw [← ho]
      clear ho
      obtain ⟨r0,r1,r2,r3,r4,r5,r6⟩:=RC.out
      refine wp_region_quiet_below (by kernel_rfl) (by kernel_rfl) ?_
      repeat (go_big_quiet_step (first
        | (go_at_call 136; exact Calls.regrown_of (BA.out _))))
      refine wpQuiet_nil ?_
      intro _ hw'
      obtain ⟨⟨dq,osq⟩,hw''⟩:=hw'
      have B2 : Hid (Below w.heap.size w (Go.Sort.grow (redrawn (w.alloc o) dq) osq)):=HB.out.trans ((below_regrown (w.alloc o) dq osq).mono (by simp))
      subst hw''
      generalize Go.Sort.grow (redrawn (w.alloc o) dq) osq = W at *
      clear RC r0 r1 r2 r3 r4 r5 r6
      go_wp2
      go_ret
      exact ⟨by rw [HF.out]; rfl,B2.out⟩
    · have HF : Hid (stBad N ⟨5,c,x,y⟩ = 0):=stBad_ok hr hs
      have he : ∀ w,(Op.equalIn 10000 158 (.agg #[.int .i64 5,.int .u64 c.a,.int .u64 c.b,.int .u64 c.c,.int .u64 c.d,.int .i64 x,.int .i64 y]) (.agg #[.int .i64 t.op,.int .u64 t.c.a,.int .u64 t.c.b,.int .u64 t.c.c,.int .u64 t.c.d,.int .i64 t.x,.int .i64 t.y])).run Tryz.prog w = .ok true w:=fun w => (eqS ⟨5,c,x,y⟩ t w).trans (by rw [HT.out,bareS_eqb _ (by show ¬ 5 < 1; omega) (by show ¬ 5 < 5; omega)]; simp only [hs,decide_true,decide_false,Bool.not_true,Bool.not_false])
      go_enter Tryz.func124,Tryz.ntmps124
      go_wp2_with fail
      rw [← ho]
      clear ho
      obtain ⟨r0,r1,r2,r3,r4,r5,r6⟩:=RC.out
      refine wp_region_quiet_below (by kernel_rfl) (by kernel_rfl) ?_
      repeat (go_big_quiet_step (first
        | (go_at_call 136; exact Calls.regrown_of (BA.out _))))
      refine wpQuiet_nil ?_
      intro _ hw'
      obtain ⟨⟨dq,osq⟩,hw''⟩:=hw'
      have B2 : Hid (Below w.heap.size w (Go.Sort.grow (redrawn (w.alloc o) dq) osq)):=HB.out.trans ((below_regrown (w.alloc o) dq osq).mono (by simp))
      subst hw''
      generalize Go.Sort.grow (redrawn (w.alloc o) dq) osq = W at *
      clear RC r0 r1 r2 r3 r4 r5 r6
      go_wp2
      go_ret
      exact ⟨by rw [HF.out]; rfl,B2.out⟩
  have g5 : (op != 5) = true:=by simp [hd]
  by_cases hx : 0 ≤ x ∧ x < (N : Int)
  case neg =>
    have HF : Hid (stBad N ⟨op,c,x,y⟩ = 1):=stBad_range (Or.inr (Or.inr (Or.inl ⟨hd,by show x < 0 ∨ (N : Int) ≤ x; omega⟩)))
    have hxd : decide (0 ≤ x ∧ x < (N : Int)) = false:=by simp only [hx,decide_false]
    go_enter Tryz.func124,Tryz.ntmps124
    go_wp2_with fail
    refine Calls.mono (HC.out _) ?_
    rintro e w1 ⟨rfl,rfl⟩
    rw [hxd]
    go_wp2
    go_ret
    exact ⟨by rw [HF.out]; rfl,by rw [← ho]; exact HB.out⟩
  have hxd : decide (0 ≤ x ∧ x < (N : Int)) = true:=by simp only [hx,and_self,decide_true]
  by_cases hf : op = 2
  · subst hf
    by_cases hy : 0 ≤ y ∧ y < (N : Int)
    case neg =>
      have HF : Hid (stBad N ⟨2,c,x,y⟩ = 1):=stBad_range (Or.inr (Or.inr (Or.inr ⟨rfl,by show y < 0 ∨ (N : Int) ≤ y; omega⟩)))
      have hyd : decide (0 ≤ y ∧ y < (N : Int)) = false:=by simp only [hy,decide_false]
      go_enter Tryz.func124,Tryz.ntmps124
      go_wp2_with fail
      refine Calls.mono (HC.out _) ?_
      rintro e w1 ⟨rfl,rfl⟩
      rw [hxd]
      go_wp2_with fail
      refine Calls.mono (HC.out _) ?_
      rintro e w1 ⟨rfl,rfl⟩
      rw [hyd]
      go_wp2
      go_ret
      exact ⟨by rw [HF.out]; rfl,by rw [← ho]; exact HB.out⟩
    have hyd : decide (0 ≤ y ∧ y < (N : Int)) = true:=by simp only [hy,and_self,decide_true]
    have hr : ¬ stRange N ⟨2,c,x,y⟩:=by
      show ¬ ((2 : Int) < 1 ∨ (5 : Int) < 2 ∨ ((2 : Int) ≠ 5 ∧ (x < 0 ∨ (N : Int) ≤ x)) ∨ ((2 : Int) = 2 ∧ (y < 0 ∨ (N : Int) ≤ y)))
      omega
    by_cases hs : stShape ⟨2,c,x,y⟩
    · have HF : Hid (stBad N ⟨2,c,x,y⟩ = 2):=stBad_shape hr hs
      have he : ∀ w,(Op.equalIn 10000 158 (.agg #[.int .i64 2,.int .u64 c.a,.int .u64 c.b,.int .u64 c.c,.int .u64 c.d,.int .i64 x,.int .i64 y]) (.agg #[.int .i64 t.op,.int .u64 t.c.a,.int .u64 t.c.b,.int .u64 t.c.c,.int .u64 t.c.d,.int .i64 t.x,.int .i64 t.y])).run Tryz.prog w = .ok false w:=fun w => (eqS ⟨2,c,x,y⟩ t w).trans (by rw [HT.out,bareS_eqb _ (by show ¬ 2 < 1; omega) (by show ¬ 5 < 2; omega)]; simp only [hs,decide_true,decide_false,Bool.not_true,Bool.not_false])
      go_enter Tryz.func124,Tryz.ntmps124
      go_wp2_with fail
      refine Calls.mono (HC.out _) ?_
      rintro e w1 ⟨rfl,rfl⟩
      rw [hxd]
      go_wp2_with fail
      refine Calls.mono (HC.out _) ?_
      rintro e w1 ⟨rfl,rfl⟩
      rw [hyd]
      go_wp2_with fail
      rw [← ho]
      clear ho
      obtain ⟨r0,r1,r2,r3,r4,r5,r6⟩:=RC.out
      refine wp_region_quiet_below (by kernel_rfl) (by kernel_rfl) ?_
      repeat (go_big_quiet_step (first
        | (go_at_call 136; exact Calls.regrown_of (BA.out _))))
      refine wpQuiet_nil ?_
      intro _ hw'
      obtain ⟨⟨dq,osq⟩,hw''⟩:=hw'
      have B2 : Hid (Below w.heap.size w (Go.Sort.grow (redrawn (w.alloc o) dq) osq)):=HB.out.trans ((below_regrown (w.alloc o) dq osq).mono (by simp))
      subst hw''
      generalize Go.Sort.grow (redrawn (w.alloc o) dq) osq = W at *
      clear RC r0 r1 r2 r3 r4 r5 r6
      go_wp2
      go_ret
      exact ⟨by rw [HF.out]; rfl,B2.out⟩
    · have HF : Hid (stBad N ⟨2,c,x,y⟩ = 0):=stBad_ok hr hs
      have he : ∀ w,(Op.equalIn 10000 158 (.agg #[.int .i64 2,.int .u64 c.a,.int .u64 c.b,.int .u64 c.c,.int .u64 c.d,.int .i64 x,.int .i64 y]) (.agg #[.int .i64 t.op,.int .u64 t.c.a,.int .u64 t.c.b,.int .u64 t.c.c,.int .u64 t.c.d,.int .i64 t.x,.int .i64 t.y])).run Tryz.prog w = .ok true w:=fun w => (eqS ⟨2,c,x,y⟩ t w).trans (by rw [HT.out,bareS_eqb _ (by show ¬ 2 < 1; omega) (by show ¬ 5 < 2; omega)]; simp only [hs,decide_true,decide_false,Bool.not_true,Bool.not_false])
      go_enter Tryz.func124,Tryz.ntmps124
      go_wp2_with fail
      refine Calls.mono (HC.out _) ?_
      rintro e w1 ⟨rfl,rfl⟩
      rw [hxd]
      go_wp2_with fail
      refine Calls.mono (HC.out _) ?_
      rintro e w1 ⟨rfl,rfl⟩
      rw [hyd]
      go_wp2_with fail
      rw [← ho]
      clear ho
      obtain ⟨r0,r1,r2,r3,r4,r5,r6⟩:=RC.out
      refine wp_region_quiet_below (by kernel_rfl) (by kernel_rfl) ?_
      repeat (go_big_quiet_step (first
        | (go_at_call 136; exact Calls.regrown_of (BA.out _))))
      refine wpQuiet_nil ?_
      intro _ hw'
      obtain ⟨⟨dq,osq⟩,hw''⟩:=hw'
      have B2 : Hid (Below w.heap.size w (Go.Sort.grow (redrawn (w.alloc o) dq) osq)):=HB.out.trans ((below_regrown (w.alloc o) dq osq).mono (by simp))
      subst hw''
      generalize Go.Sort.grow (redrawn (w.alloc o) dq) osq = W at *
      clear RC r0 r1 r2 r3 r4 r5 r6
      go_wp2
      go_ret
      exact ⟨by rw [HF.out]; rfl,B2.out⟩
  have g2 : (op == 2) = false:=by simp [hf]
  have hr : ¬ stRange N ⟨op,c,x,y⟩:=by
    show ¬ (op < 1 ∨ 5 < op ∨ (op ≠ 5 ∧ (x < 0 ∨ (N : Int) ≤ x)) ∨ (op = 2 ∧ (y < 0 ∨ (N : Int) ≤ y)))
    omega
  by_cases hs : stShape ⟨op,c,x,y⟩
  · have HF : Hid (stBad N ⟨op,c,x,y⟩ = 2):=stBad_shape hr hs
    have he : ∀ w,(Op.equalIn 10000 158 (.agg #[.int .i64 op,.int .u64 c.a,.int .u64 c.b,.int .u64 c.c,.int .u64 c.d,.int .i64 x,.int .i64 y]) (.agg #[.int .i64 t.op,.int .u64 t.c.a,.int .u64 t.c.b,.int .u64 t.c.c,.int .u64 t.c.d,.int .i64 t.x,.int .i64 t.y])).run Tryz.prog w = .ok false w:=fun w => (eqS ⟨op,c,x,y⟩ t w).trans (by rw [HT.out,bareS_eqb _ (by show ¬ op < 1; omega) (by show ¬ 5 < op; omega)]; simp only [hs,decide_true,decide_false,Bool.not_true,Bool.not_false])
    go_enter Tryz.func124,Tryz.ntmps124
    go_wp2_with fail
    refine Calls.mono (HC.out _) ?_
    rintro e w1 ⟨rfl,rfl⟩
    rw [hxd]
    go_wp2_with fail
    rw [← ho]
    clear ho
    obtain ⟨r0,r1,r2,r3,r4,r5,r6⟩:=RC.out
    refine wp_region_quiet_below (by kernel_rfl) (by kernel_rfl) ?_
    repeat (go_big_quiet_step (first
      | (go_at_call 136; exact Calls.regrown_of (BA.out _))))
    refine wpQuiet_nil ?_
    intro _ hw'
    obtain ⟨⟨dq,osq⟩,hw''⟩:=hw'
    have B2 : Hid (Below w.heap.size w (Go.Sort.grow (redrawn (w.alloc o) dq) osq)):=HB.out.trans ((below_regrown (w.alloc o) dq osq).mono (by simp))
    subst hw''
    generalize Go.Sort.grow (redrawn (w.alloc o) dq) osq = W at *
    clear RC r0 r1 r2 r3 r4 r5 r6
    go_wp2
    go_ret
    exact ⟨by rw [HF.out]; rfl,B2.out⟩
  · have HF : Hid (stBad N ⟨op,c,x,y⟩ = 0):=stBad_ok hr hs
    have he : ∀ w,(Op.equalIn 10000 158 (.agg #[.int .i64 op,.int .u64 c.a,.int .u64 c.b,.int .u64 c.c,.int .u64 c.d,.int .i64 x,.int .i64 y]) (.agg #[.int .i64 t.op,.int .u64 t.c.a,.int .u64 t.c.b,.int .u64 t.c.c,.int .u64 t.c.d,.int .i64 t.x,.int .i64 t.y])).run Tryz.prog w = .ok true w:=fun w => (eqS ⟨op,c,x,y⟩ t w).trans (by rw [HT.out,bareS_eqb _ (by show ¬ op < 1; omega) (by show ¬ 5 < op; omega)]; simp only [hs,decide_true,decide_false,Bool.not_true,Bool.not_false])
    go_enter Tryz.func124,Tryz.ntmps124
    go_wp2_with fail
    refine Calls.mono (HC.out _) ?_
    rintro e w1 ⟨rfl,rfl⟩
    rw [hxd]
    go_wp2_with fail
    rw [← ho]
    clear ho
    obtain ⟨r0,r1,r2,r3,r4,r5,r6⟩:=RC.out
    refine wp_region_quiet_below (by kernel_rfl) (by kernel_rfl) ?_
    repeat (go_big_quiet_step (first
      | (go_at_call 136; exact Calls.regrown_of (BA.out _))))
    refine wpQuiet_nil ?_
    intro _ hw'
    obtain ⟨⟨dq,osq⟩,hw''⟩:=hw'
    have B2 : Hid (Below w.heap.size w (Go.Sort.grow (redrawn (w.alloc o) dq) osq)):=HB.out.trans ((below_regrown (w.alloc o) dq osq).mono (by simp))
    subst hw''
    generalize Go.Sort.grow (redrawn (w.alloc o) dq) osq = W at *
    clear RC r0 r1 r2 r3 r4 r5 r6
    go_wp2
    go_ret
    exact ⟨by rw [HF.out]; rfl,B2.out⟩
theorem pcheck_full (ss : List St) (v : Value) (w : World) (h : SsIn w v ss) (h200 : 200 < ss.length) :
    Calls Tryz.prog 100 #[v] w fun e w' => e = .returned (errV (stepsF ss)) ∧ Below w.heap.size w w':=by
  obtain ⟨a,cap,rfl,hm⟩:=ssIn_form h
  unfold maxLen at hm
  have g200 : (200 : Int) < (ss.length : Int):=by omega
  have HF : Hid (stepsF ss = 3):=by show _ = _; rw [stepsF,if_pos h200]
  clear h
  go_enter Tryz.func100,Tryz.ntmps100
  go_wp2
  go_ret
  exact ⟨by rw [HF.out]; rfl,(Below.refl _ _).alloc (Nat.le_refl _) _⟩
theorem pcheck_none (v : Value) (w : World) (h : SsIn w v []) :
    Calls Tryz.prog 100 #[v] w fun e w' => e = .returned (errV (stepsF [])) ∧ Below w.heap.size w w':=by
  obtain ⟨a,cap,rfl,hm⟩:=ssIn_form h
  simp only [List.length_nil]
  clear h
  go_enter Tryz.func100,Tryz.ntmps100
  go_wp2
  go_ret
  exact ⟨rfl,(Below.refl _ _).alloc (Nat.le_refl _) _⟩
theorem pcheck_at (ss : List St) (b off cap : Nat) (w : World) (hlt : b < w.heap.size) (hN : SsAt w b off ss) (h0 : 0 < ss.length) (h200 : ¬ 200 < ss.length) :
    Calls Tryz.prog 100 #[.slice (some ⟨b,off,none⟩) ss.length cap] w fun e w' => e = .returned (errV (stepsF ss)) ∧ Below w.heap.size w w':=by
  have g200 : (ss.length : Int) ≤ 200:=by omega
  have z0 : ((ss.length : Int) == 0) = false:=by rw [beq_eq_false_iff_ne]; omega
  obtain ⟨o,ho⟩ : ∃ o : Obj,o = .cells #[.slice (some ⟨b,off,none⟩) ss.length cap] 119:=⟨_,rfl⟩
  have hcell : (w.alloc o).cell? ⟨w.heap.size,0,none⟩ = some (.slice (some ⟨b,off,none⟩) ss.length cap):=by rw [ho]; simp
  have hB0 : Below w.heap.size w (w.alloc o):=(Below.refl _ _).alloc (Nat.le_refl _) _
  have HCK : Hid (∀ (W : World) (n : St),Below (w.alloc o).heap.size (w.alloc o) W → Calls Tryz.prog 124 #[n.v,isV w.heap.size] W fun e w' => e = .returned (errV (stBad ss.length n)) ∧ Below W.heap.size W w'):=fun W n hW =>
    checkStep_any ss.length (by omega) n w.heap.size _ cap W ((hW.cell (p:=⟨w.heap.size,0,none⟩) (by simp)).trans hcell)
  have HN : Hid (SsAt (w.alloc o) b off ss):=hN.below hB0 hlt
  have HFZ : Hid (stScan ss.length ss = stepsF ss):=by show _ = _; rw [stepsF,if_neg h200,if_neg (by omega)]
  clear hcell hN
  go_enter Tryz.func100,Tryz.ntmps100
  go_wp2_with fail
  rw [← ho]
  clear ho
  go_loopw [18] (fun v wr => ∃ i : Nat,i ≤ ss.length ∧ v = .int .i64 i ∧ Hid (stScan ss.length ss = stScan ss.length (ss.drop i)) ∧ Hid (Below (w.alloc o).heap.size (w.alloc o) wr)) (fun v _ => ss.length - (intOf v).toNat)
  case atStart => exact ⟨0,by omega,rfl,Eq.refl _,Below.refl _ _⟩
  case round =>
    obtain ⟨i,hi,rfl,HS,HB⟩:=hrel
    by_cases hil : i < ss.length
    · obtain ⟨n,hn⟩ : ∃ n,ss[i]? = some n:=⟨ss[i],List.getElem?_eq_getElem hil⟩
      obtain ⟨c0,c1,c2,c3,c4,c5,c6⟩:=(HN.out.below HB.out (by simp; omega)) i n hn
      have hlt1 : (i : Int) < (ss.length : Int):=by omega
      have HSD:=hid (stScan_drop ss.length ss i n hn)
      go_wp2_with fail
      refine Calls.mono (HCK.out _ n (HB.out.alloc HB.out.size _)) ?_
      rintro e w1 ⟨rfl,hb1⟩
      have B1 : Hid (Below (w.alloc o).heap.size (w.alloc o) w1):=(HB.out.alloc HB.out.size _).trans (hb1.mono (by have:=HB.out.size; simp at this ⊢; omega))
      by_cases hz : stBad ss.length n = 0
      · have HS2 : Hid (stScan ss.length ss = stScan ss.length (ss.drop (i + 1))):=by show _ = _; rw [HS.out,HSD.out,if_pos hz]
        have e0 : errV (stBad ss.length n) = .nilIface:=by rw [hz]; rfl
        rw [e0]
        clear hb1 c0 c1 c2 c3 c4 c5 c6 e0 hz
        go_wp2
        exact ⟨⟨i + 1,by omega,by go_num,HS2,B1⟩,by simp [intOf]; omega⟩
      · have HS2 : Hid (stepsF ss = stBad ss.length n):=by show _ = _; rw [← HFZ.out,HS.out,HSD.out,if_neg hz]
        have e0 : errV (stBad ss.length n) = .iface 32 (.int .i64 (stBad ss.length n)):=by unfold errV; rw [if_neg hz]
        rw [e0]
        clear hb1 c0 c1 c2 c3 c4 c5 c6
        go_wp2
        go_ret
        refine ⟨by rw [HS2.out,e0]; rfl,hB0.trans (B1.out.mono (by simp))⟩
    · have he : i = ss.length:=by omega
      have hg1 : ¬ (i : Int) < (ss.length : Int):=by omega
      have HE : Hid (stepsF ss = 0):=by
        show _ = _
        rw [← HFZ.out,HS.out,he,List.drop_length]
        rfl
      go_wp2
      go_ret
      exact ⟨by rw [HE.out]; rfl,hB0.trans (HB.out.mono (by simp))⟩
theorem pcheck_any (ss : List St) (v : Value) (w : World) (h : SsIn w v ss) :
    Calls Tryz.prog 100 #[v] w fun e w' => e = .returned (errV (stepsF ss)) ∧ Below w.heap.size w w':=by
  by_cases h200 : 200 < ss.length
  · exact pcheck_full ss v w h h200
  rcases Nat.eq_zero_or_pos ss.length with h0 | h0
  · have e : ss = []:=List.eq_nil_of_length_eq_zero h0
    subst e
    exact pcheck_none v w h
  · obtain ⟨a,cap,rfl,hm,h | ⟨b,off,rfl,hlt,hn⟩⟩:=h
    · subst h
      simp at h0
    · exact pcheck_at ss b off cap w hlt hn h0 h200
end Go.Proofs.YtcjghhedphmhkaaGreatDoor
namespace Go.Proofs.YtcjghhedphmhkaaGreatDoor
open Go.RowKit Go.Shelf
attribute [local go_sem] Oper.semAt_some
theorem wpList_append_all {ops : Array Oper} {rest : List Oper} {o : Oper} {a : Act} {Q : Exit → Act → World → Prop} {w : World} (hgd : o.guard = none) (s x : Operand)
    (ho : o.op = .call { callee:=.builtin .append,args:=#[s,x],argTypes:=#[119,119] })
    (B : Nat) (v : Value) (hs : a.eval s = v) (hown : SsOwn w B v []) (ss : List St) (h0 : 0 < ss.length) (h200 : ss.length ≤ 200) (b off cap : Nat) (hx : a.eval x = .slice (some ⟨b,off,none⟩) ss.length cap)
    (hN : SsAt w b off ss) (hbase : B ≤ w.heap.size)
    (h : ∀ g c w',SsOwn w' B (.slice (some ⟨g,0,none⟩) ss.length c) ss → w.grownBy w' v.ownBlock → B ≤ g → g < w'.heap.size → wpList Tryz.prog ops Q rest (a.put o.dst (.slice (some ⟨g,0,none⟩) ss.length c)) w') : wpList Tryz.prog ops Q (o :: rest) a w:=by
  obtain ⟨i0,hi,hz0,hz1,hz2⟩:=info_step
  refine wpList_append_lies w hgd s x 119 ho B 158 i0 _ 7 56 Tryz.underlying119 hi hz0 hz1 hz2 rfl (by decide) v 0 [] hs hown ⟨b,off,none⟩ ss.length cap (ssCells ss) hx (ssCells_len ss) ?_ (ssCells_one ss) h0 (by unfold maxLen; omega) (by omega) hbase w.heap.size rfl ?_
  · intro j u hj
    rw [Addr.add_lit]
    have hjl : j < ss.length * 7:=by
      have:=(List.getElem?_eq_some_iff.1 hj).1
      rwa [ssCells_len] at this
    have hd : j = j / 7 * 7 + j % 7:=by omega
    obtain ⟨n,hn⟩ : ∃ n,ss[j / 7]? = some n:=⟨ss[j / 7]'(by omega),List.getElem?_eq_getElem (by omega)⟩
    have h1:=ssCells_at ss (j / 7) n hn (j % 7) (by omega)
    rw [← hd,hj] at h1
    obtain ⟨d0,d1,d2,d3,d4,d5,d6⟩:=hN (j / 7) n hn
    have e : off + j = off + j / 7 * 7 + j % 7:=by omega
    rw [e]
    generalize j % 7 = t at h1
    have ht : t = 0 ∨ t = 1 ∨ t = 2 ∨ t = 3 ∨ t = 4 ∨ t = 5 ∨ t = 6:=by
      have:=(List.getElem?_eq_some_iff.1 h1.symm).1
      simp [stCells] at this
      omega
    rcases ht with rfl | rfl | rfl | rfl | rfl | rfl | rfl <;> (simp [stCells] at h1; subst h1; assumption)
  · intro g c w' h1 h2 h3 h4
    rw [Nat.zero_add,List.nil_append] at h1
    rw [Nat.zero_add]
    have hg : B ≤ g:=by
      rcases h3 with h3 | h3
      · rcases hown.2 with ⟨hv,_⟩ | ⟨g',cap',cur,hv,hb,_⟩
        · rw [hv] at h3; cases h3
        · rw [hv] at h3
          injection h3 with h3
          simp at h3
          omega
      · omega
    exact h g c w' h1 h2 hg h4
theorem sclone_any (ss : List St) (h0 : 0 < ss.length) (h200 : ss.length ≤ 200) (b off cap : Nat) (w : World) (hlt : b < w.heap.size) (hN : SsAt w b off ss) :
    Calls Tryz.prog 101 #[.slice (some ⟨b,off,none⟩) ss.length cap] w fun e w' => ∃ g c,e = .returned (.slice (some ⟨g,0,none⟩) ss.length c) ∧ Below w.heap.size w w' ∧ SsAt w' g 0 ss ∧ w.heap.size ≤ g ∧ g < w'.heap.size:=by
  have hN2:=hid hN
  have hq : ∀ w,(binOp BinOp.eql 119 (.slice (some ⟨b,off,none⟩) ss.length cap) (.slice none 0 0)).run Tryz.prog w = .ok (.bool false) w:=fun _ => by kernel_rfl
  clear hN
  go_enter Tryz.func101,Tryz.ntmps101
  go_wp2_with (at_builtin; refine wpList_append_all rfl _ _ rfl w.heap.size _ rfl ?hown ss h0 h200 b off cap rfl ?hat ?hbs ?_)
  case hown => exact World.ownsRow_lit w #[] 0 (Nat.le_refl _) (by unfold maxLen; omega) rfl
  case hat => exact hN2.out.below ((Below.refl _ _).alloc (Nat.le_refl _) _) hlt
  case hbs => simp
  intro g c w' hown hgr hg hgl
  have hN' : SsAt w' g 0 ss:=by
    obtain ⟨a,c',hv,_,h | ⟨b',o',hv',_,h⟩⟩:=hown.isIn (by unfold maxLen; omega)
    · rw [h] at h0; simp at h0
    · injection hv with hv
      subst hv
      injection hv' with hv'
      injection hv' with e1 e2 _
      subst e1 e2
      exact h
  have hb : Below w.heap.size w w':=((Below.refl _ _).alloc (Nat.le_refl _) (.cells #[] 158)).grown hgr (by simp) (fun k e => by simp [Value.ownBlock] at e; omega)
  have HR : Hid (Below w.heap.size w w' ∧ SsAt w' g 0 ss ∧ w.heap.size ≤ g ∧ g < w'.heap.size):=⟨hb,hN',hg,hgl⟩
  clear hown hgr hN' hb hN2 hq
  go_wp2
  go_ret
  exact ⟨g,c,rfl,HR.out⟩
theorem waysOf_ok (ss : List St) (v : Value) (w : World) (hf : stepsF ss = 0) (hS : SsIn w v ss) :
    Calls Tryz.prog 72 #[v] w fun e w' => ∃ g c,e = .returned (.tuple #[wyV g 0 ss.length c,.nilIface]) ∧ Below w.heap.size w w' ∧ SsAt w' g 0 ss ∧ w.heap.size ≤ g ∧ g < w'.heap.size:=by
  have HC:=hid (fun w' (h : SsIn w' v ss) => pcheck_any ss v w' h)
  obtain ⟨h200,h0,_⟩:=stepsF_zero hf
  have HS:=hid hS
  obtain ⟨a,cap,rfl,hm,h | ⟨b,off,rfl,hlt,hN⟩⟩:=hS
  · rw [h] at h0; simp at h0
  rw [hf,show errV 0 = .nilIface from rfl] at HC
  have HN:=hid hN
  have HK:=hid (fun w' (h : Below w.heap.size w w') => sclone_any ss h0 h200 b off cap w' (Nat.lt_of_lt_of_le hlt h.size) (HN.out.below h hlt))
  have hb0 : Below w.heap.size w (w.alloc (.cells #[.slice none 0 0] 160)):=(Below.refl _ _).alloc (Nat.le_refl _) _
  have HS0:=hid (HS.out.below hb0)
  have hh0 : (w.alloc (.cells #[.slice none 0 0] 160)).heap[w.heap.size]? = some (.cells #[.slice none 0 0] 160 (0,0)):=World.alloc_heap_new w _
  obtain ⟨w0,hw0⟩ : ∃ w0,w.alloc (.cells #[.slice none 0 0] 160) = w0:=⟨_,rfl⟩
  rw [hw0] at hb0 HS0 hh0
  have HH:=hid hh0
  have HB0:=hid hb0
  clear hf hN hm HS hh0 hb0
  go_enter Tryz.func72,Tryz.ntmps72
  go_wp2_with fail
  refine Calls.mono (HC.out _ HS0.out) ?_
  rintro e w1 ⟨rfl,hb1⟩
  have HB1:=hid (HB0.out.trans (hb1.mono HB0.out.size))
  have HH1 : Hid (w1.heap[w.heap.size]? = some (.cells #[.slice none 0 0] 160 (0,0))):=(hb1.block _ (heap_lt HH.out)).trans HH.out
  clear hb1 hw0
  go_wp2_with fail
  refine Calls.mono (HK.out _ HB1.out) ?_
  rintro e w2 ⟨g,c,rfl,hb2,hN2,hg,hgl⟩
  have hh2:=(hb2.block _ (heap_lt HH1.out)).trans HH1.out
  have u0:=Lib.cell_of_heap hh2 0
  have z0:=Lib.frozen_of_heap hh2 0
  simp only [List.getElem?_toArray,List.getElem?_cons_zero] at u0
  have HR : Hid (Below w.heap.size w (w2.setCell ⟨w.heap.size,0,none⟩ (.slice (some ⟨g,0,none⟩) ss.length c)) ∧ SsAt (w2.setCell ⟨w.heap.size,0,none⟩ (.slice (some ⟨g,0,none⟩) ss.length c)) g 0 ss ∧ w.heap.size ≤ g ∧ g < (w2.setCell ⟨w.heap.size,0,none⟩ (.slice (some ⟨g,0,none⟩) ss.length c)).heap.size):=by
    have hlt1:=heap_lt HH1.out
    refine ⟨(HB1.out.trans (hb2.mono HB1.out.size)).setCell (p:=⟨w.heap.size,0,none⟩) (Nat.le_refl _) _,?_,by omega,by simpa using hgl⟩
    exact hN2.grown (grown_setS w2 w.heap.size 0 _) hgl (by intro e; injection e with e; omega)
  have c2 : (w2.setCell ⟨w.heap.size,0,none⟩ (.slice (some ⟨g,0,none⟩) ss.length c)).cell? ⟨w.heap.size,0,none⟩ = some (.slice (some ⟨g,0,none⟩) ss.length c):=by
    have : Boxed w2 w.heap.size 160 (.slice none 0 0):=hh2
    exact (this.set _).cell
  clear hb2 hN2 hg hgl hh2 HH1 HH HB1 HB0
  go_wp2
  refine bodyPost_ret (v:=.tuple #[wyV g 0 ss.length c,.nilIface]) (by simp [results,Tryz.results72,go_sem,c2]) rfl ⟨g,c,rfl,HR.out⟩
def plE (n : Nat) (i : Int) : Int:=if 400 < n then 3 else if 0 ≤ i ∧ i ≤ n then 0 else 1
theorem checkPlace_any (s : ByteArray) (i : Int) (w : World) (hs : s.size ≤ maxLen) :
    Calls Tryz.prog 102 #[.string s,.int .i64 i] w fun e w' => e = .returned (errV (plE s.size i)) ∧ Below w.heap.size w w':=by
  unfold maxLen at hs
  by_cases h4 : 400 < s.size
  · have HF : Hid (plE s.size i = 3):=by show _ = _; unfold plE; rw [if_pos h4]
    have g4 : (400 : Int) < (s.size : Int):=by omega
    clear h4
    go_enter Tryz.func102,Tryz.ntmps102
    go_wp2
    go_ret
    exact ⟨by rw [HF.out]; rfl,Below.refl _ _⟩
  · have g4 : (s.size : Int) ≤ 400:=by omega
    by_cases h0 : 0 ≤ i
    · by_cases h1 : i ≤ (s.size : Int)
      · have HF : Hid (plE s.size i = 0):=by show _ = _; unfold plE; rw [if_neg h4,if_pos ⟨h0,h1⟩]
        clear h4
        go_enter Tryz.func102,Tryz.ntmps102
        go_wp2
        go_ret
        exact ⟨by rw [HF.out]; rfl,Below.refl _ _⟩
      · have HF : Hid (plE s.size i = 1):=by show _ = _; unfold plE; rw [if_neg h4,if_neg (by omega)]
        clear h4
        go_enter Tryz.func102,Tryz.ntmps102
        go_wp2
        go_ret
        exact ⟨by rw [HF.out]; rfl,Below.refl _ _⟩
    · have HF : Hid (plE s.size i = 1):=by show _ = _; unfold plE; rw [if_neg h4,if_neg (by omega)]
      clear h4
      go_enter Tryz.func102,Tryz.ntmps102
      go_wp2
      go_ret
      exact ⟨by rw [HF.out]; rfl,Below.refl _ _⟩
theorem lasts_tab : Lasts Tab:=fun w w' h hb => h.below hb (Nat.le_refl _)
end Go.Proofs.YtcjghhedphmhkaaGreatDoor
namespace Go.Proofs.YtcjghhedphmhkaaGreatDoor
open Go.RowKit
noncomputable def rs (R : Nat → Nat → Prop) (i : Nat) : Nat → Bool:=fun j => @decide (R i j) (Classical.propDecidable _)
noncomputable def fs (s : List UInt8) (t : Rx) (i : Nat) : Nat → Bool:=rs (Fit s t) i
def hop (s : List UInt8) (t : Rx) (i : Nat) : Nat → Nat → Prop:=fun k j => i < k ∧ Fit s t k j
theorem pigeon {α : Type} (f : Nat → α) : ∀ (N : Nat) (l : List α),l.Pairwise (fun a b => a ≠ b) → (∀ k ∈ l,∃ c,c < N ∧ k = f c) → l.length ≤ N
  | 0,[],_,_ => Nat.le_refl _
  | 0,a :: l,_,h => by obtain ⟨c,hc,_⟩:=h a (by simp); omega
  | N + 1,l,hp,h => by
    haveI : DecidableEq α:=fun a b => Classical.propDecidable (a = b)
    have h1:=pigeon f N (l.filter fun a => !decide (a = f N)) (hp.filter _) (fun k hk => by
      rw [List.mem_filter] at hk
      obtain ⟨c,hc,rfl⟩:=h k hk.1
      refine ⟨c,?_,rfl⟩
      rcases Nat.lt_or_ge c N with h' | h'
      · exact h'
      · obtain rfl : c = N:=by omega
        simp at hk)
    have h2 : ∀ (l : List α),l.Pairwise (fun a b => a ≠ b) → l.length ≤ (l.filter fun a => !decide (a = f N)).length + 1:=by
      intro l
      induction l with
      | nil => intro _; simp
      | cons a l ih =>
        intro hp
        rw [List.pairwise_cons] at hp
        by_cases ha : a = f N
        · have e : l.filter (fun a => !decide (a = f N)) = l:=List.filter_eq_self.2 fun b hb => by
            have:=hp.1 b hb
            simp
            intro e
            exact this (ha.trans e.symm)
          rw [List.filter_cons,e]
          simp [ha]
        · rw [List.filter_cons]
          have:=ih hp.2
          simp [ha]
          omega
    have:=h2 l hp
    omega
def stepsL (p : Nat → Bool) : Lit:=.string (keyBytes [.int .u64 (wd p 0),.int .u64 (wd p 1),.int .u64 (wd p 2),.int .u64 (wd p 3)])
def placeL (fi la : Bool) : Lit:=.string (keyBytes [.bool fi,.bool la])
def moveL (c : UInt8) (fi la : Bool) : Lit:=.string (keyBytes [.int .u8 (c.toNat : Int),.bool fi,.bool la])
def mvV (c : UInt8) (fi la : Bool) : Value:=.agg #[.int .u8 (c.toNat : Int),.bool fi,.bool la]
theorem auto_laid : laidOutB Tryz.prog = true:=by kernel_rfl
theorem steps_row : (207 : TypeId) < Tryz.prog.types.size:=of_decide_eq_true (by kernel_rfl)
theorem steps_wide : (match Tryz.prog.underlying 207 with | some (.array _ _) | some (.struct _) => true | _ => false) = true:=by kernel_rfl
theorem steps_keyed : Maps.Keyed Tryz.prog 207:=Maps.Keyed.of_law (deep_law_laid auto_laid (m:=3) (by omega) steps_row (by kernel_rfl) steps_wide)
theorem place_row : (204 : TypeId) < Tryz.prog.types.size:=of_decide_eq_true (by kernel_rfl)
theorem place_wide : (match Tryz.prog.underlying 204 with | some (.array _ _) | some (.struct _) => true | _ => false) = true:=by kernel_rfl
theorem place_keyed : Maps.Keyed Tryz.prog 204:=Maps.Keyed.of_law (deep_law_laid auto_laid (m:=3) (by omega) place_row (by kernel_rfl) place_wide)
theorem move_row : (213 : TypeId) < Tryz.prog.types.size:=of_decide_eq_true (by kernel_rfl)
theorem move_wide : (match Tryz.prog.underlying 213 with | some (.array _ _) | some (.struct _) => true | _ => false) = true:=by kernel_rfl
theorem move_keyed : Maps.Keyed Tryz.prog 213:=Maps.Keyed.of_law (deep_law_laid auto_laid (m:=3) (by omega) move_row (by kernel_rfl) move_wide)
theorem typeN_pos : ∃ d,Tryz.prog.types.size = d + 3:=⟨Tryz.prog.types.size - 3,(Nat.sub_add_cancel (show 3 ≤ Tryz.prog.types.size from of_decide_eq_true (by kernel_rfl))).symm⟩
theorem place_key (fi la : Bool) : keyOf Tryz.prog 204 (pcV fi la) = some (placeL fi la):=by
  have hk : Tryz.prog.keyType 204 = true:=by kernel_rfl
  have hf : (pcV fi la).formed Tryz.prog 204 = true:=by kernel_rfl
  obtain ⟨d,hd⟩:=typeN_pos
  have hc : Tryz.prog.cellsOf 204 = 2:=by kernel_rfl
  have hc1 : Tryz.prog.cellsOf 4 = 1:=by kernel_rfl
  unfold keyOf
  rw [Tryz.underlying204]
  simp only [hk,hf,Bool.and_self,if_true,hd]
  simp [pcV,placeL,Value.cells,Program.keyLits,Tryz.underlying204,Tryz.underlying4,hc,hc1]
theorem wf_u64 {x : Int} (h : okW x) : (Lit.int .u64 x).wf = true:=WalkArith.wf_u64 (by unfold okW at h; omega)
theorem wf_u8 (c : UInt8) : (Lit.int .u8 (c.toNat : Int)).wf = true:=WalkArith.wf_u8 (by have:=c.toNat_lt; omega)
theorem steps_key (p : Nat → Bool) : keyOf Tryz.prog 207 (stV p) = some (stepsL p):=by
  have w0:=wf_u64 (wd_ok p 0)
  have w1:=wf_u64 (wd_ok p 1)
  have w2:=wf_u64 (wd_ok p 2)
  have w3:=wf_u64 (wd_ok p 3)
  unfold stV stepsL
  generalize wd p 0 = a0 at *
  generalize wd p 1 = a1 at *
  generalize wd p 2 = a2 at *
  generalize wd p 3 = a3 at *
  have hk : Tryz.prog.keyType 207 = true:=by kernel_rfl
  have hf : (Value.agg #[.int .u64 a0,.int .u64 a1,.int .u64 a2,.int .u64 a3]).formed Tryz.prog 207 = true:=by kernel_rfl
  obtain ⟨d,hd⟩:=typeN_pos
  have hc : Tryz.prog.cellsOf 207 = 4:=by kernel_rfl
  have hc2 : Tryz.prog.cellsOf 103 = 4:=by kernel_rfl
  have hc1 : Tryz.prog.cellsOf 102 = 1:=by kernel_rfl
  unfold keyOf
  rw [Tryz.underlying207]
  simp only [hk,hf,Bool.and_self,if_true,hd]
  simp [Value.cells,Program.keyLits,Tryz.underlying207,Tryz.underlying103,Tryz.underlying102,hc,hc1,hc2,w0,w1,w2,w3,show List.range 4 = [0,1,2,3] from rfl]
theorem move_key (c : UInt8) (fi la : Bool) : keyOf Tryz.prog 213 (mvV c fi la) = some (moveL c fi la):=by
  have w0:=wf_u8 c
  unfold mvV moveL
  generalize (c.toNat : Int) = a0 at *
  have hk : Tryz.prog.keyType 213 = true:=by kernel_rfl
  have hf : (Value.agg #[.int .u8 a0,.bool fi,.bool la]).formed Tryz.prog 213 = true:=by kernel_rfl
  obtain ⟨d,hd⟩:=typeN_pos
  have hc : Tryz.prog.cellsOf 213 = 3:=by kernel_rfl
  have hc2 : Tryz.prog.cellsOf 204 = 2:=by kernel_rfl
  have hc1 : Tryz.prog.cellsOf 4 = 1:=by kernel_rfl
  have hc3 : Tryz.prog.cellsOf 5 = 1:=by kernel_rfl
  unfold keyOf
  rw [Tryz.underlying213]
  simp only [hk,hf,Bool.and_self,if_true,hd]
  simp [Value.cells,Program.keyLits,Tryz.underlying213,Tryz.underlying204,Tryz.underlying4,Tryz.underlying5,hc,hc1,hc2,hc3,w0]
  rw [if_pos (by intro i x; rcases (by omega : i = 0 ∨ i = 1) with rfl | rfl <;> simp)]
  rfl
theorem steps_inj {p q : Nat → Bool} (h : stepsL p = stepsL q) : wd p 0 = wd q 0 ∧ wd p 1 = wd q 1 ∧ wd p 2 = wd q 2 ∧ wd p 3 = wd q 3:=by
  have h1:=steps_key p
  have h2:=steps_key q
  rw [h] at h1
  have:=steps_keyed.inj h1 h2
  unfold stV at this
  simpa using this
theorem sub_ext {ss : List St} (hl : ss.length ≤ 200) {p q : Nat → Bool} (hp : Sub ss p) (hq : Sub ss q) (h : stepsL p = stepsL q) : p = q:=by
  obtain ⟨h0,h1,h2,h3⟩:=steps_inj h
  funext j
  by_cases hj : j < 256
  · have key : ∀ i,i < 4 → wd p i = wd q i:=fun i hi => by
      rcases (by omega : i = 0 ∨ i = 1 ∨ i = 2 ∨ i = 3) with rfl | rfl | rfl | rfl <;> assumption
    have a1:=wd_bit p (j / 64) (j % 64) (by omega)
    have a2:=wd_bit q (j / 64) (j % 64) (by omega)
    rw [key (j / 64) (by omega),a2,show 64 * (j / 64) + j % 64 = j by omega] at a1
    exact a1.symm
  · have n1 : ∀ r : Nat → Bool,Sub ss r → r j = false:=fun r hr => by
      cases hrj : r j with
      | false => rfl
      | true =>
        have:=hr j hrj
        omega
    rw [n1 p hp,n1 q hq]
theorem place_inj {fi la fi' la' : Bool} (h : placeL fi la = placeL fi' la') : fi = fi' ∧ la = la':=by
  have h1:=place_key fi la
  have h2:=place_key fi' la'
  rw [h] at h1
  have:=place_keyed.inj h1 h2
  simpa [pcV] using this
theorem move_inj {c c' : UInt8} {fi la fi' la' : Bool} (h : moveL c fi la = moveL c' fi' la') : c = c' ∧ fi = fi' ∧ la = la':=by
  have h1:=move_key c fi la
  have h2:=move_key c' fi' la'
  rw [h] at h1
  have:=move_keyed.inj h1 h2
  unfold mvV at this
  simp at this
  exact ⟨UInt8.toNat_inj.1 (by omega),this.2.1,this.2.2⟩
def asIs (v : Value) : Option (DataW Value × List MemPlace):=some (.held v,[])
def Km (w : World) (kt : TypeId) (M k : Nat) (ok : Lit → Nat → Prop) : Prop :=
  ∃ D : DataW Value,w.ownsMap Tryz.prog kt asIs M (Maps.size D) D ∧ Maps.size D = k ∧ ∀ kl,Maps.has D kl = true → ∃ b,ok kl b ∧ ∀ z,D.atKey kl z = .held (.pointer (some ⟨b,0,none⟩))
theorem Km.made (w : World) (kt : TypeId) (ok : Lit → Nat → Prop) : Km (w.alloc (.map #[] 0)) kt w.heap.size 0 ok :=
  ⟨.map [],World.ownsMap_made w _ _ _,rfl,fun kl h => by simp [Maps.has] at h⟩
theorem Km.lt {w : World} {kt : TypeId} {M k : Nat} {ok : Lit → Nat → Prop} (h : Km w kt M k ok) : M < w.heap.size:=by
  obtain ⟨D,h,_⟩:=h
  exact h.lt
theorem Km.kept {w w' : World} {kt : TypeId} {M k : Nat} {ok : Lit → Nat → Prop} {row : Option Nat} (h : Km w kt M k ok) (hg : w.grownBy w' row) (hne : some M ≠ row) : Km w' kt M k ok:=by
  obtain ⟨D,h,hk⟩:=h
  exact ⟨D,h.kept hg hne,hk⟩
theorem Km.below {w w' : World} {kt : TypeId} {M k : Nat} {ok : Lit → Nat → Prop} (h : Km w kt M k ok) (hb : Below w.heap.size w w') : Km w' kt M k ok:=h.kept (gr_below hb none) (by simp)
theorem Km.mono {w : World} {kt : TypeId} {M k : Nat} {ok ok' : Lit → Nat → Prop} (h : Km w kt M k ok) (hm : ∀ l b,ok l b → ok' l b) : Km w kt M k ok':=by
  obtain ⟨D,h,hs,hk⟩:=h
  exact ⟨D,h,hs,fun kl hh => by obtain ⟨b,h1,h2⟩:=hk kl hh; exact ⟨b,hm _ _ h1,h2⟩⟩
theorem Km.heap {w : World} {kt : TypeId} {M k : Nat} {ok : Lit → Nat → Prop} (h : Km w kt M k ok) : ∃ es clock,w.heap[M]? = some (.map es clock):=by
  obtain ⟨D,⟨es,clock,hb,_⟩,_⟩:=h
  exact ⟨es,clock,hb⟩
theorem zero_state (w : World) : (zeroValue 201).run Tryz.prog w = .ok (.pointer none) w:=by kernel_rfl
theorem Km.look {w : World} {kt mt : TypeId} {M k : Nat} {ok : Lit → Nat → Prop} (h : Km w kt M k ok) (K : Maps.Keyed Tryz.prog kt) (hu : Tryz.prog.underlying mt = some (.map kt 201)) {key : Value} {kl : Lit} (hkey : keyOf Tryz.prog kt key = some kl) :
    (∃ b,ok kl b ∧ ∀ w' : World,w'.heap[M]? = w.heap[M]? → (Instr.lookup mt (.map (some M)) key false).run Tryz.prog w' = .ok (.pointer (some ⟨b,0,none⟩)) w') ∨
    ((∀ w' : World,w'.heap[M]? = w.heap[M]? → (Instr.lookup mt (.map (some M)) key false).run Tryz.prog w' = .ok (.pointer none) w') ∧
      (k < maxLen → ∀ (w0 : World) (b : Nat) (ok' : Lit → Nat → Prop),w0.heap[M]? = w.heap[M]? → (∀ l c,ok l c → ok' l c) → ok' kl b → ∃ w',(Instr.mapUpdate mt (.map (some M)) key (.pointer (some ⟨b,0,none⟩))).run Tryz.prog w0 = .ok () w' ∧ Km w' kt M (k + 1) ok' ∧ w0.grownBy w' (some M))):=by
  obtain ⟨D,h,hs,hk⟩:=h
  have hown : ∀ w' : World,w'.heap[M]? = w.heap[M]? → w'.ownsMap Tryz.prog kt asIs M (Maps.size D) D:=fun w' e => by
    obtain ⟨es,clock,hb,r⟩:=h
    exact ⟨es,clock,e.trans hb,r⟩
  have hkl:=K.key hkey
  cases hh : Maps.has D kl with
  | true =>
    obtain ⟨b,hx,hat⟩:=hk _ hh
    refine Or.inl ⟨b,hx,fun w' e' => ?_⟩
    obtain ⟨v,ps,hrun,hv⟩:=(hown w' e').lookup K hu (zero_state w') (zd:=.held _) (zp:=[]) rfl hkey
    rw [hat] at hv
    simp [asIs] at hv
    rw [hv.1] at hrun
    exact hrun
  | false =>
    refine Or.inr ⟨fun w' e' => ?_,fun hlt w0 b ok' e0 hm hb => ?_⟩
    · obtain ⟨v,ps,hrun,hv⟩:=(hown w' e').lookup K hu (zero_state w') (zd:=.held _) (zp:=[]) rfl hkey
      rw [Maps.atKey_of_not_has hh] at hv
      simp [asIs] at hv
      rw [hv.1] at hrun
      exact hrun
    · have h0:=hown w0 e0
      obtain ⟨w',hrun,hown',hg⟩:=h0.update K hu (by omega) hkey (val:=.pointer (some ⟨b,0,none⟩)) (d:=.held (.pointer (some ⟨b,0,none⟩))) (ps:=[]) rfl
      have hsz : Maps.size (D.put kl (.held (.pointer (some ⟨b,0,none⟩)))) = k + 1:=by
        rw [Maps.size_put (h0.tidy K),hh,hs]
        rfl
      refine ⟨w',hrun,⟨D.put kl (.held (.pointer (some ⟨b,0,none⟩))),?_,hsz,fun kl' hh' => ?_⟩,hg⟩
      · rw [hsz,← hs]
        exact hown'
      · by_cases e : kl' = kl
        · subst e
          exact ⟨b,hb,fun z => Maps.atKey_put_same h0.isMap hkl _ _⟩
        · rw [Maps.has_put_other e] at hh'
          obtain ⟨c,h4,h5⟩:=hk kl' hh'
          exact ⟨c,hm _ _ h4,fun z => by rw [Maps.atKey_put_other e]; exact h5 z⟩
theorem Km.small {w : World} {kt : TypeId} {M k : Nat} {ok : Lit → Nat → Prop} (h : Km w kt M k ok) (K : Maps.Keyed Tryz.prog kt) (N : Nat) (f : Nat → Lit) (hf : ∀ kl b,ok kl b → ∃ c,c < N ∧ kl = f c) : k ≤ N:=by
  obtain ⟨D,h,hs,hk⟩:=h
  obtain ⟨es,rfl,hp,hl⟩:=h.entries K
  have h1 : (es.map (·.1)).length ≤ N:=by
    refine pigeon f N _ (List.pairwise_map.2 hp) (fun kl hm => ?_)
    obtain ⟨q,hq,rfl⟩:=List.mem_map.1 hm
    have : Maps.has (DataW.map es) q.1 = true:=by
      rw [Maps.has_eq,List.any_eq_true]
      exact ⟨q,hq,WideAt.sameKey_self (hl q hq)⟩
    obtain ⟨b,hb,_⟩:=hk _ this
    exact hf _ _ hb
  rw [← hs]
  simpa [Maps.size] using h1
theorem Km.len {w : World} {kt mt : TypeId} {M k : Nat} {ok : Lit → Nat → Prop} (h : Km w kt M k ok) (hu : Tryz.prog.underlying mt = some (.map kt 201)) (ty : TypeId) : ∀ w' : World,w'.heap[M]? = w.heap[M]? → (Builtin.len_ #[mt] ty #[.map (some M)]).run Tryz.prog w' = .ok (.int .i64 (k : Int)) w':=fun w' e => by
  obtain ⟨D,h,hs,_⟩:=h
  have hown : w'.ownsMap Tryz.prog kt asIs M (Maps.size D) D:=by
    obtain ⟨es,clock,hb,r⟩:=h
    exact ⟨es,clock,e.trans hb,r⟩
  have:=hown.len hu ty
  rw [hs] at this
  exact this
end Go.Proofs.YtcjghhedphmhkaaGreatDoor
