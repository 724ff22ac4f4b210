/- Own texts. -/
import Derived.Test.YtcjghhedphmhkaaGreatDoorY17
import Derived.Deep.CutBlock
import Derived.Deep.Strs
set_option linter.unusedSimpArgs false
set_option linter.unusedVariables false
set_option maxRecDepth 100000
set_option maxHeartbeats 8000000
namespace Go.Proofs.YtcjghhedphmhkaaGreatDoor
open Go.RowKit
theorem ItIn.form6 {w : World} {v : Value} {l : List (Nat × ByteArray)} (h : ItIn w v l) : ∃ a cap,v = .slice a l.length cap ∧ True:=by
  obtain ⟨a,cap,h1,_⟩:=h
  exact ⟨a,cap,h1,trivial⟩
structure SpI (Sv : (Nat → Prop) → World → Value → SetS → Prop) (w : World) (u : Value) (mb i : Nat) (F : Nat → Prop) (iv pv : Value) (vs : List Value) (σ : SetS) (wr : World) : Prop where
  s : Sv F wr u σ
  m : RsI w.heap.size mb iv pv vs σ wr
  off : ∀ k,F k → ¬ Foot mb iv pv vs k
  lo : ∀ k,F k → w.heap.size ≤ k
  b : Below w.heap.size w wr
  ok : σ.Ok
  last : σ.last ≤ i
theorem SpI.sy {Sv : (Nat → Prop) → World → Value → SetS → Prop} {X : World → Prop} (S : SetC X Sv) {w : World} {u : Value} {mb i : Nat} {F : Nat → Prop} {iv pv : Value} {vs : List Value} {σ : SetS} {wr : World} (h : SpI Sv w u mb i F iv pv vs σ wr) (o : Obj) : Sy Sv w u mb F iv pv vs σ σ wr.heap.size o (wr.alloc o):=by
  have hb : Below wr.heap.size wr (wr.alloc o):=(Below.refl _ _).alloc (Nat.le_refl _) o
  exact ⟨S.keep F (fun _ => False) wr _ u σ h.s (But.below hb) (fun _ h => h.elim),h.m.below hb,h.off,h.lo,h.b.trans (hb.mono h.b.size),new_heap wr o,fun hf => by have:=S.lt F wr u σ h.s _ hf; omega,fun hf => by have:=(h.m.lt hf).2; omega⟩
theorem Sy.spI {Sv : (Nat → Prop) → World → Value → SetS → Prop} {w : World} {u : Value} {mb i : Nat} {F : Nat → Prop} {iv pv : Value} {vs : List Value} {σ : SetS} {xb : Nat} {xo : Obj} {wr : World} (h : Sy Sv w u mb F iv pv vs σ σ xb xo wr) (hok : σ.Ok) (hl : σ.last ≤ i) : SpI Sv w u mb i F iv pv vs σ wr:=⟨h.s,h.m,h.off,h.lo,h.b,hok,hl⟩
theorem setPlays_any {X : World → Prop} {Sv : (Nat → Prop) → World → Value → SetS → Prop} (hXb : Lasts X) (S : SetC X Sv) (T : SetT X Sv) (l : List Stp3) (v : Value) (w : World) (hX : X w) (hL : PlIn w v l) (wL : ∀ n ∈ l,n.wf) (hE : w.cell? ⟨0,0,none⟩ = some (rty 36)) (h0 : 0 < w.heap.size) :
    Calls Tryz.prog 3 #[v] w fun e w' => e = .returned (.bool true) ∧ Below w.heap.size w w':=by
  have HXb:=hid hXb
  have HS:=hid S
  have HTR0:=hid T
  have HX:=hid hX
  have HWL:=hid wL
  have HER : Hid (∀ w',Below w.heap.size w w' → ∀ n,_):=fun w' hb n => error_self n w' ((hb.cell (p:=⟨0,0,none⟩) h0).trans hE)
  have CN:=hid (S.new w hX)
  obtain ⟨va,vc,rfl,vm,hcase⟩:=hL
  have HCS:=hid hcase
  unfold maxLen at vm
  clear hXb S T hX wL hE hcase
  go_enter Tryz.func3,Tryz.ntmps3
  go_wp2_with fail
  refine Calls.mono CN.out ?_
  rintro e w1 ⟨u,F,rfl,hS1,hb1,hF1⟩
  have HI0 : Hid (SpI Sv w u w1.heap.size 0 F (.slice none 0 0) (.slice none 0 0) [] set0 (w1.alloc (.cells #[.slice none 0 0,.slice none 0 0,.int .i64 0,.bool false,.int .i64 0] 29))):=by
    have hb2 : Below w1.heap.size w1 (w1.alloc (.cells #[.slice none 0 0,.slice none 0 0,.int .i64 0,.bool false,.int .i64 0] 29)):=(Below.refl _ _).alloc (Nat.le_refl _) _
    refine ⟨HS.out.keep F (fun _ => False) w1 _ u set0 hS1 (But.below hb2) (fun _ h => h.elim),rs_new w.heap.size w1 hb1.size,fun k hk hf => ?_,hF1,hb1.trans (hb2.mono hb1.size),set0_ok,Nat.le_refl _⟩
    have:=HS.out.lt F w1 u set0 hS1 k hk
    rcases hf with rfl | hf | hf | ⟨u,hu,hf⟩
    · omega
    · cases hf
    · cases hf
    · cases hu
  obtain ⟨mb,hmb⟩ : ∃ mb,mb = w1.heap.size:=⟨_,rfl⟩
  rw [← hmb] at HI0
  clear hS1 hb1 hF1 CN
  go_wp2_with fail
  rw [← hmb]
  clear hmb
  go_loopw [5] (fun v wr => ∃ i : Nat,i ≤ l.length ∧ i ≤ 30 ∧ v = .int .i64 (i : Int) ∧ Hid (∃ F iv pv vs σ,SpI Sv w u mb i F iv pv vs σ wr)) (fun v _ => l.length - (intOf v).toNat)
  case atStart => exact ⟨0,by omega,by omega,rfl,⟨_,_,_,_,_,HI0.out⟩⟩
  case round =>
    clear HI0
    obtain ⟨i,hi,hi30,rfl,HA⟩:=hrel
    obtain ⟨F,iv,pv,vs,σ,hA⟩:=HA.out
    have HA1:=hid hA
    clear HA hA
    by_cases hil : i < l.length
    · by_cases hi3 : i < 30
      · obtain ⟨n,hn⟩ : ∃ n,l[i]? = some n:=⟨l[i],List.getElem?_eq_getElem hil⟩
        have i0 : (0 : Int) ≤ (i : Int):=by omega
        have i1 : (i : Int) < (l.length : Int):=by omega
        have i2 : (i : Int) < 30:=by omega
        obtain ⟨b,off,rfl,hlt,hat⟩ : ∃ b off,va = some ⟨b,off,none⟩ ∧ b < w.heap.size ∧ PlAt w b off l:=by
          rcases HCS.out with h | h
          · rw [h] at hil; simp at hil
          · exact h
        obtain ⟨x0,x1,x2⟩:=(hat.below HA1.out.b hlt) i n hn
        have HNW:=hid (HWL.out n (List.mem_of_getElem? hn))
        have HY:=hid (HA1.out.sy HS.out (.cells #[.int .i64 n.what,.string n.text,.int .i64 n.n] 31))
        have HOK:=hid HA1.out.ok
        have HLA:=hid HA1.out.last
        clear hn hat HCS hil hi3
        have HTX : Hid (n.text.size ≤ maxLen):=HNW.out.2.1
        go_upto_block 2 with fail
        go_cut [7,8] from 25 to 154 (fun a b wc => a = .bool true ∧ b = .bool true ∧ Hid (∃ F iv pv vs σ,SpI Sv w u mb (i + 1) F iv pv vs σ wc))
        case first =>
          have p0:=Lib.cell_of_heap HY.out.x 0
          have p1:=Lib.cell_of_heap HY.out.x 1
          have p2:=Lib.cell_of_heap HY.out.x 2
          simp only [List.getElem?_toArray,List.getElem?_cons_zero,List.getElem?_cons_succ] at p0 p1 p2
          obtain ⟨wx,hwx⟩ : ∃ wx,wx = wr.alloc (.cells #[.int .i64 n.what,.string n.text,.int .i64 n.n] 31):=⟨_,rfl⟩
          rw [← hwx] at p0 p1 p2 HY
          rw [← hwx]
          have HWX:=hid hwx
          clear hwx x0 x1 x2
          by_cases h012 : n.what = 0 ∨ n.what = 1 ∨ n.what = 2
          · obtain ⟨n1,k1,e1,σ1,had⟩:=add_total σ n.text
            have HAD:=hid had
            have CA:=hid (radd_any HY.out.m HOK.out (by have:=HLA.out; omega) n.text HTX.out n1 k1 e1 had)
            clear had
            rcases h012 with hp | hp | hp
            case' inl => have t0 : (n.what == 0) = true:=by rw [beq_iff_eq]; exact hp
            case' inr.inl =>
              have t0 : (n.what == 0) = false:=by rw [beq_eq_false_iff_ne]; omega
              have t1 : (n.what == 1) = true:=by rw [beq_iff_eq]; exact hp
            case' inr.inr =>
              have t0 : (n.what == 0) = false:=by rw [beq_eq_false_iff_ne]; omega
              have t1 : (n.what == 1) = false:=by rw [beq_eq_false_iff_ne]; omega
              have t2 : (n.what == 2) = true:=by rw [beq_iff_eq]; exact hp
            all_goals
              have HP:=hid hp
              clear hp
              go_wp2_with fail
              refine Calls.mono CA.out ?_
              rintro e w2 ⟨rfl,iv2,pv2,vs2,hm2,hb2,ho2⟩
              have HY2:=hid (HY.out.stepM HS.out hm2 hb2 ho2)
              have q1:=Lib.cell_of_heap HY2.out.x 1
              simp only [List.getElem?_toArray,List.getElem?_cons_zero,List.getElem?_cons_succ] at q1
              have CB:=hid (HS.out.add F w2 u σ n.text n1 k1 e1 σ1 (HXb.out w w2 HX.out HY2.out.b) HY2.out.s HOK.out (by have:=HLA.out; omega) HTX.out HAD.out)
              clear hm2 hb2 ho2 CA
              go_wp2_with fail
              refine Calls.mono CB.out ?_
              rintro e w3 ⟨rfl,F3,hs3,hb3,ho3⟩
              have HY3:=hid (HY2.out.stepS HS.out hs3 hb3 ho3)
              have CE:=hid (HER.out w3 HY3.out.b e1)
              clear hs3 hb3 ho3 CB q1
              go_wp2_with fail
              refine Calls.mono CE.out ?_
              rintro e w4 ⟨rfl,hb4⟩
              have HY4 : Hid (∃ F iv pv vs σ,SpI Sv w u mb (i + 1) F iv pv vs σ w4):=⟨F3,iv2,pv2,vs2,σ1,(HY3.out.below HS.out hb4).spI (HAD.out.isOk HOK.out) (by have:=HAD.out.last; have:=HLA.out; omega)⟩
              clear hb4 CE
              go_wp2
              go_meet
              case rel => exact ⟨rfl,rfl,HY4⟩
          · have hn0 : (n.what == 0) = false:=by rw [beq_eq_false_iff_ne]; omega
            have hn1 : (n.what == 1) = false:=by rw [beq_eq_false_iff_ne]; omega
            have hn2 : (n.what == 2) = false:=by rw [beq_eq_false_iff_ne]; omega
            by_cases h3 : n.what = 3
            · have hn3 : (n.what == 3) = true:=by rw [beq_iff_eq]; exact h3
              have CA:=hid (rremove_any HY.out.m HOK.out n.n)
              have H3:=hid h3
              clear h3 h012
              go_wp2_with fail
              refine Calls.mono CA.out ?_
              rintro e w2 ⟨rfl,iv2,pv2,vs2,hm2,hb2,ho2⟩
              have HY2:=hid (HY.out.stepM HS.out hm2 hb2 ho2)
              have q2:=Lib.cell_of_heap HY2.out.x 2
              simp only [List.getElem?_toArray,List.getElem?_cons_zero,List.getElem?_cons_succ] at q2
              have CB:=hid (HS.out.remove F w2 u σ n.n (HXb.out w w2 HX.out HY2.out.b) HY2.out.s HOK.out)
              clear hm2 hb2 ho2 CA
              go_wp2_with fail
              refine Calls.mono CB.out ?_
              rintro e w3 ⟨rfl,F3,hs3,hb3,ho3⟩
              have HY3:=hid (HY2.out.stepS HS.out hs3 hb3 ho3)
              have CE:=hid (HER.out w3 HY3.out.b (σ.delE n.n))
              clear hs3 hb3 ho3 CB q2
              go_wp2_with fail
              refine Calls.mono CE.out ?_
              rintro e w4 ⟨rfl,hb4⟩
              have HY4 : Hid (∃ F iv pv vs σ,SpI Sv w u mb (i + 1) F iv pv vs σ w4):=⟨F3,iv2,pv2,vs2,σ.del n.n,(HY3.out.below HS.out hb4).spI (HOK.out.del n.n) (by have:=HLA.out; show σ.last ≤ i + 1; omega)⟩
              clear hb4 CE
              go_wp2
              go_meet
              case rel => exact ⟨rfl,rfl,HY4⟩
            · have hn3 : (n.what == 3) = false:=by rw [beq_eq_false_iff_ne]; exact h3
              have hbx:=HY.out.m.box
              have r3:=Lib.cell_of_heap hbx 3
              have r4:=Lib.cell_of_heap hbx 4
              have f3:=Lib.frozen_of_heap hbx 3
              have f4:=Lib.frozen_of_heap hbx 4
              simp only [List.getElem?_toArray,List.getElem?_cons_zero,List.getElem?_cons_succ] at r3 r4
              have hmx : ¬ wr.heap.size = mb:=fun e => HY.out.xM (Or.inl e)
              have hmy : ¬ mb = wr.heap.size:=fun e => hmx e.symm
              by_cases h4 : n.what = 4
              · have hn4 : (n.what == 4) = true:=by rw [beq_iff_eq]; exact h4
                clear h4 h3 h012
                have hg:=grown_cellR wx ⟨mb,3,none⟩ (.bool (n.n.tmod 2 == 0))
                have hput : RsI w.heap.size mb iv pv vs (σ.filt (n.n.tmod 2 == 0)) (wx.setCell ⟨mb,3,none⟩ (.bool (n.n.tmod 2 == 0))):=HY.out.m.put hg rfl (by simp [World.setCell,Array.getElem?_modify,hbx,SetS.filt])
                have HY2:=hid (HY.out.stepM HS.out hput (But.grown hg (fun k e => by injection e with e; exact Or.inl e.symm)) (fun k hk => Or.inl hk))
                have q2:=Lib.cell_of_heap HY2.out.x 2
                simp only [List.getElem?_toArray,List.getElem?_cons_zero,List.getElem?_cons_succ] at q2
                have CB:=hid (HS.out.filter F _ u σ (n.n.tmod 2 == 0) (HXb.out w _ HX.out HY2.out.b) HY2.out.s HOK.out)
                clear hg hput hbx
                go_wp2_with fail
                refine Calls.mono CB.out ?_
                rintro e w3 ⟨rfl,F3,hs3,hb3,ho3⟩
                have HY3:=hid (HY2.out.stepS HS.out hs3 hb3 ho3)
                have HY4 : Hid (∃ F iv pv vs σ,SpI Sv w u mb (i + 1) F iv pv vs σ w3):=⟨F3,iv,pv,vs,σ.filt (n.n.tmod 2 == 0),HY3.out.spI (HOK.out.filt _) (by have:=HLA.out; show σ.last ≤ i + 1; omega)⟩
                clear hs3 hb3 ho3 CB q2
                go_wp2
                go_meet
                case rel => exact ⟨rfl,rfl,HY4⟩
              · have hn4 : (n.what == 4) = false:=by rw [beq_eq_false_iff_ne]; exact h4
                obtain ⟨e1,hits,σ1,hsc⟩:=scan_total σ n.text
                have HSC:=hid hsc
                have HLT : Hid (∀ k,F k → k < wx.heap.size):=HS.out.lt F wx u σ HY.out.s
                have CA1:=hid (rscan_any HY.out.m HOK.out n.text HTX.out e1 hits hsc)
                have HCB : Hid (∀ wM,Sy Sv w u mb F iv pv vs σ1 σ wr.heap.size (.cells #[.int .i64 n.what,.string n.text,.int .i64 n.n] 31) wM → _):=fun wM h => HS.out.scan F wM u σ n.text e1 hits σ1 (HXb.out w wM HX.out h.b) h.s HOK.out HTX.out HSC.out
                have HOK1:=hid (hsc.isOk HOK.out)
                have HLA1 : Hid (σ1.last ≤ i + 1):=by show _ ≤ _; have:=HLA.out; have:=hsc.last.1; omega
                have h03 : e1 = 0 ∨ (e1 = 3 ∧ σ1 = σ):=by
                  cases hsc with
                  | full => exact Or.inr ⟨rfl,rfl⟩
                  | ok => exact Or.inl rfl
                clear h4 h3 h012 hsc hbx
                go_wp2_with fail
                refine Calls.mono CA1.out ?_
                rintro e w2 ⟨v2,rfl,hh2,hm2,hb2⟩
                have HY2:=hid (HY.out.stepM HS.out hm2 hb2 (fun k hk => Or.inl hk))
                have HH2:=hid hh2
                clear hh2 hm2 hb2 CA1
                rcases h03 with rfl | ⟨rfl,hσ⟩
                · have q1:=Lib.cell_of_heap HY2.out.x 1
                  simp only [List.getElem?_toArray,List.getElem?_cons_zero,List.getElem?_cons_succ] at q1
                  have CB:=hid (HCB.out w2 HY2.out)
                  go_wp2_with fail
                  refine Calls.mono CB.out ?_
                  rintro e w3 ⟨v3,rfl,F3,⟨hs3,hh3⟩,hb3,ho3⟩
                  have HY3:=hid (HY2.out.stepS HS.out hs3 hb3 ho3)
                  have HH3:=hid hh3.isIn
                  have HW3 : Hid (HtIn w3 v2 hits):=(HtOff.kept (F':=fun k => k < wx.heap.size) HH2.out hb3 (fun k _ hk => HLT.out k hk) (fun k _ hk => hk)).isIn
                  have CE:=hid (HER.out w3 HY3.out.b 0)
                  clear hs3 hh3 hb3 ho3 CB q1
                  go_wp2_with fail
                  refine Calls.mono CE.out ?_
                  rintro e w4 ⟨rfl,hb4⟩
                  have CH:=hid (hits_s_any hits hits v3 v2 w4 (HH3.out.below hb4) (HW3.out.below hb4))
                  rw [htEq_self] at CH
                  have HY4:=hid (HY3.out.below HS.out hb4)
                  clear hb4 CE
                  go_wp2_with fail
                  refine Calls.mono CH.out ?_
                  rintro e w5 ⟨rfl,hb5⟩
                  have HY5 : Hid (∃ F iv pv vs σ,SpI Sv w u mb (i + 1) F iv pv vs σ w5):=⟨F3,iv,pv,vs,σ1,(HY4.out.below HS.out hb5).spI HOK1.out HLA1.out⟩
                  clear hb5 CH
                  go_wp2
                  go_meet
                  case rel => exact ⟨rfl,rfl,HY5⟩
                · subst hσ
                  have hbx2:=HY2.out.m.box
                  have s4:=Lib.cell_of_heap hbx2 4
                  have sf4:=Lib.frozen_of_heap hbx2 4
                  simp only [List.getElem?_toArray,List.getElem?_cons_zero,List.getElem?_cons_succ] at s4
                  have hg:=grown_cellR w2 ⟨mb,4,none⟩ (.int .i64 (σ1.tried : Int))
                  have hput : RsI w.heap.size mb iv pv vs σ1 (w2.setCell ⟨mb,4,none⟩ (.int .i64 (σ1.tried : Int))):=HY2.out.m.put hg rfl (by simp [World.setCell,Array.getElem?_modify,hbx2])
                  have HYM:=hid (HY2.out.stepM HS.out hput (But.grown hg (fun k e => by injection e with e; exact Or.inl e.symm)) (fun k hk => Or.inl hk))
                  have HHM : Hid (HtOff (fun k => k < wx.heap.size) (w2.setCell ⟨mb,4,none⟩ (.int .i64 (σ1.tried : Int))) v2 hits):=HtOff.kept HH2.out (But.grown (F:=fun k => k = mb) hg (fun k e => by injection e with e; exact e.symm)) (fun k _ hk => by rw [hk]; exact hp_lt HY.out.m.box) (fun k _ hk => hk)
                  have q1:=Lib.cell_of_heap HYM.out.x 1
                  simp only [List.getElem?_toArray,List.getElem?_cons_zero,List.getElem?_cons_succ] at q1
                  have CB:=hid (HCB.out _ HYM.out)
                  clear hg hput hbx2
                  go_wp2_with fail
                  refine Calls.mono CB.out ?_
                  rintro e w3 ⟨v3,rfl,F3,⟨hs3,hh3⟩,hb3,ho3⟩
                  have HY3:=hid (HYM.out.stepS HS.out hs3 hb3 ho3)
                  have HH3:=hid hh3.isIn
                  have HW3 : Hid (HtIn w3 v2 hits):=(HtOff.kept (F':=fun k => k < wx.heap.size) HHM.out hb3 (fun k _ hk => HLT.out k hk) (fun k _ hk => hk)).isIn
                  have CE:=hid (HER.out w3 HY3.out.b 3)
                  clear hs3 hh3 hb3 ho3 CB q1
                  go_wp2_with fail
                  refine Calls.mono CE.out ?_
                  rintro e w4 ⟨rfl,hb4⟩
                  have CH:=hid (hits_s_any hits hits v3 v2 w4 (HH3.out.below hb4) (HW3.out.below hb4))
                  rw [htEq_self] at CH
                  have HY4:=hid (HY3.out.below HS.out hb4)
                  clear hb4 CE
                  go_wp2_with fail
                  refine Calls.mono CH.out ?_
                  rintro e w5 ⟨rfl,hb5⟩
                  have HY5 : Hid (∃ F iv pv vs σ,SpI Sv w u mb (i + 1) F iv pv vs σ w5):=⟨F3,iv,pv,vs,σ1,(HY4.out.below HS.out hb5).spI HOK1.out HLA1.out⟩
                  clear hb5 CH
                  go_wp2
                  go_meet
                  case rel => exact ⟨rfl,rfl,HY5⟩
        case rest =>
          obtain ⟨rfl,rfl,HB⟩:=hcut
          obtain ⟨F2,iv2,pv2,vs2,σ2,hI⟩:=HB.out
          have HI:=hid hI
          have hbx:=hI.m.box
          have r0:=Lib.cell_of_heap hbx 0
          have r4:=Lib.cell_of_heap hbx 4
          simp only [List.getElem?_toArray,List.getElem?_cons_zero,List.getElem?_cons_succ] at r0 r4
          have HL : Hid (∀ w',Below wc.heap.size wc w' → _):=fun w' hb => HS.out.list F2 w' u σ2 (HXb.out w w' HX.out (HI.out.b.trans (hb.mono HI.out.b.size))) (HS.out.keep F2 (fun _ => False) wc w' u σ2 HI.out.s (But.below hb) (fun _ h => h.elim)) HI.out.ok
          have HT : Hid (∀ w',Below wc.heap.size wc w' → _):=fun w' hb => HTR0.out.tried F2 w' u σ2 (HXb.out w w' HX.out (HI.out.b.trans (hb.mono HI.out.b.size))) (HS.out.keep F2 (fun _ => False) wc w' u σ2 HI.out.s (But.below hb) (fun _ h => h.elim)) HI.out.ok
          have HIT : Hid (∀ v w',ItIn w' v σ2.items → Below wc.heap.size wc w' → Calls Tryz.prog 16 #[v,iv2] w' fun e w'' => e = .returned (.bool true) ∧ Below w'.heap.size w' w''):=fun v w' hv hb => by
            have h:=itms_any σ2.items σ2.items v iv2 w' hv ((HI.out.m.below hb).items.isIn (by rw [SetS.items_len]; have:=HI.out.ok.len; unfold maxLen; omega))
            rw [itEq_self] at h
            exact h
          clear hbx hI HB
          go_upto_region 30 with fail
          go_cut [21] from 25 to 154 (fun v wq => v = .bool true ∧ Hid (Below wc.heap.size wc wq))
          case first =>
            go_region_with (first
              | (go_at_call 17; refine (HL.out _ ((Below.refl _ _).drew)).mono ?_; rintro e w6 ⟨v6,rfl,hi6,hb6⟩; have hbw : Below wc.heap.size wc w6:=((Below.refl _ wc).drew).trans hb6; have r0':=(World.cell?_of_block (a:=⟨mb,0,none⟩) (hbw.block mb (hp_lt HI.out.m.box))).trans r0; obtain ⟨a6,c6,rfl,_⟩:=hi6.form6)
              | (go_at_call 16; refine (HIT.out _ w6 hi6 hbw).mono ?_; rintro e w7 ⟨rfl,hb7⟩))
            all_goals
              have HB7 : Hid (Below wc.heap.size wc w7):=hbw.trans (hb7.mono hbw.size)
              clear hb6 hb7 hi6 r0' hbw HL HIT r0
              go_wp2_with fail
              go_meet
              case rel => exact ⟨rfl,HB7⟩
          case rest =>
          obtain ⟨rfl,HB7⟩:=hcut
          have HI7 : Hid (SpI Sv w u mb (i + 1) F2 iv2 pv2 vs2 σ2 wc):=⟨HS.out.keep F2 (fun _ => False) _ wc u σ2 HI.out.s (But.below HB7.out) (fun _ h => h.elim),HI.out.m.below HB7.out,HI.out.off,HI.out.lo,HI.out.b.trans (HB7.out.mono HI.out.b.size),HI.out.ok,HI.out.last⟩
          clear HT HL HIT r0 r4 HB7 HI
          have HT : Hid (∀ w',Below wc.heap.size wc w' → _):=fun w' hb => HTR0.out.tried F2 w' u σ2 (HXb.out w w' HX.out (HI7.out.b.trans (hb.mono HI7.out.b.size))) (HS.out.keep F2 (fun _ => False) wc w' u σ2 HI7.out.s (But.below hb) (fun _ h => h.elim)) HI7.out.ok
          have r4:=Lib.cell_of_heap HI7.out.m.box 4
          simp only [List.getElem?_toArray,List.getElem?_cons_zero,List.getElem?_cons_succ] at r4
          have r4r:=cell_regrown r4
          have hne : ((σ2.tried : Int) != (σ2.tried : Int)) = false:=by simp
          clear r4
          go_wp2_with fail
          refine wp_region_quiet_below (by kernel_rfl) (by kernel_rfl) ?_
          repeat (go_big_quiet_step (first
            | (go_at_call 18; exact Calls.regrown_of (HT.out _ (below_regrown _ _ _)))))
          refine wpQuiet_nil ?_
          intro _ hw'
          obtain ⟨⟨dq,osq⟩,hw''⟩:=hw'
          have hbz:=below_regrown wc dq osq
          subst hw''
          generalize Go.Sort.grow (redrawn wc dq) osq = wz at *
          have HI8 : Hid (∃ F iv pv vs σ,SpI Sv w u mb (i + 1) F iv pv vs σ wz):=⟨F2,iv2,pv2,vs2,σ2,HS.out.keep F2 (fun _ => False) wc wz u σ2 HI7.out.s (But.below hbz) (fun _ h => h.elim),HI7.out.m.below hbz,HI7.out.off,HI7.out.lo,HI7.out.b.trans (hbz.mono HI7.out.b.size),HI7.out.ok,HI7.out.last⟩
          clear hbz HI7 HT r4r
          go_wp2
          exact ⟨⟨i + 1,by omega,by omega,by go_num,HI8⟩,by simp [intOf]; omega⟩
      · have g1 : (i : Int) < (l.length : Int):=by omega
        have g2 : ¬ (i : Int) < 30:=by omega
        have HB:=hid HA1.out.b
        go_wp2
        go_ret
        exact ⟨rfl,HB.out⟩
    · have g1 : ¬ (i : Int) < (l.length : Int):=by omega
      have HB:=hid HA1.out.b
      go_wp2
      go_ret
      exact ⟨rfl,HB.out⟩
end Go.Proofs.YtcjghhedphmhkaaGreatDoor
namespace Go.Proofs.YtcjghhedphmhkaaGreatDoor
open Go.ChangeShapes Go.WideShapes Go.ChangeAt Go.RowKit Go.Deep Go.Joins
theorem cellsPlay : Tryz.prog.cellsOf 31 = 3:=by kernel_rfl
theorem cellsStr : Tryz.prog.cellsOf 9 = 1:=by kernel_rfl
theorem open_play {H : Type} {enc : TypeId × Value → H} {W : World} {base : Nat} {sp : Nat → Bool} {held : Bool} {fuel : Nat} {cs : List Value} {x : DataW H × List MemPlace}
    (h : DataW.trod enc Tryz.prog W base sp held fuel 31 cs = some x) : ∃ n : Stp3,cs = n.cells ∧ n.wf:=by
  obtain ⟨y0,y1,y2,k,hxy,hl,u0,u1,u2⟩:=trod_struct3 Tryz.underlying31 h
  rw [cellsPlay] at hl
  match cs,hl with
  | [c0,c1,c2],_ =>
    simp only [cellsInt,cellsStr,List.drop,List.take] at u0 u1 u2
    obtain ⟨q,e0,d0,w⟩:=DataW.trod_int Tryz.underlying3 u0
    obtain ⟨t,e1,d1,ht⟩:=DataW.trod_string Tryz.underlying9 u1
    obtain ⟨p,e2,d2,wp⟩:=DataW.trod_int Tryz.underlying3 u2
    simp only [List.cons.injEq,and_true] at e0 e1 e2
    subst e0 e1 e2
    exact ⟨⟨q,t,p⟩,rfl,w,ht,wp⟩
theorem open_plays {H : Type} {enc : TypeId × Value → H} {W : World} {base : Nat} {sp : Nat → Bool} {held : Bool} {v : Value} {d : DataW H} {p : List MemPlace}
    (hval : Value.okWide Tryz.prog W .any base 22 v) (h : DataW.Trod enc Tryz.prog W 0 sp held 22 v d p) : ∃ ss : List Stp3,PlIn W v ss ∧ ∀ n ∈ ss,n.wf:=by
  obtain ⟨a0,len0,cap0,rfl⟩:=okWide_slice Tryz.underlying22 hval
  obtain ⟨fuel,hf⟩:=h
  rcases open_slice Tryz.underlying22 hf with ⟨hc,_⟩ | ⟨a,len,cap,m,n,D,Pl,hc,hb,hl,hm,hmm,_,hx⟩
  · simp [Value.cells] at hc
    obtain ⟨rfl,rfl,rfl⟩:=hc
    exact ⟨[],⟨none,0,rfl,by simp,Or.inl rfl⟩,by simp⟩
  · simp [Value.cells] at hc
    obtain ⟨rfl,rfl,rfl⟩:=hc
    have hlm : len0 ≤ m:=by rw [hmm]; split <;> omega
    have each : ∀ i,i < len0 → ∃ n : Stp3,W.cells? 0 (a.add (i * 3)) 3 = some n.cells ∧ n.wf:=by
      intro i hi
      obtain ⟨cs',h1,h2⟩:=hx i (by omega)
      rw [cellsPlay] at h1
      obtain ⟨n,rfl,hw⟩:=open_play h2
      exact ⟨n,h1,hw⟩
    obtain ⟨q,hq⟩:=choose_lt each
    refine ⟨(List.range len0).map q,⟨some a,cap0,by simp,by simp; omega,?_⟩,?_⟩
    · rcases Nat.eq_zero_or_pos len0 with h0 | h0
      · subst h0; exact Or.inl rfl
      right
      obtain ⟨b,off,spot⟩:=a
      have cells : ∀ i,i < len0 → ∀ j,j < 3 → W.cell? ((⟨b,off,spot⟩ : Addr).add (i * 3 + j)) = (q i).cells[j]?:=by
        intro i hi j hj
        obtain ⟨_,_,hcell⟩:=World.cells?_some (hq i hi).1
        have:=hcell j hj
        rwa [add_add] at this
      have hspot : spot = none:=by
        have:=cells 0 h0 0 (by omega)
        simpa [Addr.add,Stp3.cells] using World.cell?_spot this
      subst hspot
      have plain : ∀ k,(⟨b,off,none⟩ : Addr).add k = ⟨b,off + k,none⟩:=by
        intro k
        rcases k with _ | k <;> simp [Addr.add]
      refine ⟨b,off,rfl,?_,?_⟩
      · have:=cells 0 h0 0 (by omega)
        rw [plain] at this
        rcases Nat.lt_or_ge b W.heap.size with h' | h'
        · exact h'
        · simp [World.cell?,Array.getElem?_eq_none h',Stp3.cells] at this
      · intro i n hn
        have hi : i < len0:=by
          rcases Nat.lt_or_ge i len0 with h' | h'
          · exact h'
          · simp [h'] at hn
        have en : q i = n:=by simpa [hi] using hn
        subst en
        have c:=cells i hi
        refine ⟨?_,?_,?_⟩
        · have:=c 0 (by omega); rw [plain] at this; simpa [Nat.add_assoc,Stp3.cells] using this
        · have:=c 1 (by omega); rw [plain] at this; simpa [Nat.add_assoc,Stp3.cells] using this
        · have:=c 2 (by omega); rw [plain] at this; simpa [Nat.add_assoc,Stp3.cells] using this
    · intro n hn
      obtain ⟨i,hi,rfl⟩:=List.mem_map.1 hn
      exact (hq i (List.mem_range.1 hi)).2
end Go.Proofs.YtcjghhedphmhkaaGreatDoor
