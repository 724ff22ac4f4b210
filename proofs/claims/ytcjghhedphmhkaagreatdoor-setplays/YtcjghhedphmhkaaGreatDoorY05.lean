/- Own texts. -/
import Derived.Test.YtcjghhedphmhkaaGreatDoorY04
import Derived.Laws.IdiomCopy
import Derived.Lib.Overlaps
import Derived.Lib.AppendZerosOnto
import Derived.Shelf.Spec.SlicesInsertGrow
set_option linter.unusedSimpArgs false
set_option linter.unusedVariables false
set_option maxRecDepth 100000
set_option maxHeartbeats 8000000
namespace Go.Proofs.YtcjghhedphmhkaaGreatDoor
open Go.RowKit
def ItP (w : World) (g : Nat) (s : ByteArray) (v : Value) (F : C4 → C4) (R : Except Nat (C4 × List UInt8)) (e : Ending) (w' : World) : Prop :=
  match R with
  | .ok (c,r) => e = .returned (F c).v ∧ (∃ a',PA w' g s a' v r) ∧ w.grownBy w' (some g)
  | .error k => e = .panicked (mis ((s.size : Int) - (k : Int))) ∧ Stk w' g ∧ w.grownBy w' (some g)
def ItR (w : World) (g : Nat) (s : ByteArray) (v : Value) (B : Nat) (R : Except Nat (C4 × List UInt8)) (wr : World) : Prop :=
  ∃ (f : Nat) (k : C4) (l : List UInt8) (a : Nat),items f k l = R ∧ l.length < f ∧ k.ok ∧ PA wr g s a v l ∧ Hb wr B k ∧ Hb wr w.heap.size z4 ∧ w.grownBy wr (some g)
theorem items_end (f : Nat) (k : C4) (hf : 0 < f) : items f k [] = .error 0:=by
  cases f with
  | zero => omega
  | succ f => simp [items,rd1]
theorem items_stop (f : Nat) (k : C4) (r : List UInt8) (hf : 0 < f) : items f k (93 :: r) = .ok (k,r):=by
  cases f with
  | zero => omega
  | succ f => simp [items]
theorem items_no (g : Nat) (s : ByteArray) (a : Nat) (v : Value) (l : List UInt8) (hl : l.head? ≠ some 94) (w : World) (h : PA w g s a v l) :
    Calls Tryz.prog 132 #[.pointer (some ⟨g,0,none⟩)] w (ItP w g s v id (items (l.length + 1) z4 l)):=by
  have hlt:=h.lt
  have HP:=hid (fun o => h.below (new_block w o))
  obtain ⟨R,hR⟩ : ∃ R,R = items (l.length + 1) z4 l:=⟨_,rfl⟩
  rw [← hR]
  have HR:=hid hR
  clear h hR
  go_enter_defers Tryz.func132,Tryz.ntmps132
  go_wp2_with fail
  refine Calls.mono (skip_no g s a v l 94 _ rfl _ (HP.out _) hl) ?_
  rintro e w1 ⟨rfl,hb⟩
  have HZ : Hid (Hb w1 w.heap.size z4):=(Hb.new w z4 _ rfl).below hb (by simp)
  have HB:=hid ((new_block w (.cells z4.cells 104)).trans (hb.mono (by simp)))
  have HP1:=hid ((HP.out _).below hb)
  clear hb HP hl
  go_wp2_with fail
  obtain ⟨B,hBe⟩ : ∃ B,B = w1.heap.size:=⟨_,rfl⟩
  have HBs:=hid (show w.heap.size < B ∧ g < w.heap.size from ⟨by have:=HZ.out.lt; omega,hlt⟩)
  have HST : Hid (ItR w g s v B R (w1.alloc (.cells z4.cells 104))):=⟨l.length + 1,z4,l,a,HR.out.symm,by omega,z4_ok,HP1.out.below (new_block _ _),Hb.new w1 z4 B hBe,HZ.out.alloc _,grown_trans (grown_of_below HB.out _) (grown_of_below (new_block _ _) _)⟩
  rw [← hBe]
  clear HP1 HZ HB HR
  have HE:=hid hBe
  clear hBe
  go_loopw [] (fun wr => ItR w g s v B R wr) (fun wr => s.size - plc wr g)
  case atStart => exact HST.out
  case round =>
    clear HST
    obtain ⟨f,k,l',a',hI,hf,hk,hp,hC,hZ,hG⟩:=hrel
    have HI:=hid hI
    have HP:=hid hp
    have HC:=hid hC
    have HZ:=hid hZ
    have HG:=hid hG
    have HK:=hid hk
    have HF:=hid hf
    clear hI hf hk hp hC hZ hG
    cases l' with
    | nil =>
      go_wp2_with fail
      refine Calls.mono (more_nil g s a' v _ HP.out) ?_
      rintro e w2 ⟨rfl,hb2⟩
      obtain ⟨x0,x1,x2,x3,y0,y1,y2,y3⟩:=(HC.out.below hb2 HC.out.lt).all
      obtain ⟨z0,z1,z2,z3,t0,t1,t2,t3⟩:=(HZ.out.below hb2 HZ.out.lt).all
      have HP2:=hid (HP.out.below hb2)
      have HG2:=hid (grown_trans HG.out (grown_of_below hb2 _))
      have HRe : Hid (R = .error 0):=HI.out.symm.trans (items_end f k (by have:=HF.out; omega))
      clear hb2
      go_wp2_with fail
      have hB4 : Below w.heap.size w2 (put4 w2 w.heap.size k):=below_put4 (Below.refl _ _) (Nat.le_refl _) k
      refine door_no _ _ _ 93 g s a' v [] _ (HP2.out.belowB hB4 hlt) (by simp) ?_
      intro w4 hs hg4
      rw [HRe.out]
      exact ⟨by simp,hs,grown_trans (grown_below HG2.out hB4) hg4⟩
    | cons c r =>
      go_wp2_with fail
      refine Calls.mono (more_cons g s a' v c r _ HP.out) ?_
      rintro e w2 ⟨rfl,hb2⟩
      go_wp2_with fail
      refine Calls.mono (rsees_any g s a' v _ 93 _ rfl _ (HP.out.below hb2)) ?_
      rintro e w3 ⟨rfl,hb3⟩
      by_cases hc : c = 93
      · subst hc
        have HX : Hid (decide ((93 :: r).head? = some 93) = true):=by show _ = _; simp
        rw [HX.out]
        have hb23:=hb2.trans (hb3.mono hb2.size)
        obtain ⟨x0,x1,x2,x3,y0,y1,y2,y3⟩:=(HC.out.below hb23 HC.out.lt).all
        obtain ⟨z0,z1,z2,z3,t0,t1,t2,t3⟩:=(HZ.out.below hb23 HZ.out.lt).all
        have HP2:=hid (HP.out.below hb23)
        have HZ2:=hid (HZ.out.below hb23 HZ.out.lt)
        have HG2:=hid (grown_trans HG.out (grown_of_below hb23 _))
        have HRe : Hid (R = .ok (k,r)):=HI.out.symm.trans (items_stop f k r (by have:=HF.out; omega))
        clear hb2 hb3 hb23
        go_wp2_with fail
        have hB4 : Below w.heap.size w3 (put4 w3 w.heap.size k):=below_put4 (Below.refl _ _) (Nat.le_refl _) k
        refine door_yes _ _ _ 93 g s a' v r _ (HP2.out.belowB hB4 hlt) ?_
        intro w4 hp4 hg4
        have hq:=(HZ2.out.put4 k).grown hg4 (by omega)
        refine ⟨k.v,by simp [results,Tryz.results132,go_sem,hq.c0,hq.c1,hq.c2,hq.c3],?_⟩
        rw [HRe.out]
        exact ⟨rfl,⟨_,hp4⟩,grown_trans (grown_below HG2.out hB4) hg4⟩
      · have HX : Hid (decide ((c :: r).head? = some 93) = false):=by show _ = _; simp [hc]
        rw [HX.out]
        have hb23:=hb2.trans (hb3.mono hb2.size)
        have HP3:=hid (HP.out.below hb23)
        have HC3:=hid (HC.out.below hb23 HC.out.lt)
        have HZ3:=hid (HZ.out.below hb23 HZ.out.lt)
        have HG3:=hid (grown_trans HG.out (grown_of_below hb23 _))
        have HPL:=hid (show plc wr g = a' from HP.out.plc)
        clear HP HC HZ HG hb2 hb3 hb23 HX
        have HN:=hid (show (c :: r).head? ≠ some 93 from by simp [hc])
        clear hc
        obtain ⟨f',hf'⟩ : ∃ f',f = f' + 1:=⟨f - 1,by have:=HF.out; omega⟩
        subst hf'
        have HI2:=hid (HI.out.symm.trans (items_itm f' k (c :: r) HN.out))
        clear HI
        have n1 : ¬ B = g:=by have:=HBs.out; omega
        obtain ⟨x0,x1,x2,x3,y0,y1,y2,y3⟩:=HC3.out.all
        have HPd : Hid (∀ w' : World,w' = w3.drew → PA w' g s a' v (c :: r) ∧ Hb w' B k):=by
          rintro _ rfl
          exact ⟨HP3.out.below (below_drewN' w3 1),HC3.out.drew⟩
        cases hit : itm (c :: r) with
        | error k' =>
          have HRe : Hid (R = .error k'):=by
            have h:=HI2.out
            rw [hit] at h
            exact h
          have HT:=hid (item_bad g s a' v (c :: r) k' hit)
          clear HI2 hit
          go_wp2_with fail
          refine wp_panicIs (fun ch ds w' => ch = mis ((s.size : Int) - (k' : Int)) ∧ ds = [dclose g 93] ∧ Stk w' g ∧ w.grownBy w' (some g)) ?_ ?_
          · rintro ch a1 w5 ⟨rfl,hds,hs,hg5⟩
            show Leaves _ _ a1.tmps _ a1.defers _ _
            rw [hds]
            refine door_stuck _ _ _ _ _ g _ hs ?_
            intro w6 hb6
            rw [HRe.out]
            exact ⟨rfl,hs.below hb6,grown_trans hg5 (grown_of_below hb6 _)⟩
          refine wp_region_held_drew (S:=fun _ => True) (by kernel_rfl) trivial (fun _ => ?_)
          refine wpAnyH_take (i:=1) (oi:=_) (v:=?_) rfl (by kernel_rfl) (by kernel_rfl) (by kernel_rfl) (fun _ _ _ h => h) (Or.inl ⟨by rfl,?_⟩) trivial ?_
          rotate_left
          · (intro w hSw; simp only [List.getElem_toArray,List.getElem_cons_zero,List.getElem_cons_succ]; go_simp; try with_reducible rfl)
          simp only [List.getElem_toArray,List.getElem_cons_zero,List.getElem_cons_succ,Act.put,List.setIfInBounds_toArray,List.set_cons_zero,List.set_cons_succ]
          refine wpAnyH_ready (rs:=[0,2]) (by kernel_rfl) (by simp) (AllReadyH.cons (o:=_) rfl (fun K hK => ?_) (AllReadyH.cons (o:=_) rfl (fun K hK => ?_) AllReadyH.nil))
          · simp only [List.getElem_toArray,List.getElem_cons_zero,List.getElem_cons_succ]
            go_simp
            refine hK.out _ _ trivial (fun _ => ?_)
            clear hK K
            try simp only [List.getElem_toArray,List.getElem_cons_zero,List.getElem_cons_succ,Act.put,List.setIfInBounds_toArray,List.set_cons_zero,List.set_cons_succ]
            refine wpAnyH_ready (rs:=[2]) (by kernel_rfl) (by simp) (AllReadyH.cons (o:=_) rfl (fun K hK => ?_) AllReadyH.nil)
            try simp only [List.getElem_toArray,List.getElem_cons_zero,List.getElem_cons_succ]
            go_simp
            refine Calls.mono (HT.out _ (HPd.out _ rfl).1) ?_
            rintro e w5 ⟨rfl,hs,hg5⟩
            exact ⟨rfl,rfl,hs,grown_trans HG3.out (grown_trans (grown_of_below (below_drewN' w3 1) _) hg5)⟩
          · simp only [List.getElem_toArray,List.getElem_cons_zero,List.getElem_cons_succ]
            go_simp
            refine Calls.mono (HT.out _ (HPd.out _ rfl).1) ?_
            rintro e w5 ⟨rfl,hs,hg5⟩
            exact ⟨rfl,rfl,hs,grown_trans HG3.out (grown_trans (grown_of_below (below_drewN' w3 1) _) hg5)⟩
        | ok p =>
          obtain ⟨lo,n,r2⟩:=p
          have HRe : Hid (R = items f' (addTo k lo n) r2):=by
            have h:=HI2.out
            rw [hit] at h
            exact h
          have HT:=hid (item_ok g s a' v (c :: r) lo n r2 hit)
          have HIL:=hid (itm_len _ _ _ _ hit)
          have HO:=hid (or_rng HK.out lo n HIL.out.1)
          have HE2:=hid (either_any k (rng lo n))
          clear HI2 hit
          go_wp2_with fail
          refine wp_panicIs (fun ch ds w' => False) (fun _ _ _ h => h.elim) ?_
          go_region_with (first
            | (go_at_call 146; refine Calls.mono (HT.out _ (HPd.out _ rfl).1) ?_; rintro e w5 ⟨rfl,⟨a5,hp5⟩,hg5⟩; obtain ⟨q0,q1,q2,q3,r0,r1,r2',r3⟩:=((HPd.out _ rfl).2.grown hg5 n1).all)
            | (go_at_call 145; refine Calls.mono (HE2.out _) ?_; rintro e w6 ⟨rfl,hb6⟩; obtain ⟨q0,q1,q2,q3,r0,r1,r2',r3⟩:=(((HPd.out _ rfl).2.grown hg5 n1).below hb6 ((HPd.out _ rfl).2.grown hg5 n1).lt).all))
          all_goals refine PanicIs.normal ?_
          all_goals go_wp2_with fail
          all_goals
            have hB7 : Below w.heap.size w6 (put4 w6 B (k.or (rng lo n))):=below_put4 (Below.refl _ _) (by have:=HBs.out; omega) _
            have hC7:=(((HPd.out _ rfl).2.grown hg5 n1).below hb6 ((HPd.out _ rfl).2.grown hg5 n1).lt).put4 (k.or (rng lo n))
            have hC8 : Hb (put4 w6 B (k.or (rng lo n))) B (addTo k lo n):=by rw [← HO.out]; exact hC7
            have hZ5:=(HZ3.out.drew).grown hg5 (by omega)
            have hP7:=(hp5.below hb6).belowB hB7 hlt
            refine ⟨⟨f',addTo k lo n,r2,a5,HRe.out.symm,?_,addTo_ok HK.out lo n,hP7,hC8,(hZ5.below hb6 hZ5.lt).other4 _ (by have:=HBs.out; omega),grown_below (grown_trans HG3.out (grown_trans (grown_of_below (below_drewN' w3 1) _) (grown_trans hg5 (grown_of_below hb6 _)))) hB7⟩,?_⟩
            · have h1:=HF.out
              have h2:=HIL.out.2
              omega
            · have h1:=hP7.plc
              have h2:=HPL.out
              have h3:=hP7.le
              have h4:=HP3.out.le
              have h5:=HIL.out.2
              show s.size - plc (put4 w6 B (k.or (rng lo n))) g < s.size - plc wr g
              rw [h1,h2]
              omega
theorem items_hat (g : Nat) (s : ByteArray) (a : Nat) (v : Value) (l : List UInt8) (w : World) (h : PA w g s a v (94 :: l)) :
    Calls Tryz.prog 132 #[.pointer (some ⟨g,0,none⟩)] w (ItP w g s v C4.not (items (l.length + 1) z4 l)):=by
  have hlt:=h.lt
  have HP:=hid (fun o => h.below (new_block w o))
  obtain ⟨R,hR⟩ : ∃ R,R = items (l.length + 1) z4 l:=⟨_,rfl⟩
  rw [← hR]
  have HR:=hid hR
  clear h hR
  go_enter_defers Tryz.func132,Tryz.ntmps132
  go_wp2_with fail
  refine Calls.mono (skip_yes g s a v l 94 _ rfl _ (HP.out _)) ?_
  rintro e w1 ⟨rfl,hp1,hg⟩
  have HZ : Hid (Hb w1 w.heap.size z4):=(Hb.new w z4 _ rfl).grown hg (by omega)
  have HB:=hid (grown_trans (grown_of_below (new_block w (.cells z4.cells 104)) (some g)) hg)
  have HP1:=hid hp1
  clear hg hp1 HP
  go_wp2_with fail
  obtain ⟨B,hBe⟩ : ∃ B,B = w1.heap.size:=⟨_,rfl⟩
  have HBs:=hid (show w.heap.size < B ∧ g < w.heap.size from ⟨by have:=HZ.out.lt; omega,hlt⟩)
  have HST : Hid (ItR w g s v B R (w1.alloc (.cells z4.cells 104))):=⟨l.length + 1,z4,l,a + 1,HR.out.symm,by omega,z4_ok,HP1.out.below (new_block _ _),Hb.new w1 z4 B hBe,HZ.out.alloc _,grown_trans HB.out (grown_of_below (new_block _ _) _)⟩
  rw [← hBe]
  clear HP1 HZ HB HR
  have HE:=hid hBe
  clear hBe
  go_loopw [] (fun wr => ItR w g s v B R wr) (fun wr => s.size - plc wr g)
  case atStart => exact HST.out
  case round =>
    clear HST
    obtain ⟨f,k,l',a',hI,hf,hk,hp,hC,hZ,hG⟩:=hrel
    have HI:=hid hI
    have HP:=hid hp
    have HC:=hid hC
    have HZ:=hid hZ
    have HG:=hid hG
    have HK:=hid hk
    have HF:=hid hf
    clear hI hf hk hp hC hZ hG
    cases l' with
    | nil =>
      go_wp2_with fail
      refine Calls.mono (more_nil g s a' v _ HP.out) ?_
      rintro e w2 ⟨rfl,hb2⟩
      obtain ⟨x0,x1,x2,x3,y0,y1,y2,y3⟩:=(HC.out.below hb2 HC.out.lt).all
      obtain ⟨z0,z1,z2,z3,t0,t1,t2,t3⟩:=(HZ.out.below hb2 HZ.out.lt).all
      have HP2:=hid (HP.out.below hb2)
      have HG2:=hid (grown_trans HG.out (grown_of_below hb2 _))
      have HRe : Hid (R = .error 0):=HI.out.symm.trans (items_end f k (by have:=HF.out; omega))
      have hZ2:=HZ.out.below hb2 HZ.out.lt
      clear hb2
      go_wp2_with fail
      refine Calls.mono (not_any k _) ?_
      rintro e w9 ⟨rfl,hb9⟩
      clear z0 z1 z2 z3 t0 t1 t2 t3
      obtain ⟨z0,z1,z2,z3,t0,t1,t2,t3⟩:=(hZ2.below hb9 hZ2.lt).all
      replace HP2:=hid (HP2.out.below hb9)
      replace HG2:=hid (grown_trans HG2.out (grown_of_below hb9 _))
      clear hZ2 hb9
      go_wp2_with fail
      have hB4 : Below w.heap.size w9 (put4 w9 w.heap.size k.not):=below_put4 (Below.refl _ _) (Nat.le_refl _) k.not
      refine door_no _ _ _ 93 g s a' v [] _ (HP2.out.belowB hB4 hlt) (by simp) ?_
      intro w4 hs hg4
      rw [HRe.out]
      exact ⟨by simp,hs,grown_trans (grown_below HG2.out hB4) hg4⟩
    | cons c r =>
      go_wp2_with fail
      refine Calls.mono (more_cons g s a' v c r _ HP.out) ?_
      rintro e w2 ⟨rfl,hb2⟩
      go_wp2_with fail
      refine Calls.mono (rsees_any g s a' v _ 93 _ rfl _ (HP.out.below hb2)) ?_
      rintro e w3 ⟨rfl,hb3⟩
      by_cases hc : c = 93
      · subst hc
        have HX : Hid (decide ((93 :: r).head? = some 93) = true):=by show _ = _; simp
        rw [HX.out]
        have hb23:=hb2.trans (hb3.mono hb2.size)
        obtain ⟨x0,x1,x2,x3,y0,y1,y2,y3⟩:=(HC.out.below hb23 HC.out.lt).all
        obtain ⟨z0,z1,z2,z3,t0,t1,t2,t3⟩:=(HZ.out.below hb23 HZ.out.lt).all
        have HP2:=hid (HP.out.below hb23)
        have HZ2:=hid (HZ.out.below hb23 HZ.out.lt)
        have HG2:=hid (grown_trans HG.out (grown_of_below hb23 _))
        have HRe : Hid (R = .ok (k,r)):=HI.out.symm.trans (items_stop f k r (by have:=HF.out; omega))
        clear hb2 hb3 hb23
        go_wp2_with fail
        refine Calls.mono (not_any k _) ?_
        rintro e w9 ⟨rfl,hb9⟩
        clear z0 z1 z2 z3 t0 t1 t2 t3
        obtain ⟨z0,z1,z2,z3,t0,t1,t2,t3⟩:=(HZ2.out.below hb9 HZ2.out.lt).all
        replace HP2:=hid (HP2.out.below hb9)
        replace HZ2:=hid (HZ2.out.below hb9 HZ2.out.lt)
        replace HG2:=hid (grown_trans HG2.out (grown_of_below hb9 _))
        clear hb9
        go_wp2_with fail
        have hB4 : Below w.heap.size w9 (put4 w9 w.heap.size k.not):=below_put4 (Below.refl _ _) (Nat.le_refl _) k.not
        refine door_yes _ _ _ 93 g s a' v r _ (HP2.out.belowB hB4 hlt) ?_
        intro w4 hp4 hg4
        have hq:=(HZ2.out.put4 k.not).grown hg4 (by omega)
        refine ⟨k.not.v,by simp [results,Tryz.results132,go_sem,hq.c0,hq.c1,hq.c2,hq.c3],?_⟩
        rw [HRe.out]
        exact ⟨rfl,⟨_,hp4⟩,grown_trans (grown_below HG2.out hB4) hg4⟩
      · have HX : Hid (decide ((c :: r).head? = some 93) = false):=by show _ = _; simp [hc]
        rw [HX.out]
        have hb23:=hb2.trans (hb3.mono hb2.size)
        have HP3:=hid (HP.out.below hb23)
        have HC3:=hid (HC.out.below hb23 HC.out.lt)
        have HZ3:=hid (HZ.out.below hb23 HZ.out.lt)
        have HG3:=hid (grown_trans HG.out (grown_of_below hb23 _))
        have HPL:=hid (show plc wr g = a' from HP.out.plc)
        clear HP HC HZ HG hb2 hb3 hb23 HX
        have HN:=hid (show (c :: r).head? ≠ some 93 from by simp [hc])
        clear hc
        obtain ⟨f',hf'⟩ : ∃ f',f = f' + 1:=⟨f - 1,by have:=HF.out; omega⟩
        subst hf'
        have HI2:=hid (HI.out.symm.trans (items_itm f' k (c :: r) HN.out))
        clear HI
        have n1 : ¬ B = g:=by have:=HBs.out; omega
        obtain ⟨x0,x1,x2,x3,y0,y1,y2,y3⟩:=HC3.out.all
        have HPd : Hid (∀ w' : World,w' = w3.drew → PA w' g s a' v (c :: r) ∧ Hb w' B k):=by
          rintro _ rfl
          exact ⟨HP3.out.below (below_drewN' w3 1),HC3.out.drew⟩
        cases hit : itm (c :: r) with
        | error k' =>
          have HRe : Hid (R = .error k'):=by
            have h:=HI2.out
            rw [hit] at h
            exact h
          have HT:=hid (item_bad g s a' v (c :: r) k' hit)
          clear HI2 hit
          go_wp2_with fail
          refine wp_panicIs (fun ch ds w' => ch = mis ((s.size : Int) - (k' : Int)) ∧ ds = [dclose g 93] ∧ Stk w' g ∧ w.grownBy w' (some g)) ?_ ?_
          · rintro ch a1 w5 ⟨rfl,hds,hs,hg5⟩
            show Leaves _ _ a1.tmps _ a1.defers _ _
            rw [hds]
            refine door_stuck _ _ _ _ _ g _ hs ?_
            intro w6 hb6
            rw [HRe.out]
            exact ⟨rfl,hs.below hb6,grown_trans hg5 (grown_of_below hb6 _)⟩
          refine wp_region_held_drew (S:=fun _ => True) (by kernel_rfl) trivial (fun _ => ?_)
          refine wpAnyH_take (i:=1) (oi:=_) (v:=?_) rfl (by kernel_rfl) (by kernel_rfl) (by kernel_rfl) (fun _ _ _ h => h) (Or.inl ⟨by rfl,?_⟩) trivial ?_
          rotate_left
          · (intro w hSw; simp only [List.getElem_toArray,List.getElem_cons_zero,List.getElem_cons_succ]; go_simp; try with_reducible rfl)
          simp only [List.getElem_toArray,List.getElem_cons_zero,List.getElem_cons_succ,Act.put,List.setIfInBounds_toArray,List.set_cons_zero,List.set_cons_succ]
          refine wpAnyH_ready (rs:=[0,2]) (by kernel_rfl) (by simp) (AllReadyH.cons (o:=_) rfl (fun K hK => ?_) (AllReadyH.cons (o:=_) rfl (fun K hK => ?_) AllReadyH.nil))
          · simp only [List.getElem_toArray,List.getElem_cons_zero,List.getElem_cons_succ]
            go_simp
            refine hK.out _ _ trivial (fun _ => ?_)
            clear hK K
            try simp only [List.getElem_toArray,List.getElem_cons_zero,List.getElem_cons_succ,Act.put,List.setIfInBounds_toArray,List.set_cons_zero,List.set_cons_succ]
            refine wpAnyH_ready (rs:=[2]) (by kernel_rfl) (by simp) (AllReadyH.cons (o:=_) rfl (fun K hK => ?_) AllReadyH.nil)
            try simp only [List.getElem_toArray,List.getElem_cons_zero,List.getElem_cons_succ]
            go_simp
            refine Calls.mono (HT.out _ (HPd.out _ rfl).1) ?_
            rintro e w5 ⟨rfl,hs,hg5⟩
            exact ⟨rfl,rfl,hs,grown_trans HG3.out (grown_trans (grown_of_below (below_drewN' w3 1) _) hg5)⟩
          · simp only [List.getElem_toArray,List.getElem_cons_zero,List.getElem_cons_succ]
            go_simp
            refine Calls.mono (HT.out _ (HPd.out _ rfl).1) ?_
            rintro e w5 ⟨rfl,hs,hg5⟩
            exact ⟨rfl,rfl,hs,grown_trans HG3.out (grown_trans (grown_of_below (below_drewN' w3 1) _) hg5)⟩
        | ok p =>
          obtain ⟨lo,n,r2⟩:=p
          have HRe : Hid (R = items f' (addTo k lo n) r2):=by
            have h:=HI2.out
            rw [hit] at h
            exact h
          have HT:=hid (item_ok g s a' v (c :: r) lo n r2 hit)
          have HIL:=hid (itm_len _ _ _ _ hit)
          have HO:=hid (or_rng HK.out lo n HIL.out.1)
          have HE2:=hid (either_any k (rng lo n))
          clear HI2 hit
          go_wp2_with fail
          refine wp_panicIs (fun ch ds w' => False) (fun _ _ _ h => h.elim) ?_
          go_region_with (first
            | (go_at_call 146; refine Calls.mono (HT.out _ (HPd.out _ rfl).1) ?_; rintro e w5 ⟨rfl,⟨a5,hp5⟩,hg5⟩; obtain ⟨q0,q1,q2,q3,r0,r1,r2',r3⟩:=((HPd.out _ rfl).2.grown hg5 n1).all)
            | (go_at_call 145; refine Calls.mono (HE2.out _) ?_; rintro e w6 ⟨rfl,hb6⟩; obtain ⟨q0,q1,q2,q3,r0,r1,r2',r3⟩:=(((HPd.out _ rfl).2.grown hg5 n1).below hb6 ((HPd.out _ rfl).2.grown hg5 n1).lt).all))
          all_goals refine PanicIs.normal ?_
          all_goals go_wp2_with fail
          all_goals
            have hB7 : Below w.heap.size w6 (put4 w6 B (k.or (rng lo n))):=below_put4 (Below.refl _ _) (by have:=HBs.out; omega) _
            have hC7:=(((HPd.out _ rfl).2.grown hg5 n1).below hb6 ((HPd.out _ rfl).2.grown hg5 n1).lt).put4 (k.or (rng lo n))
            have hC8 : Hb (put4 w6 B (k.or (rng lo n))) B (addTo k lo n):=by rw [← HO.out]; exact hC7
            have hZ5:=(HZ3.out.drew).grown hg5 (by omega)
            have hP7:=(hp5.below hb6).belowB hB7 hlt
            refine ⟨⟨f',addTo k lo n,r2,a5,HRe.out.symm,?_,addTo_ok HK.out lo n,hP7,hC8,(hZ5.below hb6 hZ5.lt).other4 _ (by have:=HBs.out; omega),grown_below (grown_trans HG3.out (grown_trans (grown_of_below (below_drewN' w3 1) _) (grown_trans hg5 (grown_of_below hb6 _)))) hB7⟩,?_⟩
            · have h1:=HF.out
              have h2:=HIL.out.2
              omega
            · have h1:=hP7.plc
              have h2:=HPL.out
              have h3:=hP7.le
              have h4:=HP3.out.le
              have h5:=HIL.out.2
              show s.size - plc (put4 w6 B (k.or (rng lo n))) g < s.size - plc wr g
              rw [h1,h2]
              omega
theorem items_any (g : Nat) (s : ByteArray) (a : Nat) (v : Value) (l : List UInt8) (w : World) (h : PA w g s a v l) :
    Calls Tryz.prog 132 #[.pointer (some ⟨g,0,none⟩)] w (ItP w g s v id (bracket l)):=by
  unfold bracket
  by_cases hl : l.head? = some 94
  · rw [if_pos hl]
    obtain ⟨e,hn⟩:=tail_len l _ hl
    rw [e] at h
    have h2:=items_hat g s a v l.tail w h
    rw [hn] at h2
    cases hI : items l.length z4 l.tail with
    | error k => rw [hI] at h2; exact h2
    | ok p => obtain ⟨c,r⟩:=p; rw [hI] at h2; exact h2
  · rw [if_neg hl]
    exact items_no g s a v l hl w h
variable {P : Program}
def over (cur : Array Value) : Nat → List Value → Array Value
  | _,[] => cur
  | o,v :: r => over (cur.set! o v) (o + 1) r
theorem heap_over (b : Nat) (e : TypeId) (fz : Nat × Nat) : ∀ (vs : List Value) (o : Nat) (cur : Array Value) (w : World),w.heap[b]? = some (.cells cur e fz) → (w.setCells b o vs).heap[b]? = some (.cells (over cur o vs) e fz)
  | [],o,cur,w,h => h
  | v :: r,o,cur,w,h => by
    rw [World.setCells,over]
    refine heap_over b e fz r (o + 1) _ _ ?_
    simp [World.setCell,Array.getElem?_modify,h]
theorem over_size : ∀ (vs : List Value) (o : Nat) (cur : Array Value),(over cur o vs).size = cur.size
  | [],o,cur => rfl
  | v :: r,o,cur => by rw [over,over_size r]; simp
theorem over_list : ∀ (vs : List Value) (o : Nat) (cur : Array Value),o + vs.length ≤ cur.size → (over cur o vs).toList = cur.toList.take o ++ vs ++ cur.toList.drop (o + vs.length)
  | [],o,cur,h => by simp [over]
  | v :: r,o,cur,h => by
    simp only [List.length_cons] at h
    rw [over,over_list r (o + 1) _ (by simp; omega)]
    have e1 : (cur.set! o v).toList = cur.toList.set o v:=by simp
    rw [e1]
    have e2 : (cur.toList.set o v).take (o + 1) = cur.toList.take o ++ [v]:=by
      rw [List.take_set,List.take_add_one,List.getElem?_eq_getElem (by simp; omega)]
      have hm : min o cur.size = o:=by omega
      rw [List.set_append]
      simp [hm]
    rw [e2]
    have e3 : (cur.toList.set o v).drop (o + 1 + r.length) = cur.toList.drop (o + (v :: r).length):=by
      rw [List.drop_set_of_lt (by omega)]
      simp
      congr 1
      omega
    rw [e3]
    simp
theorem other_over (b : Nat) : ∀ (vs : List Value) (o : Nat) (w : World) (k : Nat),k ≠ b → (w.setCells b o vs).heap[k]? = w.heap[k]?
  | [],o,w,k,h => rfl
  | v :: r,o,w,k,h => by
    rw [World.setCells,other_over b r (o + 1) _ k h]
    exact Below.heap_setCell w _ v k h
theorem size_over (b : Nat) : ∀ (vs : List Value) (o : Nat) (w : World),(w.setCells b o vs).heap.size = w.heap.size
  | [],o,w => rfl
  | v :: r,o,w => by rw [World.setCells,size_over b r]; simp [World.setCell]
theorem meta_over (b : Nat) : ∀ (vs : List Value) (o : Nat) (w : World),(w.setCells b o vs).os = w.os ∧ (w.setCells b o vs).tape = w.tape ∧ (w.setCells b o vs).output = w.output
  | [],o,w => ⟨rfl,rfl,rfl⟩
  | v :: r,o,w => by rw [World.setCells]; exact meta_over b r (o + 1) _
theorem run_copy_wide (w : World) (dT sT ty elem : TypeId) (i : TypeInfo) (b o dLen dCap : Nat) (a : Addr) (sLen sCap : Nat) (n size : Nat) (cs : List Value)
    (hu : P.underlying dT = some (.slice elem)) (hi : P.info? elem = some i) (hs : i.size = size) (hn : n = Nat.min sLen dLen) (hl : cs.length = n * size)
    (hsrc : ∀ j v,cs[j]? = some v → w.cell? (a.add j) = some v) (hc : ∀ j,j < cs.length → (w.cell? ⟨b,o + j,none⟩).isSome = true) (hf : ∀ j,j < cs.length → w.frozen? ⟨b,o + j,none⟩ = false) (h1 : ∀ v ∈ cs,v.oneCell' = true) :
    (Builtin.copy_ #[dT,sT] ty #[.slice (some ⟨b,o,none⟩) dLen dCap,.slice (some a) sLen sCap]).run P w = .ok (goInt n) (w.setCells b o cs):=by
  have hl2:=run_loadCells_list (P:=P) w a cs hsrc
  have hst:=run_storeCells_cells (P:=P) b o cs 0 w (by simpa using hc) (by simpa using hf) h1
  rw [hl] at hl2
  subst hs
  simp [Builtin.copy_,run_underlying hu,Builtin.lenOf,Builtin.firstCells,sizeOf,typeInfo,hi,← hn,hl2,hst]
end Go.Proofs.YtcjghhedphmhkaaGreatDoor
namespace Go.Proofs.YtcjghhedphmhkaaGreatDoor
open Go.RowKit
theorem shape_of_heap {w : World} {b : Nat} {cur : Array Value} {T : TypeId} {fz : Nat × Nat} (h : w.heap[b]? = some (.cells cur T fz)) : w.shape? b = some (T,cur.size):=by simp [World.shape?,h]
theorem info_node : ∃ i0,Tryz.prog.info? 106 = some i0 ∧ i0.zero = some (.agg #[.int .i64 0,.int .u64 0,.int .u64 0,.int .u64 0,.int .u64 0]) ∧ i0.size = 5 ∧ i0.bytes = 40:=by
  have hinfo : (Tryz.prog.info? 106).map (fun i => (i.zero,i.size,i.bytes)) = some (some (.agg #[.int .i64 0,.int .u64 0,.int .u64 0,.int .u64 0,.int .u64 0]),5,40):=by kernel_rfl
  obtain ⟨i0,hi,hz0,hz1,hz2⟩:=info_parts hinfo
  exact ⟨i0,hi,hz0,hz1,hz2⟩
theorem insert_room (b n c i vb : Nat) (cur : Array Value) (T : TypeId) (xo : Array Value) (ds xs : List Value) (w : World) (hi : i < n) (hroom : n + 1 ≤ c) (hc63 : c ≤ 9223372036854775807) (hvb : vb ≠ b)
    (hb : w.heap[b]? = some (.cells cur 106 (0,0))) (hcur : cur.size = c * 5) (hv : w.heap[vb]? = some (.cells xo T (0,0)))
    (hds : ds.length = (n - i) * 5) (hxs : xs.length = 1 * 5) (hd1 : ∀ u ∈ ds,u.oneCell' = true) (hx1 : ∀ u ∈ xs,u.oneCell' = true)
    (hdc : ∀ j u,ds[j]? = some u → w.cell? ⟨b,i * 5 + j,none⟩ = some u) (hxc : ∀ j u,xs[j]? = some u → w.cell? ⟨vb,j,none⟩ = some u) :
    Calls Tryz.prog 95 #[.slice (some ⟨b,0,none⟩) n c,.int .i64 i,.slice (some ⟨vb,0,none⟩) 1 1] w fun e w' => e = .returned (.slice (some ⟨b,0,none⟩) (n + 1) c) ∧ w' = (w.drew.setCells b ((i + 1) * 5) ds).setCells b (i * 5) xs:=by
  have hz2 : ¬ ((i : Int) = (n : Int)):=by omega
  have hw0 : IntKind.i64.wrap ((n : Int) + 1) = (n : Int) + 1:=by rw [IntKind.wrap_i64]; omega
  have hw1 : IntKind.i64.wrap ((i : Int) + 1) = (i : Int) + 1:=by rw [IntKind.wrap_i64]; omega
  have hb1 : (0 : Int) ≤ (i : Int) + 1:=by omega
  have hin : i ≤ n:=by omega
  have hin2 : (i : Int) ≤ (n : Int):=by omega
  have hn3 : ¬ ((c : Int) < (n : Int) + 1):=by omega
  have htn : ((i : Int) + 1).toNat = i + 1:=by omega
  have htn2 : ((n : Int) + 1).toNat = n + 1:=by omega
  have hb2 : ¬ (c = i + 1):=by omega
  have hb3 : (i : Int) ≤ (n : Int) + 1:=by omega
  have hb4 : ¬ (c = i):=by omega
  have hov : ∀ lb cb,(callFunc 119 #[.slice (some ⟨vb,0,none⟩) 1 1,.slice (some ⟨b,(i + 1) * 5,none⟩) lb cb]).run Tryz.prog w = .ok (.value (.bool false)) w:=fun lb cb => by
    rw [run_callFunc_extern Tryz.func119 (by kernel_rfl) (by kernel_rfl) (by kernel_rfl) (e:=Extern.SlicesOverlaps.overlaps #[60,60] #[4]) (by kernel_rfl),
      Lib.run_overlaps_apart w 60 4 106 Tryz.underlying60 5 (fun w => by exact Tryz.sizeOf106 w) ⟨vb,0,none⟩ ⟨b,(i + 1) * 5,none⟩ 1 1 lb cb hvb T 106 xo.size cur.size (shape_of_heap hv) (shape_of_heap hb) (by omega) (Lib.frozen_of_heap hv _) (Lib.frozen_of_heap hv _)]
    rfl
  obtain ⟨i0,hi0,hz0,hzs,hzb⟩:=info_node
  have hcell : ∀ j,j < c * 5 → (w.cell? ⟨b,j,none⟩).isSome = true:=fun j hj => by
    rw [Lib.cell_of_heap hb,Array.getElem?_eq_getElem (by omega)]; rfl
  have hcp1 : ∀ ty dc sc,(Builtin.copy_ #[60,60] ty #[.slice (some ⟨b,(i + 1) * 5,none⟩) (n - i) dc,.slice (some ⟨b,i * 5,none⟩) (n + 1 - i) sc]).run Tryz.prog w.drew = .ok (goInt ((n - i : Nat) : Int)) (w.drew.setCells b ((i + 1) * 5) ds):=fun ty dc sc =>
    run_copy_wide w.drew _ _ ty 106 i0 b ((i + 1) * 5) (n - i) dc ⟨b,i * 5,none⟩ (n + 1 - i) sc (n - i) 5 ds Tryz.underlying60 hi0 hzs (by simp only [Nat.min_def]; split <;> omega) hds
      (fun j u hj => by rw [Addr.add_lit]; exact hdc j u hj)
      (fun j hj => hcell _ (by omega)) (fun j hj => Lib.frozen_of_heap hb _) hd1
  obtain ⟨W1,hW1⟩ : ∃ W1,W1 = w.drew.setCells b ((i + 1) * 5) ds:=⟨_,rfl⟩
  have hbW : W1.heap[b]? = some (.cells (over cur ((i + 1) * 5) ds) 106 (0,0)):=by rw [hW1]; exact heap_over b _ _ ds _ cur w.drew hb
  have hcp2 : ∀ ty dc,(Builtin.copy_ #[60,60] ty #[.slice (some ⟨b,i * 5,none⟩) (n + 1 - i) dc,.slice (some ⟨vb,0,none⟩) 1 1]).run Tryz.prog W1 = .ok (goInt ((1 : Nat) : Int)) (W1.setCells b (i * 5) xs):=fun ty dc =>
    run_copy_wide W1 _ _ ty 106 i0 b (i * 5) (n + 1 - i) dc ⟨vb,0,none⟩ 1 1 1 5 xs Tryz.underlying60 hi0 hzs (by simp only [Nat.min_def]; split <;> omega) hxs
      (fun j u hj => by
        rw [Addr.add_lit,hW1,World.cell?_setCells_out b _ _ _ _ (fun h _ => absurd h hvb),Nat.zero_add]
        exact hxc j u hj)
      (fun j hj => by rw [Lib.cell_of_heap hbW,Array.getElem?_eq_getElem (by rw [over_size]; omega)]; rfl) (fun j hj => Lib.frozen_of_heap hbW _) hx1
  rw [← hW1] at hcp1 ⊢
  clear hW1
  go_enter Tryz.func95,Tryz.ntmps95
  have mixed : Tryz.prog.follows .mixedOrders = true:=by kernel_rfl
  go_wp2_with (simp only [hov])
  go_region_law_o (refine step_copy_runI rfl _ _ 60 60 rfl _ _ (by simp [Act.eval,Act.put]) (by simp [Act.eval,Act.put]) (hcp1 _ _ _) ?_)
  go_wp2_with (at_builtin; refine wpList_copy_runI _ rfl _ _ 60 60 rfl _ _ rfl rfl (hcp2 _ _) ?_)
  go_ret
  exact ⟨rfl,rfl⟩
theorem insert_grow (b n c i vb : Nat) (os ds xs : List Value) (w : World) (hi : i < n) (hnc : n ≤ c) (hroom : c < n + 1) (hbig : (n + 1) * 40 ≤ 140737488355328)
    (hos : os.length = i * 5) (hds : ds.length = (n - i) * 5) (hxs : xs.length = 1 * 5) (hd1 : ∀ u ∈ ds,u.oneCell' = true) (hx1 : ∀ u ∈ xs,u.oneCell' = true)
    (hoc : ∀ j u,os[j]? = some u → w.cell? ⟨b,j,none⟩ = some u) (hdc : ∀ j u,ds[j]? = some u → w.cell? ⟨b,i * 5 + j,none⟩ = some u) (hxc : ∀ j u,xs[j]? = some u → w.cell? ⟨vb,j,none⟩ = some u) :
    Calls Tryz.prog 95 #[.slice (some ⟨b,0,none⟩) n c,.int .i64 i,.slice (some ⟨vb,0,none⟩) 1 1] w fun e w' => ∃ (G : Nat) (ROW : Array Value),n + 1 ≤ G ∧ G ≤ maxLen ∧ ROW.size = G * 5 ∧ ROW.toList.take (i * 5) = os ∧
      e = .returned (.slice (some ⟨w.heap.size,0,none⟩) (n + 1) G) ∧ w' = (((w.alloc (.cells ROW 106)).drew.setCells w.heap.size (i * 5) xs).drew).setCells w.heap.size ((i + 1) * 5) ds:=by
  have hz2 : ¬ ((i : Int) = (n : Int)):=by omega
  have hw0 : IntKind.i64.wrap ((n : Int) + 1) = (n : Int) + 1:=by rw [IntKind.wrap_i64]; omega
  have hw1 : IntKind.i64.wrap ((i : Int) + 1) = (i : Int) + 1:=by rw [IntKind.wrap_i64]; omega
  have hw2 : IntKind.i64.wrap ((n : Int) + 1 - (i : Int)) = (n : Int) + 1 - (i : Int):=by rw [IntKind.wrap_i64]; omega
  have hb1 : (0 : Int) ≤ (i : Int) + 1:=by omega
  have hin : i ≤ n:=by omega
  have hin2 : (i : Int) ≤ (n : Int):=by omega
  have hn3 : ((c : Int) < (n : Int) + 1):=by omega
  have htn : ((i : Int) + 1).toNat = i + 1:=by omega
  have htn2 : ((n : Int) + 1).toNat = n + 1:=by omega
  have hb3 : (i : Int) ≤ (n : Int) + 1:=by omega
  have hci : ¬ (c = i):=by omega
  have mixed : Tryz.prog.follows .mixedOrders = true:=by kernel_rfl
  obtain ⟨i0,hi0,hz0,hzs,hzb⟩:=info_node
  have hbw : b < w.heap.size:=by
    cases ds with
    | nil => simp at hds; omega
    | cons u r => exact block_lt_of_cell (hdc 0 u rfl)
  have hvw : vb < w.heap.size:=by
    cases xs with
    | nil => simp at hxs
    | cons u r => exact block_lt_of_cell (hxc 0 u rfl)
  have hkk : (n : Int) + 1 - (i : Int) = ((n + 1 - i : Nat) : Int):=by omega
  have hik : i + (n + 1 - i) = n + 1:=by omega
  have hold : (Builtin.firstCells i0.size i (.slice (some ⟨b,0,none⟩) i c)).run Tryz.prog w.drew = .ok os.toArray w.drew:=by
    rw [hzs]
    exact run_firstCells_some w.drew 5 i ⟨b,0,none⟩ i c os hos (fun j u hj => by rw [Addr.add_lit,Nat.zero_add]; exact hoc j u hj)
  obtain ⟨G,hG⟩ : ∃ G,G = grownCap w (n + 1) c 106:=⟨_,rfl⟩
  have hGn : n + 1 ≤ G:=by rw [hG]; exact grownCap_ge w _ _ _
  have hGm : G ≤ maxLen:=by rw [hG]; exact grownCap_le_maxLen w _ _ _ (by unfold maxLen; omega)
  have hrz : ∀ ty,∃ ROW : Array Value,ROW.size = G * 5 ∧ ROW.toList.take (i * 5) = os ∧ (Builtin.append_ #[60,3] ty #[.slice (some ⟨b,0,none⟩) i c,.int .i64 ((n : Int) + 1 - (i : Int))]).run Tryz.prog w =
      .ok (.slice (some ⟨w.heap.size,0,none⟩) (n + 1) G) (w.drew.alloc (.cells ROW 106)):=fun ty => by
    have h:=Lib.run_append_grow_zeros w 60 3 ty 106 i0 _ .i64 .i64 Tryz.underlying60 Tryz.underlying3 hi0 hz0 (some ⟨b,0,none⟩) i c os hold (n + 1 - i) (by omega) (by omega) (by omega) (by omega) (by rw [hzb]; omega) (by rw [hzb,hik]; exact growslice_fits hroom hbig)
    rw [hik,← hG] at h
    rw [hkk]
    refine ⟨_,?_,?_,h⟩
    · simp [Builtin.zeroCells,Value.cells]
      omega
    · simp
      rw [← hos]
      simp
  obtain ⟨ROW,hRs,hRt,hrun⟩:=hrz 60
  clear hrz hold
  have hE : w.drew.alloc (.cells ROW 106) = (w.alloc (.cells ROW 106)).drew:=rfl
  rw [hE] at hrun
  clear hE
  obtain ⟨N,hN⟩ : ∃ N,N = w.heap.size:=⟨_,rfl⟩
  have hbN : b ≠ N:=by omega
  have hvN : vb ≠ N:=by omega
  obtain ⟨WA,hWA⟩ : ∃ WA,WA = (w.alloc (.cells ROW 106)).drew:=⟨_,rfl⟩
  have hA : WA.heap[N]? = some (.cells ROW 106 (0,0)):=by rw [hWA,hN]; exact heap_alloc_new w _
  have hOA : ∀ k j u,k < w.heap.size → w.cell? ⟨k,j,none⟩ = some u → WA.cell? ⟨k,j,none⟩ = some u:=fun k j u hk h => by
    rw [hWA]
    show (w.alloc _).cell? _ = _
    rw [World.cell?_alloc_past (w:=w) _ k j hk]; exact h
  have hcpA : ∀ ty dc,(Builtin.copy_ #[60,60] ty #[.slice (some ⟨N,i * 5,none⟩) (n + 1 - i) dc,.slice (some ⟨vb,0,none⟩) 1 1]).run Tryz.prog WA = .ok (goInt ((1 : Nat) : Int)) (WA.setCells N (i * 5) xs):=fun ty dc =>
    run_copy_wide WA _ _ ty 106 i0 N (i * 5) (n + 1 - i) dc ⟨vb,0,none⟩ 1 1 1 5 xs Tryz.underlying60 hi0 hzs (by simp only [Nat.min_def]; split <;> omega) hxs
      (fun j u hj => by rw [Addr.add_lit,Nat.zero_add]; exact hOA vb j u hvw (hxc j u hj))
      (fun j hj => by rw [Lib.cell_of_heap hA,Array.getElem?_eq_getElem (by omega)]; rfl) (fun j hj => Lib.frozen_of_heap hA _) hx1
  obtain ⟨WB,hWB⟩ : ∃ WB,WB = (WA.setCells N (i * 5) xs).drew:=⟨_,rfl⟩
  have hB : WB.heap[N]? = some (.cells (over ROW (i * 5) xs) 106 (0,0)):=by rw [hWB]; exact heap_over N _ _ xs _ ROW WA hA
  have hcpB : ∀ ty dc sc,(Builtin.copy_ #[60,60] ty #[.slice (some ⟨N,(i + 1) * 5,none⟩) (n - i) dc,.slice (some ⟨b,i * 5,none⟩) (n - i) sc]).run Tryz.prog WB = .ok (goInt ((n - i : Nat) : Int)) (WB.setCells N ((i + 1) * 5) ds):=fun ty dc sc =>
    run_copy_wide WB _ _ ty 106 i0 N ((i + 1) * 5) (n - i) dc ⟨b,i * 5,none⟩ (n - i) sc (n - i) 5 ds Tryz.underlying60 hi0 hzs (by simp only [Nat.min_def]; split <;> omega) hds
      (fun j u hj => by
        rw [Addr.add_lit,hWB]
        show (WA.setCells N (i * 5) xs).cell? _ = _
        rw [World.cell?_setCells_out N _ _ _ _ (fun h _ => absurd h hbN)]
        exact hOA b _ u hbw (hdc j u hj))
      (fun j hj => by rw [Lib.cell_of_heap hB,Array.getElem?_eq_getElem (by rw [over_size]; omega)]; rfl) (fun j hj => Lib.frozen_of_heap hB _) hd1
  rw [← hWA,← hN] at hrun
  have hGi : ¬ (G = i):=by omega
  have hGim : ¬ (G = i + 1):=by omega
  have hRES : Hid ((((w.alloc (.cells ROW 106)).drew.setCells w.heap.size (i * 5) xs).drew).setCells w.heap.size ((i + 1) * 5) ds = WB.setCells N ((i + 1) * 5) ds):=by show _ = _; rw [hWB,hWA,hN]
  have hN2 : Hid (N = w.heap.size):=hN
  have HH:=hid (And.intro hGn (And.intro hGm (And.intro hRs hRt)))
  clear hkk hik hG hGn hGm hRs hRt hA hB hOA hos hds hxs hd1 hx1 hoc hdc hxc hWA hN
  go_enter Tryz.func95,Tryz.ntmps95
  go_wp2_with (first
    | (at_builtin; refine Lib.wpList_append_run _ rfl _ _ _ _ rfl _ _ rfl rfl _ _ hrun ?_)
    | (at_builtin; refine wpList_copy_runI _ rfl _ _ 60 60 rfl _ _ rfl rfl (hcpA _ _) ?_))
  subst hWB
  go_region_law_o (refine step_copy_runI rfl _ _ 60 60 rfl _ _ (by simp [Act.eval,Act.put]) (by simp [Act.eval,Act.put]) (hcpB _ _ _) ?_)
  go_wp2
  go_ret
  refine ⟨G,ROW,HH.out.1,HH.out.2.1,HH.out.2.2.1,HH.out.2.2.2,?_,?_⟩
  · rw [← hN2.out]; rfl
  · rw [hRES.out]
theorem over_room (cur : Array Value) (os ds xs : List Value) (p m n : Nat) (h1 : cur.toList.take p = os) (hp : os.length = p) (hx : xs.length = m) (hn : p + m + ds.length = n) (hc : n ≤ cur.size) :
    (over (over cur (p + m) ds) p xs).toList.take n = os ++ xs ++ ds:=by
  have e1:=over_list ds (p + m) cur (by omega)
  have hs : (over cur (p + m) ds).size = cur.size:=over_size _ _ _
  have e2:=over_list xs p (over cur (p + m) ds) (by rw [hs]; omega)
  rw [e2,e1]
  have a1 : (cur.toList.take (p + m) ++ ds ++ cur.toList.drop (p + m + ds.length)).take p = os:=by
    rw [List.append_assoc,List.take_append_of_le_length (by simp; omega),List.take_take,Nat.min_eq_left (by omega),h1]
  have a2 : (cur.toList.take (p + m) ++ ds ++ cur.toList.drop (p + m + ds.length)).drop (p + xs.length) = ds ++ cur.toList.drop (p + m + ds.length):=by
    rw [List.append_assoc,hx,List.drop_append_of_le_length (by simp; omega),List.drop_eq_nil_of_le (by simp; omega)]
    rfl
  rw [a1,a2,← List.append_assoc,List.take_append_of_le_length (by simp; omega),List.take_of_length_le (by simp; omega)]
theorem over_grow (row : Array Value) (os ds xs : List Value) (p m n : Nat) (h1 : row.toList.take p = os) (hp : os.length = p) (hx : xs.length = m) (hn : p + m + ds.length = n) (hc : n ≤ row.size) :
    (over (over row p xs) (p + m) ds).toList.take n = os ++ xs ++ ds:=by
  have e1:=over_list xs p row (by omega)
  have hs : (over row p xs).size = row.size:=over_size _ _ _
  have e2:=over_list ds (p + m) (over row p xs) (by rw [hs]; omega)
  rw [e2,e1,h1]
  have a1 : (os ++ xs ++ row.toList.drop (p + xs.length)).take (p + m) = os ++ xs:=by
    rw [List.take_append_of_le_length (by simp; omega),List.take_of_length_le (by simp; omega)]
  rw [a1,List.take_append_of_le_length (by simp; omega),List.take_of_length_le (by simp; omega)]
theorem insert_any (B : Nat) (v : Value) (ns : List Nd) (i vb : Nat) (T : TypeId) (xo : Array Value) (x : Nd) (w : World) (hown : NsOwn w B v ns) (hi : i < ns.length) (hbig : (ns.length + 1) * 40 ≤ 140737488355328) (hBw : B ≤ w.heap.size)
    (hv : w.heap[vb]? = some (.cells xo T (0,0))) (hxc : ∀ j u,(nsCells [x])[j]? = some u → w.cell? ⟨vb,j,none⟩ = some u) (hvb : some vb ≠ v.ownBlock) :
    Calls Tryz.prog 95 #[v,.int .i64 i,.slice (some ⟨vb,0,none⟩) 1 1] w fun e w' => ∃ u,e = .returned u ∧ NsOwn w' B u (ns.take i ++ x :: ns.drop i) ∧ w.grownBy w' v.ownBlock:=by
  rcases hown.2 with ⟨_,h0⟩ | ⟨b,c,cur,rfl,hB,hb,hnc,hcm,hcur,htk⟩
  · omega
  · have hlen:=hown.1
    have e0 : nsCells ns = nsCells (ns.take i) ++ nsCells (ns.drop i):=by rw [← nsCells_append,List.take_append_drop]
    have hos : (nsCells (ns.take i)).length = i * 5:=by rw [nsCells_len,List.length_take,Nat.min_eq_left (by omega)]
    have hds : (nsCells (ns.drop i)).length = (ns.length - i) * 5:=by rw [nsCells_len,List.length_drop]
    have hxs : (nsCells [x]).length = 1 * 5:=nsCells_len [x]
    have hcm' : c ≤ 9223372036854775807:=by unfold maxLen at hcm; omega
    have hcell : ∀ j u,(nsCells ns)[j]? = some u → w.cell? ⟨b,j,none⟩ = some u:=by
      intro j u hj
      rw [Lib.cell_of_heap hb]
      rw [← htk,List.getElem?_take] at hj
      split at hj
      · simpa using hj
      · cases hj
    have hoc : ∀ j u,(nsCells (ns.take i))[j]? = some u → w.cell? ⟨b,j,none⟩ = some u:=by
      intro j u hj
      apply hcell
      have : j < (nsCells (ns.take i)).length:=by
        rcases Nat.lt_or_ge j (nsCells (ns.take i)).length with h | h
        · exact h
        · rw [List.getElem?_eq_none h] at hj; cases hj
      rw [e0,List.getElem?_append_left this]; exact hj
    have hdc : ∀ j u,(nsCells (ns.drop i))[j]? = some u → w.cell? ⟨b,i * 5 + j,none⟩ = some u:=by
      intro j u hj
      apply hcell
      rw [e0,List.getElem?_append_right (by omega),hos,Nat.add_sub_cancel_left]; exact hj
    have hbx : vb ≠ b:=by intro e; exact hvb (by rw [e]; rfl)
    have htk0 : cur.toList.take (i * 5) = nsCells (ns.take i):=by
      have h : cur.toList.take (i * 5) = (cur.toList.take (ns.length * 5)).take (i * 5):=by rw [List.take_take,Nat.min_eq_left (by omega)]
      rw [h,htk,e0,List.take_append_of_le_length (by omega),List.take_of_length_le (by omega)]
    have ecells : nsCells (ns.take i ++ x :: ns.drop i) = nsCells (ns.take i) ++ nsCells [x] ++ nsCells (ns.drop i):=by
      rw [nsCells_append,List.append_assoc,← nsCells_append [x]]; rfl
    have elen : (ns.take i ++ x :: ns.drop i).length = ns.length + 1:=by simp; omega
    have h15 : (i + 1) * 5 = i * 5 + 1 * 5:=by omega
    by_cases hroom : ns.length + 1 ≤ c
    · refine (insert_room b ns.length c i vb cur T xo (nsCells (ns.drop i)) (nsCells [x]) w hi hroom hcm' hbx hb hcur hv hds hxs (nsCells_one _) (nsCells_one _) hdc hxc).mono ?_
      rintro e w' ⟨rfl,rfl⟩
      refine ⟨_,rfl,⟨?_,Or.inr ⟨b,c,over (over cur ((i + 1) * 5) (nsCells (ns.drop i))) (i * 5) (nsCells [x]),?_,hB,?_,?_,hcm,?_,?_⟩⟩,?_⟩
      · rw [nsCells_len]
      · rw [elen]
      · exact heap_over b _ _ _ _ _ _ (heap_over b _ _ _ _ _ _ hb)
      · rw [elen]; exact hroom
      · rw [over_size,over_size]; exact hcur
      · rw [elen,ecells,h15]
        exact over_room cur _ _ _ (i * 5) (1 * 5) _ htk0 hos hxs (by rw [hds]; omega) (by omega)
      · have m1:=meta_over b (nsCells [x]) (i * 5) (w.drew.setCells b ((i + 1) * 5) (nsCells (ns.drop i)))
        have m2:=meta_over b (nsCells (ns.drop i)) ((i + 1) * 5) w.drew
        refine ⟨m1.1.trans m2.1,m1.2.1.trans m2.2.1,m1.2.2.trans m2.2.2,?_,?_⟩
        · rw [size_over,size_over]; exact Nat.le_refl _
        · intro k hk hne
          have hkb : k ≠ b:=by rintro rfl; exact hne rfl
          rw [other_over b _ _ _ k hkb,other_over b _ _ _ k hkb]
          rfl
    · refine (insert_grow b ns.length c i vb (nsCells (ns.take i)) (nsCells (ns.drop i)) (nsCells [x]) w hi hnc (by omega) hbig hos hds hxs (nsCells_one _) (nsCells_one _) hoc hdc hxc).mono ?_
      rintro e w' ⟨G,ROW,hG1,hG2,hR1,hR2,rfl,rfl⟩
      have hA : (w.alloc (.cells ROW 106)).drew.heap[w.heap.size]? = some (.cells ROW 106 (0,0)):=heap_alloc_new w _
      obtain ⟨W0,hW0⟩ : ∃ W0,W0 = (w.alloc (.cells ROW 106)).drew:=⟨_,rfl⟩
      rw [← hW0] at hA ⊢
      have hA2:=heap_over w.heap.size 106 (0,0) (nsCells [x]) (i * 5) ROW W0 hA
      have hA3 : (W0.setCells w.heap.size (i * 5) (nsCells [x])).drew.heap[w.heap.size]? = _:=hA2
      have hA4:=heap_over w.heap.size 106 (0,0) (nsCells (ns.drop i)) ((i + 1) * 5) _ _ hA3
      refine ⟨_,rfl,⟨?_,Or.inr ⟨w.heap.size,G,over (over ROW (i * 5) (nsCells [x])) ((i + 1) * 5) (nsCells (ns.drop i)),?_,hBw,?_,?_,hG2,?_,?_⟩⟩,?_⟩
      · rw [nsCells_len]
      · rw [elen]
      · exact hA4
      · rw [elen]; exact hG1
      · rw [over_size,over_size]; exact hR1
      · rw [elen,ecells,h15]
        exact over_grow ROW _ _ _ (i * 5) (1 * 5) _ hR2 hos hxs (by rw [hds]; omega) (by omega)
      · have m1:=meta_over w.heap.size (nsCells (ns.drop i)) ((i + 1) * 5) (W0.setCells w.heap.size (i * 5) (nsCells [x])).drew
        have m2:=meta_over w.heap.size (nsCells [x]) (i * 5) W0
        have s1:=size_over w.heap.size (nsCells (ns.drop i)) ((i + 1) * 5) (W0.setCells w.heap.size (i * 5) (nsCells [x])).drew
        have s2:=size_over w.heap.size (nsCells [x]) (i * 5) W0
        have m3 : W0.os = w.os ∧ W0.tape = w.tape ∧ W0.output = w.output ∧ W0.heap.size = w.heap.size + 1:=by subst hW0; exact ⟨rfl,rfl,rfl,by show (w.alloc _).heap.size = _; simp⟩
        have m4 : ∀ k,k < w.heap.size → W0.heap[k]? = w.heap[k]?:=fun k hk => by subst hW0; exact Below.heap_alloc w _ k hk
        refine ⟨(m1.1.trans m2.1).trans m3.1,(m1.2.1.trans m2.2.1).trans m3.2.1,(m1.2.2.trans m2.2.2).trans m3.2.2.1,?_,?_⟩
        · have s3 : (W0.setCells w.heap.size (i * 5) (nsCells [x])).drew.heap.size = (W0.setCells w.heap.size (i * 5) (nsCells [x])).heap.size:=rfl
          omega
        · intro k hk hne
          have hkb : k ≠ w.heap.size:=by omega
          have o1:=other_over w.heap.size (nsCells (ns.drop i)) ((i + 1) * 5) (W0.setCells w.heap.size (i * 5) (nsCells [x])).drew k hkb
          have o2:=other_over w.heap.size (nsCells [x]) (i * 5) W0 k hkb
          exact (o1.trans o2).trans (m4 k hk)
theorem step_append_ns {ops : Array Oper} {o : Oper} {a : Act} {K : Act → World → Prop} {Q : Exit → Act → World → Prop} {E : Prop} {w : World} (hgd : o.guard = none) (s x : Operand)
    (ho : o.op = .call { callee:=.builtin .append,args:=#[s,x],argTypes:=#[60,60] })
    (B : Nat) (v : Value) (hs : a.eval s = v) (ns : List Nd) (hown : NsOwn w B v ns) (g2 c2 : Nat) (n : Nd) (hx : a.eval x = .slice (some ⟨g2,0,none⟩) 1 c2)
    (hnews : ∀ j u,(nsCells [n])[j]? = some u → w.cell? ⟨g2,j,none⟩ = some u) (hbytes : (ns.length + 1) * 40 ≤ 140737488355328) (hbase : B ≤ w.heap.size)
    (h : ∀ g cap w',NsOwn w' B (.slice (some ⟨g,0,none⟩) (ns.length + 1) cap) (ns ++ [n]) → w.grownBy w' v.ownBlock → B ≤ g → g < w'.heap.size → K (a.put o.dst (.slice (some ⟨g,0,none⟩) (ns.length + 1) cap)) w') :
    if Region.wanted o (yielded ops a.tmps) = true then Oper.wp Tryz.prog o a w K Q else E:=by
  obtain ⟨i0,hi,hz0,hz1,hz2⟩:=info_node
  refine step_append_lies w hgd s x 60 ho B 106 i0 _ 5 40 Tryz.underlying60 hi hz0 hz1 hz2 rfl (by decide) v ns.length (nsCells ns) hs hown ⟨g2,0,none⟩ 1 c2 (nsCells [n]) hx (nsCells_len [n]) ?_ (nsCells_one [n]) (by omega) (by unfold maxLen; omega) hbytes hbase w.heap.size rfl ?_
  · intro j u hj
    rw [Addr.add_lit,Nat.zero_add]
    exact hnews j u hj
  · intro g cap w' h1 h2 h3 h4
    have e : NsOwn w' B (.slice (some ⟨g,0,none⟩) (ns.length + 1) cap) (ns ++ [n]):=by
      unfold NsOwn
      rw [nsCells_append,List.length_append]
      exact h1
    have hg : B ≤ g:=by
      rcases h3 with h3 | h3
      · rcases hown.2 with ⟨hv,_⟩ | ⟨g',cap',cur,hv,hb,_⟩
        · rw [hv] at h3; cases h3
        · rw [hv] at h3
          injection h3 with h3
          simp at h3
          omega
      · omega
    exact h g cap w' e h2 hg h4
theorem NsOwn.ne {w : World} {B : Nat} {v : Value} {ns : List Nd} (h : NsOwn w B v ns) (k : Nat) (hk : v.ownBlock = some k) : B ≤ k ∧ k < w.heap.size:=by
  rcases h.2 with ⟨hv,_⟩ | ⟨b,cap,cur,hv,hb,hh,_⟩
  · rw [hv] at hk; cases hk
  · rw [hv] at hk
    injection hk with hk
    simp only at hk
    subst hk
    refine ⟨hb,?_⟩
    rcases Nat.lt_or_ge b w.heap.size with hlt | hge
    · exact hlt
    · rw [Array.getElem?_eq_none hge] at hh; cases hh
theorem PA.grownN {w w' : World} {g B : Nat} {s : ByteArray} {a : Nat} {v u : Value} {l : List UInt8} {ns : List Nd} (h : PA w g s a v l) (hO : NsOwn w B u ns) (hB : g < B) (hg : w.grownBy w' u.ownBlock) : PA w' g s a v l:=by
  refine ⟨(hg.block g h.lt ?_).trans h.rd,h.at',h.le,h.small⟩
  intro e
  have:=(hO.ne g e.symm).1
  omega
theorem PA.setN {w : World} {g : Nat} {s : ByteArray} {a : Nat} {v : Value} {l : List UInt8} (h : PA w g s a v l) (u : Value) : PA (w.setCell ⟨g,2,none⟩ u) g s a u l:=⟨h.rd.setNodes u,h.at',h.le,h.small⟩
theorem below_grownN {w w' : World} {g B : Nat} {u : Value} {ns : List Nd} (hO : NsOwn w B u ns) (hB : g ≤ B) (hgs : g ≤ w.heap.size) (hg : w.grownBy w' u.ownBlock) : Below g w w' :=
  ⟨hg.os,hg.tape,hg.output,hg.size,fun k hk => hg.block k (by omega) (by
    intro e
    have:=(hO.ne k e.symm).1
    omega)⟩
theorem wrap_any (g : Nat) (s : ByteArray) (a : Nat) (v : Value) (l : List UInt8) (ns : List Nd) (i : Nat) (op : Int) (w : World) (h : PA w g s a v l) (hO : NsOwn w (g + 1) v ns) (hm : ns.length ≤ 1000) (hi : i < ns.length) :
    Calls Tryz.prog 69 #[.pointer (some ⟨g,0,none⟩),.int .i64 i,.int .i64 op] w fun e w' => e = .returned (.tuple #[]) ∧ (∃ u,PA w' g s a u l ∧ NsOwn w' (g + 1) u (ns.take i ++ ⟨op,z4⟩ :: ns.drop i)) ∧ Below g w w':=by
  obtain ⟨c0,c1,c2,c3,f1,f2,f3⟩:=h.rd.all
  have hg:=h.lt
  have HP:=hid h
  have HI : Hid (∃ o : Obj,o = .cells #[.int .i64 op,.int .u64 0,.int .u64 0,.int .u64 0,.int .u64 0] 106 ∧ PA (w.alloc o) g s a v l ∧ NsOwn (w.alloc o) (g + 1) v ns ∧ Calls Tryz.prog 95 #[v,.int .i64 i,.slice (some ⟨w.heap.size,0,none⟩) 1 1] (w.alloc o) fun e w' => ∃ u,e = .returned u ∧ NsOwn w' (g + 1) u (ns.take i ++ ⟨op,z4⟩ :: ns.drop i) ∧ (w.alloc o).grownBy w' v.ownBlock):=by
    refine ⟨_,rfl,h.below ((Below.refl _ _).alloc (Nat.le_refl _) _),hO.below ((Below.refl _ _).alloc (Nat.le_refl _) _),?_⟩
    refine insert_any (g + 1) v ns i w.heap.size 106 _ ⟨op,z4⟩ _ (hO.below ((Below.refl _ _).alloc (Nat.le_refl _) _)) hi (by omega) (by simp; omega) (heap_alloc_new w _) ?_ ?_
    · intro j u hj
      rw [World.cell?_alloc_at (w:=w) _ _ w.heap.size j rfl]
      simpa [nsCells,z4] using hj
    · intro e
      have:=(hO.ne _ e.symm).2
      omega
  clear h hO hi
  go_enter Tryz.func69,Tryz.ntmps69
  go_wp2_with fail
  obtain ⟨o,ho,hpo,hOo,hcall⟩:=HI.out
  have HPO:=hid hpo
  have HOO:=hid hOo
  have HC:=hid hcall
  clear hpo hOo hcall HI
  rw [← ho]
  refine Calls.mono HC.out ?_
  rintro e w1 ⟨u,rfl,hO1,hg1⟩
  obtain ⟨g3,cap3,hu,_,_,_⟩:=hO1.form (by simp; omega)
  obtain ⟨L,hL⟩ : ∃ L,L = (ns.take i ++ ⟨op,z4⟩ :: ns.drop i).length:=⟨_,rfl⟩
  rw [← hL] at hu
  clear hL
  subst hu
  have hp1:=HPO.out.grownN HOO.out (by omega) hg1
  have HB1:=hid (((Below.refl g w).alloc (by omega) o).trans (below_grownN HOO.out (by omega) (by simp; omega) hg1))
  have HP1:=hid hp1
  have HO1:=hid hO1
  clear c0 c1 c2 c3 f1 f2 f3
  obtain ⟨c0,c1,c2,c3,f1,f2,f3⟩:=hp1.rd.all
  clear hp1 hO1 hg1 HC ho
  go_wp2
  go_end0
  exact ⟨rfl,⟨_,HP1.out.setN _,HO1.out.keptG (grown_cell w1 g 2 _) (Nat.lt_succ_self g)⟩,HB1.out.setCell (Nat.le_refl _) _⟩
theorem put_any (g : Nat) (s : ByteArray) (a : Nat) (v : Value) (l : List UInt8) (ns : List Nd) (n : Nd) (w : World) (h : PA w g s a v l) (hO : NsOwn w (g + 1) v ns) (hm : ns.length ≤ 1000) :
    Calls Tryz.prog 92 #[.pointer (some ⟨g,0,none⟩),.int .i64 n.op,n.c.v] w fun e w' => e = .returned (.tuple #[]) ∧ (∃ u,PA w' g s a u l ∧ NsOwn w' (g + 1) u (ns ++ [n])) ∧ Below g w w':=by
  have hg:=h.lt
  obtain ⟨c0,c1,c2,c3,f1,f2,f3⟩:=h.rd.ca
  have n0 : ¬ g = w.heap.size:=by omega
  have n1 : ¬ w.heap.size = g:=by omega
  have n2 : ¬ w.heap.size + 1 = g:=by omega
  have n3 : ¬ g = w.heap.size + 1:=by omega
  have k2 : ∀ o o',((w.alloc o).alloc o').cell? ⟨g,2,none⟩ = some v:=fun o o' => ((h.rd.alloc o).alloc o').all.2.2.1
  have AO : Hid (∀ W : World,W = ((w.alloc (.cells n.c.cells 104)).alloc (.cells #[.int .i64 n.op,.int .u64 n.c.a,.int .u64 n.c.b,.int .u64 n.c.c,.int .u64 n.c.d] 106)).drew → NsOwn W (g + 1) v ns ∧ (∀ j u,(nsCells [n])[j]? = some u → W.cell? ⟨w.heap.size + 1,j,none⟩ = some u) ∧ g + 1 ≤ W.heap.size ∧ PA W g s a v l ∧ Below g w W):=by
    rintro _ rfl
    have hB2 : Below w.heap.size w ((w.alloc (.cells n.c.cells 104)).alloc (.cells #[.int .i64 n.op,.int .u64 n.c.a,.int .u64 n.c.b,.int .u64 n.c.c,.int .u64 n.c.d] 106)).drew:=(((Below.refl _ _).alloc (Nat.le_refl _) _).alloc (by simp) _).drew
    refine ⟨hO.below hB2,?_,?_,h.below hB2,hB2.mono (by omega)⟩
    · intro j u hj
      show ((w.alloc (.cells n.c.cells 104)).alloc _).cell? _ = _
      rw [World.cell?_alloc_at (w:=w.alloc (.cells n.c.cells 104)) _ _ (w.heap.size + 1) j (by simp)]
      simpa [nsCells] using hj
    · have:=hB2.size
      omega
  clear h hO
  go_enter Tryz.func92,Tryz.ntmps92
  go_wp2_with fail
  go_region_law (first | (refine step_append_ns (by rfl) _ _ (by rfl) (g + 1) v (by rfl) ns (AO.out _ rfl).1 (w.heap.size + 1) 1 n (by rfl) (AO.out _ rfl).2.1 (by omega) (AO.out _ rfl).2.2.1 ?_; intro g3 cap3 w3 ho3 hg3 hb3 hl3; have HO3:=hid ho3; have hp3:=(AO.out _ rfl).2.2.2.1.grownN (AO.out _ rfl).1 (by omega) hg3; have HB3:=hid ((AO.out _ rfl).2.2.2.2.trans (below_grownN (AO.out _ rfl).1 (by omega) (by have:=(AO.out _ rfl).2.2.1; omega) hg3)); have HP3:=hid hp3; obtain ⟨d0,d1,d2,d3,e1,e2,e3⟩:=hp3.rd.all; clear ho3 hg3 hb3 hl3 hp3))
  all_goals go_wp2
  all_goals go_end0
  all_goals exact ⟨rfl,⟨_,HP3.out.setN _,HO3.out.keptG (grown_cell _ _ _ _) (by omega)⟩,HB3.out.setCell (Nat.le_refl _) _⟩
def PAt (w : World) (g : Nat) (s : ByteArray) (l : List UInt8) (ns : List Nd) : Prop:=∃ a v,PA w g s a v l ∧ NsOwn w (g + 1) v ns
theorem PAt.lt {w : World} {g : Nat} {s : ByteArray} {l : List UInt8} {ns : List Nd} (h : PAt w g s l ns) : g < w.heap.size:=by
  obtain ⟨a,v,h,_⟩:=h
  exact h.lt
theorem PAt.below {w w' : World} {g : Nat} {s : ByteArray} {l : List UInt8} {ns : List Nd} (h : PAt w g s l ns) (hb : Below w.heap.size w w') : PAt w' g s l ns:=by
  obtain ⟨a,v,h,hO⟩:=h
  exact ⟨a,v,h.below hb,hO.below hb⟩
theorem conv_plain (c : UInt8) (w : World) : (convert 147 9 (.slice (some ⟨w.heap.size,0,none⟩) 1 1)).run Tryz.prog (w.alloc (.cells #[.int .u8 (c.toNat : Int)] 5)) = .ok (.string ⟨#[c]⟩) (w.alloc (.cells #[.int .u8 (c.toNat : Int)] 5)):=by
  have h:=run_convert_bytes_arg (P:=Tryz.prog) (w.alloc (.cells #[.int .u8 (c.toNat : Int)] 5)) 147 5 Tryz.underlying147 Tryz.underlying5 w.heap.size 0 1 1 [(c.toNat : Int)] rfl (by
    intro i hi
    have : i = 0:=by omega
    subst this
    simp) 9 Tryz.underlying9
  rw [h]
  congr 2
  simp [strOfNums]
def SgP (w : World) (g : Nat) (s : ByteArray) (ns : List Nd) (R : Except Nat (Nd × List UInt8)) (e : Ending) (w' : World) : Prop :=
  match R with
  | .ok (n,r) => e = .returned (.tuple #[]) ∧ PAt w' g s r (ns ++ [n]) ∧ Below g w w'
  | .error k => e = .panicked (mis ((s.size : Int) - (k : Int))) ∧ Stk w' g ∧ Below g w w'
theorem skipN (g : Nat) (s : ByteArray) (l : List UInt8) (ns : List Nd) (b : UInt8) (z : Int) (hz : z = (b.toNat : Int)) (w : World) (h : PAt w g s l ns) (hl : l.head? ≠ some b) :
    Calls Tryz.prog 68 #[.pointer (some ⟨g,0,none⟩),.int .u8 z] w fun e w' => e = .returned (.bool false) ∧ PAt w' g s l ns ∧ Below w.heap.size w w':=by
  obtain ⟨a,v,h1,hO⟩:=h
  exact (skip_no g s a v l b z hz w h1 hl).mono fun _ _ x => ⟨x.1,⟨a,v,h1.below x.2,hO.below x.2⟩,x.2⟩
theorem skipY (g : Nat) (s : ByteArray) (r : List UInt8) (ns : List Nd) (b : UInt8) (z : Int) (hz : z = (b.toNat : Int)) (w : World) (h : PAt w g s (b :: r) ns) :
    Calls Tryz.prog 68 #[.pointer (some ⟨g,0,none⟩),.int .u8 z] w fun e w' => e = .returned (.bool true) ∧ PAt w' g s r ns ∧ Below g w w':=by
  obtain ⟨a,v,h1,hO⟩:=h
  exact (skip_yes g s a v r b z hz w h1).mono fun _ _ x => ⟨x.1,⟨_,v,x.2.1,hO.keptG x.2.2 (Nat.lt_succ_self g)⟩,below_of_grown x.2.2 (Nat.le_refl _) (Nat.le_of_lt h1.lt)⟩
theorem putA (g : Nat) (s : ByteArray) (l : List UInt8) (ns : List Nd) (n : Nd) (w : World) (h : PAt w g s l ns) (hm : ns.length ≤ 1000) :
    Calls Tryz.prog 92 #[.pointer (some ⟨g,0,none⟩),.int .i64 n.op,n.c.v] w fun e w' => e = .returned (.tuple #[]) ∧ PAt w' g s l (ns ++ [n]) ∧ Below g w w':=by
  obtain ⟨a,v,h1,hO⟩:=h
  exact (put_any g s a v l ns n w h1 hO hm).mono fun _ _ x => ⟨x.1,by obtain ⟨u,hu,ho⟩:=x.2.1; exact ⟨a,u,hu,ho⟩,x.2.2⟩
theorem wrapA (g : Nat) (s : ByteArray) (l : List UInt8) (p q : List Nd) (op : Int) (w : World) (h : PAt w g s l (p ++ q)) (hm : (p ++ q).length ≤ 1000) (hq : 0 < q.length) :
    Calls Tryz.prog 69 #[.pointer (some ⟨g,0,none⟩),.int .i64 (p.length : Int),.int .i64 op] w fun e w' => e = .returned (.tuple #[]) ∧ PAt w' g s l (p ++ ⟨op,z4⟩ :: q) ∧ Below g w w':=by
  obtain ⟨a,v,h1,hO⟩:=h
  have e1 : (p ++ q).take p.length = p:=by simp
  have e2 : (p ++ q).drop p.length = q:=by simp
  have hc:=wrap_any g s a v l (p ++ q) p.length op w h1 hO hm (by simp; omega)
  rw [e1,e2] at hc
  exact hc.mono fun _ _ x => ⟨x.1,by obtain ⟨u,hu,ho⟩:=x.2.1; exact ⟨a,u,hu,ho⟩,x.2.2⟩
theorem itemsA (g : Nat) (s : ByteArray) (l : List UInt8) (ns : List Nd) (w : World) (h : PAt w g s l ns) (c : C4) (r : List UInt8) (hr : bracket l = .ok (c,r)) :
    Calls Tryz.prog 132 #[.pointer (some ⟨g,0,none⟩)] w fun e w' => e = .returned c.v ∧ PAt w' g s r ns ∧ Below g w w':=by
  obtain ⟨a,v,h1,hO⟩:=h
  have hc:=items_any g s a v l w h1
  rw [hr] at hc
  exact hc.mono fun _ _ x => ⟨x.1,by obtain ⟨a',ha⟩:=x.2.1; exact ⟨a',v,ha,hO.keptG x.2.2 (Nat.lt_succ_self g)⟩,below_of_grown x.2.2 (Nat.le_refl _) (Nat.le_of_lt h1.lt)⟩
theorem itemsB (g : Nat) (s : ByteArray) (l : List UInt8) (ns : List Nd) (w : World) (h : PAt w g s l ns) (k : Nat) (hr : bracket l = .error k) :
    Calls Tryz.prog 132 #[.pointer (some ⟨g,0,none⟩)] w fun e w' => e = .panicked (mis ((s.size : Int) - (k : Int))) ∧ Stk w' g ∧ Below g w w':=by
  obtain ⟨a,v,h1,hO⟩:=h
  have hc:=items_any g s a v l w h1
  rw [hr] at hc
  exact hc.mono fun _ _ x => ⟨x.1,x.2.1,below_of_grown x.2.2 (Nat.le_refl _) (Nat.le_of_lt h1.lt)⟩
theorem symbolA (g : Nat) (s : ByteArray) (l : List UInt8) (ns : List Nd) (w : World) (h : PAt w g s l ns) (b : Nat) (r : List UInt8) (hr : rd1 l = .ok (b,r)) :
    Calls Tryz.prog 134 #[.pointer (some ⟨g,0,none⟩)] w fun e w' => e = .returned (.int .u8 (b : Int)) ∧ PAt w' g s r ns ∧ Below g w w':=by
  obtain ⟨a,v,h1,hO⟩:=h
  exact (symbol_ok g s a v l b r hr w h1).mono fun _ _ x => ⟨x.1,by obtain ⟨a',ha⟩:=x.2.1; exact ⟨a',v,ha,hO.keptG x.2.2 (Nat.lt_succ_self g)⟩,below_of_grown x.2.2 (Nat.le_refl _) (Nat.le_of_lt h1.lt)⟩
theorem symbolB (g : Nat) (s : ByteArray) (l : List UInt8) (ns : List Nd) (w : World) (h : PAt w g s l ns) (k : Nat) (hr : rd1 l = .error k) :
    Calls Tryz.prog 134 #[.pointer (some ⟨g,0,none⟩)] w fun e w' => e = .panicked (mis ((s.size : Int) - (k : Int))) ∧ Stk w' g ∧ Below g w w':=by
  obtain ⟨a,v,h1,hO⟩:=h
  exact (symbol_bad g s a v l k hr w h1).mono fun _ _ x => ⟨x.1,x.2.1,below_of_grown x.2.2 (Nat.le_refl _) (Nat.le_of_lt h1.lt)⟩
theorem single_begin (g : Nat) (s : ByteArray) (r : List UInt8) (ns : List Nd)  (hm : ns.length ≤ 1000) (w : World) (h : PAt w g s (94 :: r) ns) :
    Calls Tryz.prog 117 #[.pointer (some ⟨g,0,none⟩)] w fun e w' => e = .returned (.tuple #[]) ∧ PAt w' g s r (ns ++ [⟨8,z4⟩]) ∧ Below g w w':=by
  have hlt:=h.lt
  have HP:=hid h
  have HB:=hid (Below.refl g w)
  clear h
  go_enter Tryz.func117,Tryz.ntmps117
  go_wp2_with fail
  refine Calls.mono (skipY g s r ns 94 _ rfl _ HP.out) ?_
  rintro e w1 ⟨rfl,hp,hb⟩
  replace HP:=hid hp
  replace HB:=hid (HB.out.trans hb)
  clear hp hb
  go_wp2_with fail
  refine Calls.mono (putA g s _ ns ⟨8,z4⟩ _ HP.out hm) ?_
  rintro e w9 ⟨rfl,hp,hb⟩
  replace HP:=hid hp
  replace HB:=hid (HB.out.trans hb)
  clear hp hb
  go_wp2
  go_end0
  exact ⟨rfl,HP.out,HB.out⟩
theorem single_end (g : Nat) (s : ByteArray) (r : List UInt8) (ns : List Nd)  (hm : ns.length ≤ 1000) (w : World) (h : PAt w g s (36 :: r) ns) :
    Calls Tryz.prog 117 #[.pointer (some ⟨g,0,none⟩)] w fun e w' => e = .returned (.tuple #[]) ∧ PAt w' g s r (ns ++ [⟨9,z4⟩]) ∧ Below g w w':=by
  have hlt:=h.lt
  have HP:=hid h
  have HB:=hid (Below.refl g w)
  clear h
  go_enter Tryz.func117,Tryz.ntmps117
  go_wp2_with fail
  refine Calls.mono (skipN g s _ ns 94 _ rfl _ HP.out (by simp)) ?_
  rintro e w1 ⟨rfl,hp,hb⟩
  replace HP:=hid hp
  replace HB:=hid (HB.out.trans (hb.mono (Nat.le_trans (Nat.le_of_lt hlt) HB.out.size)))
  clear hp hb
  go_wp2_with fail
  refine Calls.mono (skipY g s r ns 36 _ rfl _ HP.out) ?_
  rintro e w2 ⟨rfl,hp,hb⟩
  replace HP:=hid hp
  replace HB:=hid (HB.out.trans hb)
  clear hp hb
  go_wp2_with fail
  refine Calls.mono (putA g s _ ns ⟨9,z4⟩ _ HP.out hm) ?_
  rintro e w9 ⟨rfl,hp,hb⟩
  replace HP:=hid hp
  replace HB:=hid (HB.out.trans hb)
  clear hp hb
  go_wp2
  go_end0
  exact ⟨rfl,HP.out,HB.out⟩
theorem single_dot (g : Nat) (s : ByteArray) (r : List UInt8) (ns : List Nd)  (hm : ns.length ≤ 1000) (w : World) (h : PAt w g s (46 :: r) ns) :
    Calls Tryz.prog 117 #[.pointer (some ⟨g,0,none⟩)] w fun e w' => e = .returned (.tuple #[]) ∧ PAt w' g s r (ns ++ [⟨1,dotC⟩]) ∧ Below g w w':=by
  have hlt:=h.lt
  have HP:=hid h
  have HB:=hid (Below.refl g w)
  clear h
  go_enter Tryz.func117,Tryz.ntmps117
  go_wp2_with fail
  refine Calls.mono (skipN g s _ ns 94 _ rfl _ HP.out (by simp)) ?_
  rintro e w1 ⟨rfl,hp,hb⟩
  replace HP:=hid hp
  replace HB:=hid (HB.out.trans (hb.mono (Nat.le_trans (Nat.le_of_lt hlt) HB.out.size)))
  clear hp hb
  go_wp2_with fail
  refine Calls.mono (skipN g s _ ns 36 _ rfl _ HP.out (by simp)) ?_
  rintro e w2 ⟨rfl,hp,hb⟩
  replace HP:=hid hp
  replace HB:=hid (HB.out.trans (hb.mono (Nat.le_trans (Nat.le_of_lt hlt) HB.out.size)))
  clear hp hb
  go_wp2_with fail
  refine Calls.mono (skipY g s r ns 46 _ rfl _ HP.out) ?_
  rintro e w3 ⟨rfl,hp,hb⟩
  replace HP:=hid hp
  replace HB:=hid (HB.out.trans hb)
  clear hp hb
  go_wp2_with fail
  refine Calls.mono (of_any ⟨#[10]⟩ _ (by show 1 ≤ _; decide)) ?_
  rintro e w4 ⟨rfl,hb⟩
  replace HP:=hid (HP.out.below hb)
  replace HB:=hid (HB.out.trans (hb.mono (Nat.le_trans (Nat.le_of_lt hlt) HB.out.size)))
  clear hb
  go_wp2_with fail
  refine Calls.mono (not_any (C4.ofL [10]) _) ?_
  rintro e w5 ⟨rfl,hb⟩
  replace HP:=hid (HP.out.below hb)
  replace HB:=hid (HB.out.trans (hb.mono (Nat.le_trans (Nat.le_of_lt hlt) HB.out.size)))
  clear hb
  go_wp2_with fail
  refine Calls.mono (putA g s _ ns ⟨1,dotC⟩ _ HP.out hm) ?_
  rintro e w9 ⟨rfl,hp,hb⟩
  replace HP:=hid hp
  replace HB:=hid (HB.out.trans hb)
  clear hp hb
  go_wp2
  go_end0
  exact ⟨rfl,HP.out,HB.out⟩
theorem single_list (g : Nat) (s : ByteArray) (r : List UInt8) (ns : List Nd) (c : C4) (r2 : List UInt8) (hr : bracket r = .ok (c,r2)) (hm : ns.length ≤ 1000) (w : World) (h : PAt w g s (91 :: r) ns) :
    Calls Tryz.prog 117 #[.pointer (some ⟨g,0,none⟩)] w fun e w' => e = .returned (.tuple #[]) ∧ PAt w' g s r2 (ns ++ [⟨1,c⟩]) ∧ Below g w w':=by
  have hlt:=h.lt
  have HP:=hid h
  have HB:=hid (Below.refl g w)
  clear h
  go_enter Tryz.func117,Tryz.ntmps117
  go_wp2_with fail
  refine Calls.mono (skipN g s _ ns 94 _ rfl _ HP.out (by simp)) ?_
  rintro e w1 ⟨rfl,hp,hb⟩
  replace HP:=hid hp
  replace HB:=hid (HB.out.trans (hb.mono (Nat.le_trans (Nat.le_of_lt hlt) HB.out.size)))
  clear hp hb
  go_wp2_with fail
  refine Calls.mono (skipN g s _ ns 36 _ rfl _ HP.out (by simp)) ?_
  rintro e w2 ⟨rfl,hp,hb⟩
  replace HP:=hid hp
  replace HB:=hid (HB.out.trans (hb.mono (Nat.le_trans (Nat.le_of_lt hlt) HB.out.size)))
  clear hp hb
  go_wp2_with fail
  refine Calls.mono (skipN g s _ ns 46 _ rfl _ HP.out (by simp)) ?_
  rintro e w3 ⟨rfl,hp,hb⟩
  replace HP:=hid hp
  replace HB:=hid (HB.out.trans (hb.mono (Nat.le_trans (Nat.le_of_lt hlt) HB.out.size)))
  clear hp hb
  go_wp2_with fail
  refine Calls.mono (skipY g s r ns 91 _ rfl _ HP.out) ?_
  rintro e w4 ⟨rfl,hp,hb⟩
  replace HP:=hid hp
  replace HB:=hid (HB.out.trans hb)
  clear hp hb
  go_wp2_with fail
  refine Calls.mono (itemsA g s r ns _ HP.out c r2 hr) ?_
  rintro e w5 ⟨rfl,hp,hb⟩
  replace HP:=hid hp
  replace HB:=hid (HB.out.trans hb)
  clear hp hb
  go_wp2_with fail
  refine Calls.mono (putA g s _ ns ⟨1,c⟩ _ HP.out hm) ?_
  rintro e w9 ⟨rfl,hp,hb⟩
  replace HP:=hid hp
  replace HB:=hid (HB.out.trans hb)
  clear hp hb
  go_wp2
  go_end0
  exact ⟨rfl,HP.out,HB.out⟩
theorem single_classBad (g : Nat) (s : ByteArray) (r : List UInt8) (ns : List Nd) (k : Nat) (hr : bracket r = .error k) (hm : ns.length ≤ 1000) (w : World) (h : PAt w g s (91 :: r) ns) :
    Calls Tryz.prog 117 #[.pointer (some ⟨g,0,none⟩)] w fun e w' => e = .panicked (mis ((s.size : Int) - (k : Int))) ∧ Stk w' g ∧ Below g w w':=by
  have hlt:=h.lt
  have HP:=hid h
  have HB:=hid (Below.refl g w)
  clear h
  go_enter Tryz.func117,Tryz.ntmps117
  go_wp2_with fail
  refine Calls.mono (skipN g s _ ns 94 _ rfl _ HP.out (by simp)) ?_
  rintro e w1 ⟨rfl,hp,hb⟩
  replace HP:=hid hp
  replace HB:=hid (HB.out.trans (hb.mono (Nat.le_trans (Nat.le_of_lt hlt) HB.out.size)))
  clear hp hb
  go_wp2_with fail
  refine Calls.mono (skipN g s _ ns 36 _ rfl _ HP.out (by simp)) ?_
  rintro e w2 ⟨rfl,hp,hb⟩
  replace HP:=hid hp
  replace HB:=hid (HB.out.trans (hb.mono (Nat.le_trans (Nat.le_of_lt hlt) HB.out.size)))
  clear hp hb
  go_wp2_with fail
  refine Calls.mono (skipN g s _ ns 46 _ rfl _ HP.out (by simp)) ?_
  rintro e w3 ⟨rfl,hp,hb⟩
  replace HP:=hid hp
  replace HB:=hid (HB.out.trans (hb.mono (Nat.le_trans (Nat.le_of_lt hlt) HB.out.size)))
  clear hp hb
  go_wp2_with fail
  refine Calls.mono (skipY g s r ns 91 _ rfl _ HP.out) ?_
  rintro e w4 ⟨rfl,hp,hb⟩
  replace HP:=hid hp
  replace HB:=hid (HB.out.trans hb)
  clear hp hb
  go_wp2_with fail
  refine Calls.mono (itemsB g s r ns _ HP.out k hr) ?_
  rintro e w5 ⟨rfl,hs,hb⟩
  exact ⟨rfl,rfl,hs,HB.out.trans hb⟩
theorem single_byteBad (g : Nat) (s : ByteArray) (l : List UInt8) (ns : List Nd) (hn94 : l.head? ≠ some 94) (hn36 : l.head? ≠ some 36) (hn46 : l.head? ≠ some 46) (hn91 : l.head? ≠ some 91) (hn40 : l.head? ≠ some 40) (k : Nat) (hr : rd1 l = .error k) (hm : ns.length ≤ 1000) (w : World) (h : PAt w g s l ns) :
    Calls Tryz.prog 117 #[.pointer (some ⟨g,0,none⟩)] w fun e w' => e = .panicked (mis ((s.size : Int) - (k : Int))) ∧ Stk w' g ∧ Below g w w':=by
  have hlt:=h.lt
  have HP:=hid h
  have HB:=hid (Below.refl g w)
  clear h
  go_enter Tryz.func117,Tryz.ntmps117
  go_wp2_with fail
  refine Calls.mono (skipN g s _ ns 94 _ rfl _ HP.out hn94) ?_
  rintro e w1 ⟨rfl,hp,hb⟩
  replace HP:=hid hp
  replace HB:=hid (HB.out.trans (hb.mono (Nat.le_trans (Nat.le_of_lt hlt) HB.out.size)))
  clear hp hb
  go_wp2_with fail
  refine Calls.mono (skipN g s _ ns 36 _ rfl _ HP.out hn36) ?_
  rintro e w2 ⟨rfl,hp,hb⟩
  replace HP:=hid hp
  replace HB:=hid (HB.out.trans (hb.mono (Nat.le_trans (Nat.le_of_lt hlt) HB.out.size)))
  clear hp hb
  go_wp2_with fail
  refine Calls.mono (skipN g s _ ns 46 _ rfl _ HP.out hn46) ?_
  rintro e w3 ⟨rfl,hp,hb⟩
  replace HP:=hid hp
  replace HB:=hid (HB.out.trans (hb.mono (Nat.le_trans (Nat.le_of_lt hlt) HB.out.size)))
  clear hp hb
  go_wp2_with fail
  refine Calls.mono (skipN g s _ ns 91 _ rfl _ HP.out hn91) ?_
  rintro e w4 ⟨rfl,hp,hb⟩
  replace HP:=hid hp
  replace HB:=hid (HB.out.trans (hb.mono (Nat.le_trans (Nat.le_of_lt hlt) HB.out.size)))
  clear hp hb
  go_wp2_with fail
  refine Calls.mono (skipN g s _ ns 40 _ rfl _ HP.out hn40) ?_
  rintro e w5 ⟨rfl,hp,hb⟩
  replace HP:=hid hp
  replace HB:=hid (HB.out.trans (hb.mono (Nat.le_trans (Nat.le_of_lt hlt) HB.out.size)))
  clear hp hb
  go_wp2_with fail
  refine Calls.mono (symbolB g s l ns _ HP.out k hr) ?_
  rintro e w6 ⟨rfl,hs,hb⟩
  exact ⟨rfl,rfl,hs,HB.out.trans hb⟩
theorem single_byte (g : Nat) (s : ByteArray) (l : List UInt8) (ns : List Nd) (hn94 : l.head? ≠ some 94) (hn36 : l.head? ≠ some 36) (hn46 : l.head? ≠ some 46) (hn91 : l.head? ≠ some 91) (hn40 : l.head? ≠ some 40) (b : Nat) (r : List UInt8) (hr : rd1 l = .ok (b,r)) (hm : ns.length ≤ 1000) (w : World) (h : PAt w g s l ns) :
    Calls Tryz.prog 117 #[.pointer (some ⟨g,0,none⟩)] w fun e w' => e = .returned (.tuple #[]) ∧ PAt w' g s r (ns ++ [⟨1,z4.add ((b : Nat) : Int)⟩]) ∧ Below g w w':=by
  have hlt:=h.lt
  have HP:=hid h
  have HB:=hid (Below.refl g w)
  clear h
  go_enter Tryz.func117,Tryz.ntmps117
  go_wp2_with fail
  refine Calls.mono (skipN g s _ ns 94 _ rfl _ HP.out hn94) ?_
  rintro e w1 ⟨rfl,hp,hb⟩
  replace HP:=hid hp
  replace HB:=hid (HB.out.trans (hb.mono (Nat.le_trans (Nat.le_of_lt hlt) HB.out.size)))
  clear hp hb
  go_wp2_with fail
  refine Calls.mono (skipN g s _ ns 36 _ rfl _ HP.out hn36) ?_
  rintro e w2 ⟨rfl,hp,hb⟩
  replace HP:=hid hp
  replace HB:=hid (HB.out.trans (hb.mono (Nat.le_trans (Nat.le_of_lt hlt) HB.out.size)))
  clear hp hb
  go_wp2_with fail
  refine Calls.mono (skipN g s _ ns 46 _ rfl _ HP.out hn46) ?_
  rintro e w3 ⟨rfl,hp,hb⟩
  replace HP:=hid hp
  replace HB:=hid (HB.out.trans (hb.mono (Nat.le_trans (Nat.le_of_lt hlt) HB.out.size)))
  clear hp hb
  go_wp2_with fail
  refine Calls.mono (skipN g s _ ns 91 _ rfl _ HP.out hn91) ?_
  rintro e w4 ⟨rfl,hp,hb⟩
  replace HP:=hid hp
  replace HB:=hid (HB.out.trans (hb.mono (Nat.le_trans (Nat.le_of_lt hlt) HB.out.size)))
  clear hp hb
  go_wp2_with fail
  refine Calls.mono (skipN g s _ ns 40 _ rfl _ HP.out hn40) ?_
  rintro e w5 ⟨rfl,hp,hb⟩
  replace HP:=hid hp
  replace HB:=hid (HB.out.trans (hb.mono (Nat.le_trans (Nat.le_of_lt hlt) HB.out.size)))
  clear hp hb
  go_wp2_with fail
  have HL : Hid (b < 256):=(rd1_len l b r hr).2
  refine Calls.mono (symbolA g s l ns _ HP.out b r hr) ?_
  rintro e w6 ⟨rfl,hp,hb⟩
  replace HP:=hid hp
  replace HB:=hid (HB.out.trans hb)
  clear hp hb
  obtain ⟨c,hc⟩ : ∃ c : UInt8,c.toNat = b:=⟨b.toUInt8,by have:=HL.out; simp; omega⟩
  subst hc
  have hcv:=conv_plain c w6
  go_wp2_with fail
  refine Calls.mono (of_any ⟨#[c]⟩ _ (by show 1 ≤ _; decide)) ?_
  rintro e w7 ⟨rfl,hb⟩
  have hb7:=(new_block w6 (.cells #[.int .u8 (c.toNat : Int)] 5)).trans (hb.mono (by simp))
  replace HP:=hid (HP.out.below hb7)
  replace HB:=hid (HB.out.trans (hb7.mono (Nat.le_trans (Nat.le_of_lt hlt) HB.out.size)))
  clear hb hb7 hcv
  go_wp2_with fail
  refine Calls.mono (putA g s _ ns ⟨1,C4.ofL [c]⟩ _ HP.out hm) ?_
  rintro e w9 ⟨rfl,hp,hb⟩
  replace HP:=hid hp
  replace HB:=hid (HB.out.trans hb)
  clear hp hb
  go_wp2
  go_end0
  exact ⟨rfl,HP.out,HB.out⟩
theorem single_any (g : Nat) (s : ByteArray) (l : List UInt8) (ns : List Nd) (hm : ns.length ≤ 1000) (h40 : l.head? ≠ some 40) (w : World) (h : PAt w g s l ns) :
    Calls Tryz.prog 117 #[.pointer (some ⟨g,0,none⟩)] w (SgP w g s ns (base l)):=by
  unfold base
  by_cases h91 : l.head? = some 91
  · rw [if_pos h91]
    rw [(tail_len l _ h91).1] at h
    cases hb : bracket l.tail with
    | error k => exact single_classBad g s l.tail ns k hb hm w h
    | ok p => obtain ⟨c,r⟩:=p; exact single_list g s l.tail ns c r hb hm w h
  · rw [if_neg h91]
    by_cases h46 : l.head? = some 46
    · rw [if_pos h46]
      rw [(tail_len l _ h46).1] at h
      exact single_dot g s l.tail ns hm w h
    · rw [if_neg h46]
      by_cases h94 : l.head? = some 94
      · rw [if_pos h94]
        rw [(tail_len l _ h94).1] at h
        exact single_begin g s l.tail ns hm w h
      · rw [if_neg h94]
        by_cases h36 : l.head? = some 36
        · rw [if_pos h36]
          rw [(tail_len l _ h36).1] at h
          exact single_end g s l.tail ns hm w h
        · rw [if_neg h36]
          cases hb : rd1 l with
          | error k => exact single_byteBad g s l ns h94 h36 h46 h91 h40 k hb hm w h
          | ok p => obtain ⟨b,r⟩:=p; exact single_byte g s l ns h94 h36 h46 h91 h40 b r hb hm w h
def markR (l : List UInt8) : Int × List UInt8 :=
  if l.head? = some 42 then (5,l.tail) else if l.head? = some 43 then (6,l.tail) else if l.head? = some 63 then (7,l.tail) else (0,l)
theorem markR_posts (t : Rx) (l : List UInt8) : posts t l = if (markR l).1 = 0 then (t,l) else posts (.one ⟨(markR l).1,z4⟩ t) (markR l).2:=by
  cases l with
  | nil => simp [posts,markR]
  | cons c r =>
    rw [posts]
    by_cases h1 : c = 42
    · subst h1; simp [markR]
    · by_cases h2 : c = 43
      · subst h2; simp [markR]
      · by_cases h3 : c = 63
        · subst h3; simp [markR]
        · simp [markR,h1,h2,h3]
theorem markR_len (l : List UInt8) : if (markR l).1 = 0 then (markR l).2 = l else (markR l).2.length + 1 = l.length:=by
  unfold markR
  split
  · rename_i h; have:=(tail_len l _ h).2; simp; omega
  · split
    · rename_i h; have:=(tail_len l _ h).2; simp; omega
    · split
      · rename_i h; have:=(tail_len l _ h).2; simp; omega
      · simp
theorem mark_none (g : Nat) (s : ByteArray) (l : List UInt8) (ns : List Nd) (h1 : l.head? ≠ some 42) (h2 : l.head? ≠ some 43) (h3 : l.head? ≠ some 63) (w : World) (h : PAt w g s l ns) :
    Calls Tryz.prog 118 #[.pointer (some ⟨g,0,none⟩)] w fun e w' => e = .returned (.int .i64 0) ∧ PAt w' g s l ns ∧ Below g w w':=by
  have hlt:=h.lt
  have HP:=hid h
  have HB:=hid (Below.refl g w)
  clear h
  go_enter Tryz.func118,Tryz.ntmps118
  go_wp2_with fail
  refine Calls.mono (skipN g s _ ns 42 _ rfl _ HP.out h1) ?_
  rintro e w1 ⟨rfl,hp,hb⟩
  replace HP:=hid hp
  replace HB:=hid (HB.out.trans (hb.mono (Nat.le_trans (Nat.le_of_lt hlt) HB.out.size)))
  clear hp hb
  go_wp2_with fail
  refine Calls.mono (skipN g s _ ns 43 _ rfl _ HP.out h2) ?_
  rintro e w2 ⟨rfl,hp,hb⟩
  replace HP:=hid hp
  replace HB:=hid (HB.out.trans (hb.mono (Nat.le_trans (Nat.le_of_lt hlt) HB.out.size)))
  clear hp hb
  go_wp2_with fail
  refine Calls.mono (skipN g s _ ns 63 _ rfl _ HP.out h3) ?_
  rintro e w3 ⟨rfl,hp,hb⟩
  replace HP:=hid hp
  replace HB:=hid (HB.out.trans (hb.mono (Nat.le_trans (Nat.le_of_lt hlt) HB.out.size)))
  clear hp hb
  go_wp2
  go_ret
  exact ⟨rfl,HP.out,HB.out⟩
theorem mark_star (g : Nat) (s : ByteArray) (r : List UInt8) (ns : List Nd) (w : World) (h : PAt w g s (42 :: r) ns) :
    Calls Tryz.prog 118 #[.pointer (some ⟨g,0,none⟩)] w fun e w' => e = .returned (.int .i64 5) ∧ PAt w' g s r ns ∧ Below g w w':=by
  have HP:=hid h
  clear h
  go_enter Tryz.func118,Tryz.ntmps118
  go_wp2_with fail
  refine Calls.mono (skipY g s r ns 42 _ rfl _ HP.out) ?_
  rintro e w1 ⟨rfl,hp,hb⟩
  go_wp2
  go_ret
  exact ⟨rfl,hp,hb⟩
theorem mark_plus (g : Nat) (s : ByteArray) (r : List UInt8) (ns : List Nd) (w : World) (h : PAt w g s (43 :: r) ns) :
    Calls Tryz.prog 118 #[.pointer (some ⟨g,0,none⟩)] w fun e w' => e = .returned (.int .i64 6) ∧ PAt w' g s r ns ∧ Below g w w':=by
  have hlt:=h.lt
  have HP:=hid h
  have HB:=hid (Below.refl g w)
  clear h
  go_enter Tryz.func118,Tryz.ntmps118
  go_wp2_with fail
  refine Calls.mono (skipN g s _ ns 42 _ rfl _ HP.out (by simp)) ?_
  rintro e w1 ⟨rfl,hp,hb⟩
  replace HP:=hid hp
  replace HB:=hid (HB.out.trans (hb.mono (Nat.le_trans (Nat.le_of_lt hlt) HB.out.size)))
  clear hp hb
  go_wp2_with fail
  refine Calls.mono (skipY g s r ns 43 _ rfl _ HP.out) ?_
  rintro e w2 ⟨rfl,hp,hb⟩
  go_wp2
  go_ret
  exact ⟨rfl,hp,HB.out.trans hb⟩
theorem mark_opt (g : Nat) (s : ByteArray) (r : List UInt8) (ns : List Nd) (w : World) (h : PAt w g s (63 :: r) ns) :
    Calls Tryz.prog 118 #[.pointer (some ⟨g,0,none⟩)] w fun e w' => e = .returned (.int .i64 7) ∧ PAt w' g s r ns ∧ Below g w w':=by
  have hlt:=h.lt
  have HP:=hid h
  have HB:=hid (Below.refl g w)
  clear h
  go_enter Tryz.func118,Tryz.ntmps118
  go_wp2_with fail
  refine Calls.mono (skipN g s _ ns 42 _ rfl _ HP.out (by simp)) ?_
  rintro e w1 ⟨rfl,hp,hb⟩
  replace HP:=hid hp
  replace HB:=hid (HB.out.trans (hb.mono (Nat.le_trans (Nat.le_of_lt hlt) HB.out.size)))
  clear hp hb
  go_wp2_with fail
  refine Calls.mono (skipN g s _ ns 43 _ rfl _ HP.out (by simp)) ?_
  rintro e w2 ⟨rfl,hp,hb⟩
  replace HP:=hid hp
  replace HB:=hid (HB.out.trans (hb.mono (Nat.le_trans (Nat.le_of_lt hlt) HB.out.size)))
  clear hp hb
  go_wp2_with fail
  refine Calls.mono (skipY g s r ns 63 _ rfl _ HP.out) ?_
  rintro e w3 ⟨rfl,hp,hb⟩
  go_wp2
  go_ret
  exact ⟨rfl,hp,HB.out.trans hb⟩
theorem mark_any (g : Nat) (s : ByteArray) (l : List UInt8) (ns : List Nd) (w : World) (h : PAt w g s l ns) :
    Calls Tryz.prog 118 #[.pointer (some ⟨g,0,none⟩)] w fun e w' => e = .returned (.int .i64 (markR l).1) ∧ PAt w' g s (markR l).2 ns ∧ Below g w w':=by
  unfold markR
  by_cases h1 : l.head? = some 42
  · rw [if_pos h1]
    rw [(tail_len l _ h1).1] at h
    exact mark_star g s l.tail ns w h
  · rw [if_neg h1]
    by_cases h2 : l.head? = some 43
    · rw [if_pos h2]
      rw [(tail_len l _ h2).1] at h
      exact mark_plus g s l.tail ns w h
    · rw [if_neg h2]
      by_cases h3 : l.head? = some 63
      · rw [if_pos h3]
        rw [(tail_len l _ h3).1] at h
        exact mark_opt g s l.tail ns w h
      · rw [if_neg h3]
        exact mark_none g s l ns h1 h2 h3 w h
theorem chainEnds_any (g : Nat) (s : ByteArray) (l : List UInt8) (ns : List Nd) (w : World) (h : PAt w g s l ns) :
    Calls Tryz.prog 91 #[.pointer (some ⟨g,0,none⟩)] w fun e w' => e = .returned (.bool (stp l)) ∧ Below w.heap.size w w':=by
  obtain ⟨a,v,h,_⟩:=h
  have HP:=hid h
  clear h
  cases l with
  | nil =>
    go_enter Tryz.func91,Tryz.ntmps91
    go_wp2_with fail
    refine Calls.mono (more_nil g s a v _ HP.out) ?_
    rintro e w1 ⟨rfl,hb⟩
    go_wp2
    go_ret
    exact ⟨rfl,hb⟩
  | cons c r =>
    have HS : Hid (stp (c :: r) = (c == 124 || c == 41)):=by show _ = _; rfl
    rw [HS.out]
    clear HS
    go_enter Tryz.func91,Tryz.ntmps91
    go_wp2_with fail
    refine Calls.mono (more_cons g s a v c r _ HP.out) ?_
    rintro e w1 ⟨rfl,hb⟩
    go_wp2_with fail
    refine Calls.mono (rsees_any g s a v _ 124 _ rfl _ (HP.out.below hb)) ?_
    rintro e w2 ⟨rfl,hb2⟩
    replace hb:=hb.trans (hb2.mono hb.size)
    clear hb2
    by_cases h1 : c = 124
    · subst h1
      have HX : Hid (decide ((124 :: r).head? = some 124) = true):=by show _ = _; simp
      rw [HX.out]
      go_wp2
      go_ret
      exact ⟨rfl,hb⟩
    · have HX : Hid (decide ((c :: r).head? = some 124) = false):=by show _ = _; simp [h1]
      rw [HX.out]
      go_wp2_with fail
      refine Calls.mono (rsees_any g s a v _ 41 _ rfl _ (HP.out.below hb)) ?_
      rintro e w3 ⟨rfl,hb3⟩
      replace hb:=hb.trans (hb3.mono hb.size)
      clear hb3
      have HY : Hid (decide ((c :: r).head? = some 41) = (c == 124 || c == 41)):=by
        show _ = _
        by_cases h2 : c = 41
        · subst h2; simp
        · simp [h1,h2]
      obtain ⟨q,hq⟩ : ∃ q,q = decide ((c :: r).head? = some 41):=⟨_,rfl⟩
      rw [← hq]
      have HQ:=hid hq
      clear hq
      go_wp2
      go_ret
      exact ⟨ret_bool (HQ.out.trans HY.out),hb⟩
def TrP (w : World) (g : Nat) (s : ByteArray) (ns : List Nd) (R : Except Nat (Rx × List UInt8)) (e : Ending) (w' : World) : Prop :=
  match R with
  | .ok (t,r) => e = .returned (.tuple #[]) ∧ PAt w' g s r (ns ++ t.flat) ∧ Below g w w'
  | .error k => e = .panicked (mis ((s.size : Int) - (k : Int))) ∧ Stk w' g ∧ Below g w w'
def Fits (F : FuncId) (l : List UInt8) (R : Except Nat (Rx × List UInt8)) : Prop :=
  ∀ (g : Nat) (s : ByteArray) (ns : List Nd) (w : World),ns.length + 2 * l.length ≤ 900 → PAt w g s l ns → Calls Tryz.prog F #[.pointer (some ⟨g,0,none⟩)] w (TrP w g s ns R)
def RpR (w : World) (g : Nat) (s : ByteArray) (ns : List Nd) (R : Rx × List UInt8) (op : Value) (wr : World) : Prop :=
  ∃ (t : Rx) (o : Int) (r : List UInt8),op = .int .i64 o ∧ PAt wr g s r (ns ++ t.flat) ∧ Below g w wr ∧ ns.length + t.flat.length + 2 * r.length ≤ 1000 - 10 ∧
    ((o = 0 ∧ R = (t,r)) ∨ (o ≠ 0 ∧ R = posts (.one ⟨o,z4⟩ t) r ∧ ns.length + t.flat.length + 2 * r.length ≤ 1000 - 11))
def rpM (s : ByteArray) (g : Nat) (op : Value) (wr : World) : Nat:=2 * (s.size - plc wr g) + (if intOf op = 0 then 0 else 1)
theorem flat_pos : ∀ t : Rx,0 < t.flat.length
  | .leaf n => by simp [Rx.flat]
  | .one n t => by simp [Rx.flat]
  | .two n t u => by simp [Rx.flat]
theorem PAt.plc_le {w : World} {g : Nat} {s : ByteArray} {l : List UInt8} {ns : List Nd} (h : PAt w g s l ns) : plc w g + l.length = s.size:=by
  obtain ⟨a,v,h,_⟩:=h
  rw [h.plc]
  exact h.le
theorem PAt.len {w : World} {g : Nat} {s : ByteArray} {l : List UInt8} {ns : List Nd} (h : PAt w g s l ns) : ∃ v,w.cell? ⟨g,2,none⟩ = some v ∧ ∃ a c,v = .slice a ns.length c:=by
  obtain ⟨a,v,h,hO⟩:=h
  refine ⟨v,h.rd.all.2.2.1,?_⟩
  rcases hO.2 with ⟨hv,h0⟩ | ⟨b,cap,cur,hv,_⟩
  · have h0' : ns.length = 0:=h0
    exact ⟨none,0,by rw [hv,h0']⟩
  · exact ⟨_,cap,hv⟩
theorem repeated_ok (l : List UInt8) (t : Rx) (r : List UInt8) (h : Fits 117 l (.ok (t,r))) (hsz : t.flat.length + 1 + 2 * r.length ≤ 2 * l.length) : Fits 93 l (.ok (posts t r)):=by
  intro g s ns w hm hp
  have HF:=hid (h g s ns w hm hp)
  have hlt:=hp.lt
  obtain ⟨v,hv,a0,c0,rfl⟩:=hp.len
  have HSZ:=hid (And.intro hm hsz)
  obtain ⟨R,hR⟩ : ∃ R,R = posts t r:=⟨_,rfl⟩
  rw [← hR]
  have HR:=hid hR
  clear h hp hm hsz hR
  go_enter Tryz.func93,Tryz.ntmps93
  go_wp2_with fail
  refine Calls.mono HF.out ?_
  rintro e w1 ⟨rfl,hp1,hb1⟩
  go_wp2_with fail
  refine Calls.mono (mark_any g s r _ _ hp1) ?_
  rintro e w2 ⟨rfl,hp2,hb2⟩
  have HST : Hid (RpR w g s ns R (.int .i64 (markR r).1) w2):=by
    have h1:=markR_posts t r
    have h2:=markR_len r
    have h3:=HSZ.out
    refine ⟨t,(markR r).1,(markR r).2,rfl,hp2,hb1.trans (hb2.mono (Nat.le_refl _)),?_,?_⟩
    · split at h2
      · rw [h2]; omega
      · omega
    · split at h1
      · rename_i h0
        rw [if_pos h0] at h2
        exact Or.inl ⟨h0,by rw [h2]; exact HR.out.trans h1⟩
      · rename_i h0
        rw [if_neg h0] at h2
        exact Or.inr ⟨h0,HR.out.trans h1,by omega⟩
  clear HF hp1 hb1 hp2 hb2 HSZ HR
  generalize (markR r).1 = o0 at *
  go_wp2_with fail
  go_loopw [3] (fun op wr => RpR w g s ns R op wr) (fun op wr => rpM s g op wr)
  case atStart => exact HST.out
  case round =>
    clear HST
    obtain ⟨t',o,r',rfl,hp,hb,hz,hor⟩:=hrel
    rcases hor with ⟨rfl,hR⟩ | ⟨ho,hR,hz2⟩
    · have HR:=hid hR
      clear hR hz
      go_wp2
      go_end0
      rw [HR.out]
      exact ⟨rfl,hp,hb⟩
    · have HR:=hid hR
      have HZ:=hid hz2
      have HPL:=hid (show plc wr g + r'.length = s.size from hp.plc_le)
      have HO:=hid ho
      have hne : (o != 0) = true:=by simp [ho]
      have hpw:=wrapA g s r' ns t'.flat o wr hp (by simp; omega) (flat_pos t')
      have HW:=hid hpw
      clear hR hz hz2 hpw ho
      go_wp2_with fail
      refine Calls.mono HW.out ?_
      rintro e w3 ⟨rfl,hp3,hb3⟩
      go_wp2_with fail
      refine Calls.mono (mark_any g s r' _ _ hp3) ?_
      rintro e w4 ⟨rfl,hp4,hb4⟩
      have HE : Hid (RpR w g s ns R (.int .i64 (markR r').1) w4 ∧ rpM s g (.int .i64 (markR r').1) w4 < rpM s g (.int .i64 o) wr):=by
        have h1:=markR_posts (.one ⟨o,z4⟩ t') r'
        have h2:=markR_len r'
        have h3:=HZ.out
        have h4:=hp4.plc_le
        have h5:=HPL.out
        have h6:=HO.out
        have hfl : (Rx.one ⟨o,z4⟩ t').flat.length = t'.flat.length + 1:=by simp [Rx.flat]
        refine ⟨⟨.one ⟨o,z4⟩ t',(markR r').1,(markR r').2,rfl,hp4,hb.trans (hb3.trans hb4),?_,?_⟩,?_⟩
        · rw [hfl]
          split at h2
          · rw [h2]; omega
          · omega
        · rw [hfl]
          split at h1
          · rename_i h0
            rw [if_pos h0] at h2
            exact Or.inl ⟨h0,by rw [h2]; exact HR.out.trans h1⟩
          · rename_i h0
            rw [if_neg h0] at h2
            exact Or.inr ⟨h0,HR.out.trans h1,by omega⟩
        · show 2 * (s.size - plc w4 g) + (if (markR r').1 = 0 then 0 else 1) < 2 * (s.size - plc wr g) + (if o = 0 then 0 else 1)
          rw [if_neg h6]
          split at h2
          · rename_i h0
            rw [if_pos h0]
            rw [h2] at h4
            omega
          · rename_i h0
            rw [if_neg h0]
            omega
      clear hp hb hp3 hb3 hp4 hb4 HW HR HZ HPL
      generalize (markR r').1 = o2 at *
      go_wp2_with fail
      exact HE.out
theorem repeated_bad (l : List UInt8) (k : Nat) (h : Fits 117 l (.error k)) : Fits 93 l (.error k):=by
  intro g s ns w hm hp
  have HF:=hid (h g s ns w hm hp)
  obtain ⟨v,hv,a0,c0,rfl⟩:=hp.len
  clear h hp hm
  go_enter Tryz.func93,Tryz.ntmps93
  go_wp2_with fail
  refine Calls.mono HF.out ?_
  rintro e w1 ⟨rfl,hs,hb⟩
  exact ⟨rfl,rfl,hs,hb⟩
end Go.Proofs.YtcjghhedphmhkaaGreatDoor
