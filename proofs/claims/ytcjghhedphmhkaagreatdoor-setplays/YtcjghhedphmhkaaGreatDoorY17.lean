/- Own texts. -/
import Derived.Test.YtcjghhedphmhkaaGreatDoorY16
set_option linter.unusedSimpArgs false
set_option linter.unusedVariables false
set_option maxRecDepth 100000
set_option maxHeartbeats 8000000
namespace Go.Proofs.YtcjghhedphmhkaaGreatDoor
open Go.RowKit
theorem step_append_it {ops : Array Oper} {o : Oper} {a : Act} {K : Act → World → Prop} {Q : Exit → Act → World → Prop} {E : Prop} {w : World} (hgd : o.guard = none) (s x : Operand)
    (ho : o.op = .call { callee:=.builtin .append,args:=#[s,x],argTypes:=#[26,26] })
    (B : Nat) (v : Value) (hs : a.eval s = v) (l : List (Nat × ByteArray)) (hown : ItOwn w B v l) (g2 c2 : Nat) (y : Nat × ByteArray) (hx : a.eval x = .slice (some ⟨g2,0,none⟩) 1 c2)
    (hnew : w.cell? ⟨g2,0,none⟩ = some (.int .i64 (y.1 : Int))) (hnew2 : w.cell? ⟨g2,1,none⟩ = some (.string y.2)) (hlen : l.length ≤ 1000000000) (hbase : B ≤ w.heap.size)
    (h : ∀ g cap w',ItOwn w' B (.slice (some ⟨g,0,none⟩) (l.length + 1) cap) (l ++ [y]) → w.grownBy w' v.ownBlock → (v.ownBlock = some g ∨ w.heap.size ≤ g) → g < w'.heap.size → K (a.put o.dst (.slice (some ⟨g,0,none⟩) (l.length + 1) cap)) w') :
    if Region.wanted o (yielded ops a.tmps) = true then Oper.wp Tryz.prog o a w K Q else E:=by
  have hinfo : (Tryz.prog.info? 59).map (fun i => (i.zero,i.size,i.bytes)) = some (some (.agg #[.int .i64 0,.string ByteArray.empty]),2,24):=by kernel_rfl
  obtain ⟨i0,hi,hz0,hz1,hz2⟩:=info_parts hinfo
  refine step_append_lies w hgd s x 26 ho B 59 i0 _ 2 24 Tryz.underlying26 hi hz0 hz1 hz2 rfl (by decide) v l.length (itCells l) hs hown ⟨g2,0,none⟩ 1 c2 (itCells [y]) hx rfl ?_ (itCells_one [y]) (by omega) (by unfold maxLen; omega) (by omega) hbase w.heap.size rfl ?_
  · intro j u hj
    match j,hj with
    | 0,hj =>
      simp [itCells] at hj
      subst hj
      rw [Addr.add_lit]
      exact hnew
    | 1,hj =>
      simp [itCells] at hj
      subst hj
      rw [Addr.add_lit]
      exact hnew2
    | j + 2,hj => simp [itCells] at hj
  · intro g cap w' h1 h2 h3 h4
    refine h g cap w' ?_ h2 (h3.imp id (fun e => by omega)) h4
    unfold ItOwn
    rw [itCells_append]
    simpa using h1
theorem radd_bad {B mb : Nat} {iv pv : Value} {vs : List Value} {σ : SetS} {w : World} (s : ByteArray) (hs : s.size ≤ maxLen) (ms : List Nd) (k e : Int) (hp : PsR s ms k e) (he : ¬ e = 0) :
    Calls Tryz.prog 7 #[.pointer (some ⟨mb,0,none⟩),.string s] w fun x w' => x = .returned (.tuple #[.int .i64 0,.int .i64 k,.int .i64 e]) ∧ Below w.heap.size w w':=by
  have HP:=hid (parseOf_err s hs ms k e hp he w)
  have hq : (e != 0) = true:=by rw [bne_iff_ne]; exact he
  have HE:=hid he
  clear hp he
  go_enter Tryz.func7,Tryz.ntmps7
  go_wp2_with fail
  refine Calls.mono HP.out ?_
  rintro x w1 ⟨a,cap,rfl,hb⟩
  go_wp2
  go_ret3
  exact ⟨rfl,hb⟩
theorem radd_full {B mb : Nat} {iv pv : Value} {vs : List Value} {σ : SetS} {w : World} (h : RsI B mb iv pv vs σ w) (hσ : σ.Ok) (s : ByteArray) (t : Rx) (hl : s.size ≤ 200) (ht : Whole s.data.toList (.ok t)) (h60 : ¬ 60 < t.flat.length) (h12 : 12 ≤ σ.ms.length) :
    Calls Tryz.prog 7 #[.pointer (some ⟨mb,0,none⟩),.string s] w fun x w' => x = .returned (.tuple #[.int .i64 0,.int .i64 0,.int .i64 3]) ∧ Below w.heap.size w w':=by
  have HP:=hid (parseOf_own s w hl t ht h60)
  have HB : Hid (∀ w',Below w.heap.size w w' → w'.cell? ⟨mb,0,none⟩ = some iv):=fun w' hb => by
    have:=Lib.cell_of_heap (h.below hb).box 0
    simpa using this
  obtain ⟨a,cap,rfl,-⟩:=h.row hσ
  have g1 : (σ.ms.length : Int) ≥ 12:=by omega
  clear h ht h60
  go_enter Tryz.func7,Tryz.ntmps7
  go_wp2_with fail
  refine Calls.mono HP.out ?_
  rintro x w1 ⟨a,cap,rfl,hb,_⟩
  have c0:=HB.out w1 hb
  go_wp2
  go_ret3
  exact ⟨rfl,hb⟩
theorem radd_ok {B mb : Nat} {iv pv : Value} {vs : List Value} {σ : SetS} {w : World} (h : RsI B mb iv pv vs σ w) (hσ : σ.Ok) (hlast : σ.last ≤ 1000000) (s : ByteArray) (t : Rx) (hl : s.size ≤ 200) (ht : Whole s.data.toList (.ok t)) (h60 : ¬ 60 < t.flat.length) (h12 : σ.ms.length < 12) :
    Calls Tryz.prog 7 #[.pointer (some ⟨mb,0,none⟩),.string s] w fun x w' => x = .returned (.tuple #[.int .i64 ((σ.last + 1 : Nat) : Int),.int .i64 0,.int .i64 0]) ∧ ∃ iv' pv' vs',RsI B mb iv' pv' vs' ⟨σ.ms ++ [⟨σ.last + 1,s,t⟩],σ.last + 1,σ.on,σ.tried⟩ w' ∧ But (Foot mb iv pv vs) w w' ∧ Onto (Foot mb iv pv vs) (Foot mb iv' pv' vs') w:=by
  have HP:=hid (parseOf_own s w hl t ht h60)
  have H:=hid h
  obtain ⟨a,cap,hiv,-⟩:=h.row hσ
  obtain ⟨pa,pc,hpv⟩:=h.pats.form
  subst hiv hpv
  have g1 : ¬ (σ.ms.length : Int) ≥ 12:=by omega
  have hw1 : IntKind.i64.wrap ((σ.last : Int) + 1) = (σ.last : Int) + 1:=by rw [IntKind.wrap_i64]; omega
  clear h ht
  go_enter Tryz.func7,Tryz.ntmps7
  go_wp2_with fail
  refine Calls.mono HP.out ?_
  rintro x w1 ⟨ua,uc,rfl,hb,hN⟩
  have h1:=H.out.below hb
  have c0:=Lib.cell_of_heap h1.box 0
  have c1:=Lib.cell_of_heap h1.box 1
  have c2:=Lib.cell_of_heap h1.box 2
  have f2:=Lib.frozen_of_heap h1.box 2
  simp only [List.getElem?_toArray,List.getElem?_cons_zero,List.getElem?_cons_succ] at c0 c1 c2
  have H1:=hid h1
  have HN:=hid hN
  have HB:=hid hb
  obtain ⟨w2,hw2⟩ : ∃ w2,w1.setCell ⟨mb,2,none⟩ (.int .i64 ((σ.last : Int) + 1)) = w2:=⟨_,rfl⟩
  have hg2 : w1.grownBy w2 (some mb):=by rw [← hw2]; exact grown_cellR w1 ⟨mb,2,none⟩ _
  have hbox2 : w2.heap[mb]? = some (.cells #[.slice a σ.ms.length cap,.slice pa vs.length pc,.int .i64 ((σ.last + 1 : Nat) : Int),.bool σ.on,.int .i64 (σ.tried : Int)] 29 (0,0)):=by
    rw [← hw2]
    simp [World.setCell,Array.getElem?_modify,h1.box]
  have h2 : RsI B mb (.slice a σ.ms.length cap) (.slice pa vs.length pc) vs ⟨σ.ms,σ.last + 1,σ.on,σ.tried⟩ w2:=h1.put hg2 rfl hbox2
  have hN2 : NsOwn w2 w.heap.size (.slice ua t.flat.length uc) t.flat:=owns_same hN (fun g e => hg2.block g (owns_block hN e).2.1 (by
    intro e'
    injection e' with e'
    obtain ⟨_,_,cur,hc⟩:=owns_block hN e
    exact type_ne hc h1.box (by decide) e'))
  have HUL : Hid (∀ g,(Value.slice ua t.flat.length uc).ownBlock = some g → w.heap.size ≤ g):=fun g e => (owns_block hN e).1
  have HB2 : Hid (But (Foot mb (.slice a σ.ms.length cap) (.slice pa vs.length pc) vs) w w2):=(But.below hb).trans (But.grown hg2 (fun k e => by injection e with e; exact Or.inl e.symm)) (fun k hk => Or.inl hk)
  have HS2 : Hid (w.heap.size ≤ w2.heap.size):=Nat.le_trans hb.size hg2.size
  have H2:=hid h2
  have HN2:=hid hN2
  have d0:=Lib.cell_of_heap hbox2 0
  have d1:=Lib.cell_of_heap hbox2 1
  have d2:=Lib.cell_of_heap hbox2 2
  have e0:=Lib.frozen_of_heap hbox2 0
  have e1:=Lib.frozen_of_heap hbox2 1
  simp only [List.getElem?_toArray,List.getElem?_cons_zero,List.getElem?_cons_succ] at d0 d1 d2
  have HW2:=hid hw2
  clear h1 hN hb HP hg2 hbox2 h2 hN2 HB HN H1
  have hmb : mb < w2.heap.size:=hp_lt H2.out.box
  have k0 : ∀ o,(w2.alloc o).cell? ⟨mb,0,none⟩ = some (.slice a σ.ms.length cap):=fun o => (World.cell?_of_block (Below.heap_alloc _ _ _ hmb)).trans d0
  have k2 : ∀ o,(w2.alloc o).cell? ⟨mb,2,none⟩ = some (.int .i64 ((σ.last + 1 : Nat) : Int)):=fun o => (World.cell?_of_block (Below.heap_alloc _ _ _ hmb)).trans d2
  have ec : ((σ.last + 1 : Nat) : Int) = (σ.last : Int) + 1:=by omega
  rw [ec] at d2 k2
  have AO : Hid (∀ W : World,W = (w2.alloc (.cells #[.int .i64 ((σ.last : Int) + 1),.string s] 59)).drew → ItOwn W B (.slice a σ.ms.length cap) σ.items ∧ W.cell? ⟨w2.heap.size,0,none⟩ = some (.int .i64 ((σ.last + 1 : Nat) : Int)) ∧ W.cell? ⟨w2.heap.size,1,none⟩ = some (.string s) ∧ B ≤ W.heap.size ∧ Below w2.heap.size w2 W):=by
    rintro _ rfl
    have hb2 : Below w2.heap.size w2 (w2.alloc (.cells #[.int .i64 ((σ.last : Int) + 1),.string s] 59)).drew:=((Below.refl _ _).alloc (Nat.le_refl _) _).drew
    refine ⟨(H2.out.below hb2).items,?_,?_,?_,hb2⟩
    · show (w2.alloc _).cell? _ = _
      rw [World.cell?_alloc_at (w:=w2) _ _ w2.heap.size 0 (by simp),ec]
      rfl
    · show (w2.alloc _).cell? _ = _
      rw [World.cell?_alloc_at (w:=w2) _ _ w2.heap.size 1 (by simp)]
      rfl
    · have:=H2.out.mbB
      have:=hb2.size
      omega
  clear ec
  go_wp2_with fail
  go_region_law (first | (refine step_append_it (by rfl) _ _ (by rfl) B _ (by rfl) σ.items (AO.out _ rfl).1 w2.heap.size 1 (σ.last + 1,s) (by rfl) (AO.out _ rfl).2.1 (AO.out _ rfl).2.2.1 (by rw [SetS.items_len]; omega) (AO.out _ rfl).2.2.2.1 ?_; intro g3 cap3 w3 ho3 hg3 hb3 hl3; have HO3:=hid ho3; have HZ3:=hid hb3; have HG3:=hid (H2.out.grownI (AO.out _ rfl).2.2.2.2 hg3); have HU3:=hid (owns_row (HN2.out.below (AO.out _ rfl).2.2.2.2) (AO.out _ rfl).1 (by decide) hg3); have hx3:=HG3.out.1.trans H2.out.box; have HX3:=hid hx3; have m0:=Lib.cell_of_heap hx3 0; have q0:=Lib.frozen_of_heap hx3 0; have q1:=Lib.frozen_of_heap hx3 1; simp only [List.getElem?_toArray,List.getElem?_cons_zero,List.getElem?_cons_succ] at m0; clear ho3 hg3 hb3 hl3 hx3))
  all_goals
    obtain ⟨w4,hw4⟩ : ∃ w4,w3.setCell ⟨mb,0,none⟩ (.slice (some ⟨g3,0,none⟩) (σ.items.length + 1) cap3) = w4:=⟨_,rfl⟩
    have hg4 : w3.grownBy w4 (some mb):=by rw [← hw4]; exact grown_cellR w3 ⟨mb,0,none⟩ _
    have hx4 : w4.heap[mb]? = some (.cells #[.slice (some ⟨g3,0,none⟩) (σ.items.length + 1) cap3,.slice pa vs.length pc,.int .i64 ((σ.last + 1 : Nat) : Int),.bool σ.on,.int .i64 (σ.tried : Int)] 29 (0,0)):=by
      rw [← hw4]
      simp [World.setCell,Array.getElem?_modify,HX3.out]
    have HI4 : Hid (ItOwn w4 B (.slice (some ⟨g3,0,none⟩) (σ.items.length + 1) cap3) (σ.items ++ [(σ.last + 1,s)])):=owns_other HO3.out HX3.out (by decide) hg4
    have HP4 : Hid (VsOwn w4 B (.slice pa vs.length pc) vs):=owns_other HG3.out.2.1 HX3.out (by decide) hg4
    have HQ4 : Hid (Pool w4 B vs (σ.ms.map (fun m => m.pat.flat))):=HG3.out.2.2.1.mapM (fun u hu ns hn => owns_other hn HX3.out (by decide) hg4)
    have HU4 : Hid (NsOwn w4 B (.slice ua t.flat.length uc) t.flat):=(show NsOwn w4 w.heap.size _ _ from owns_other HU3.out HX3.out (by decide) hg4).down (by have:=H.out.lt (k:=mb) (Or.inl rfl); omega)
    have HB4 : Hid (But (Foot mb (.slice a σ.ms.length cap) (.slice pa vs.length pc) vs) w w4):=(HB2.out.trans HG3.out.2.2.2.1 (fun k hk => Or.inl hk)).trans (But.grown hg4 (fun k e => by injection e with e; exact Or.inl e.symm)) (fun k hk => Or.inl hk)
    have HX4:=hid hx4
    have d0:=Lib.cell_of_heap hx4 0
    have d1:=Lib.cell_of_heap hx4 1
    have d2:=Lib.cell_of_heap hx4 2
    simp only [List.getElem?_toArray,List.getElem?_cons_zero,List.getElem?_cons_succ] at d0 d1 d2
    have hvl : vs.length ≤ 12:=by
      have:=HQ4.out.len
      simp at this
      omega
    have hmb4 : mb < w4.heap.size:=hp_lt hx4
    have hBm:=(H.out.lt (k:=mb) (Or.inl rfl)).1
    have HW4:=hid hw4
    clear hg4 hx4 m0 q0 q1 k0 k2 HX3 HO3 HG3 HU3
    have k1 : ∀ o,(w4.alloc o).cell? ⟨mb,1,none⟩ = some (.slice pa vs.length pc):=fun o => (World.cell?_of_block (Below.heap_alloc _ _ _ hmb4)).trans d1
    go_wp2_with (at_builtin; refine wpList_append_vsr rfl _ _ rfl B _ rfl vs (HP4.out.below ((Below.refl _ _).alloc (Nat.le_refl _) _)) w4.heap.size 1 1 (.slice ua t.flat.length uc) rfl rfl rfl (by rw [World.cell?_alloc_at (w:=w4) _ _ w4.heap.size 0 (by simp)]; rfl) (by omega) (by simp; omega) ?_; intro g5 cap5 w5 hv5 hg5 hb5; have hx5:=box_row ((Below.heap_alloc w4 _ _ hmb4).trans HX4.out) (HP4.out.below ((Below.refl _ _).alloc (Nat.le_refl _) _)) (by decide) hg5; have HX5:=hid hx5; have HV5:=hid hv5; have HY5:=hid hb5; have HG5:=hid hg5; have t1:=Lib.cell_of_heap hx5 1; have t2:=Lib.cell_of_heap hx5 2; have q1:=Lib.frozen_of_heap hx5 1; simp only [List.getElem?_toArray,List.getElem?_cons_zero,List.getElem?_cons_succ] at t1 t2; have r2 : (w5.setCell ⟨mb,1,none⟩ (.slice (some ⟨g5,0,none⟩) (vs.length + 1) cap5)).cell? ⟨mb,2,none⟩ = some (.int .i64 ((σ.last + 1 : Nat) : Int)):=(World.cell?_setCell_other _ _ _ _ (by simp)).trans t2; clear hv5 hg5 hx5)
    have hbA : Below w4.heap.size w4 (w4.alloc (.cells #[.slice ua t.flat.length uc] 60)):=(Below.refl _ _).alloc (Nat.le_refl _) _
    have hg6 : w5.grownBy (w5.setCell ⟨mb,1,none⟩ (.slice (some ⟨g5,0,none⟩) (vs.length + 1) cap5)) (some mb):=grown_cellR w5 ⟨mb,1,none⟩ _
    go_ret3
    refine ⟨by simp,.slice (some ⟨g3,0,none⟩) (σ.items.length + 1) cap3,.slice (some ⟨g5,0,none⟩) (vs.length + 1) cap5,vs ++ [.slice ua t.flat.length uc],⟨?_,?_,?_,?_,hBm⟩,?_,?_⟩
    · simp [World.setCell,Array.getElem?_modify,HX5.out]
    · show ItOwn _ B _ (SetS.items ⟨σ.ms ++ [⟨σ.last + 1,s,t⟩],σ.last + 1,σ.on,σ.tried⟩)
      have e : SetS.items ⟨σ.ms ++ [⟨σ.last + 1,s,t⟩],σ.last + 1,σ.on,σ.tried⟩ = σ.items ++ [(σ.last + 1,s)]:=by simp [SetS.items]
      rw [e]
      exact owns_other (owns_row (owns_below HI4.out hbA) (HP4.out.below hbA) (by decide) HG5.out) HX5.out (by decide) hg6
    · exact owns_other HV5.out HX5.out (by decide) hg6
    · show Pool _ B _ ((σ.ms ++ [(⟨σ.last + 1,s,t⟩ : Mbr)]).map (fun m : Mbr => m.pat.flat))
      rw [List.map_append]
      refine Pool.snoc ?_ t.flat_pos ?_
      · exact owns_other (owns_row (owns_below HU4.out hbA) (HP4.out.below hbA) (by decide) HG5.out) HX5.out (by decide) hg6
      · exact HQ4.out.mapM (fun u hu ns hn => owns_other (owns_row (owns_below hn hbA) (HP4.out.below hbA) (by decide) HG5.out) HX5.out (by decide) hg6)
    · refine ((HB4.out.trans (But.below hbA) (fun k hk => Or.inl hk)).trans (But.grown HG5.out (fun k e => Or.inr (Or.inr (Or.inl e)))) (fun k hk => Or.inl hk)).trans (But.grown hg6 (fun k e => by injection e with e; exact Or.inl e.symm)) (fun k hk => Or.inl hk)
    · have s2:=HS2.out
      have s4:=HB4.out.size
      rintro k (rfl | hk | hk | ⟨u,hu,hk⟩)
      · exact Or.inl (Or.inl rfl)
      · injection hk with hk
        simp only at hk
        subst hk
        rcases HZ3.out with h3 | h3
        · exact Or.inl (Or.inr (Or.inl h3))
        · right
          have : w2.heap.size ≤ ((w2.alloc (.cells #[.int .i64 ((σ.last : Int) + 1),.string s] 59)).drew).heap.size:=by show _ ≤ (w2.alloc _).heap.size; simp
          omega
      · injection hk with hk
        simp only at hk
        subst hk
        rcases HY5.out with h3 | h3
        · exact Or.inl (Or.inr (Or.inr (Or.inl h3)))
        · right
          have:=hbA.size
          omega
      · rcases List.mem_append.1 hu with hu | hu
        · exact Or.inl (Or.inr (Or.inr (Or.inr ⟨u,hu,hk⟩)))
        · rw [List.mem_singleton.1 hu] at hk
          exact Or.inr (HUL.out k hk)
theorem radd_any {B mb : Nat} {iv pv : Value} {vs : List Value} {σ σ' : SetS} {w : World} (h : RsI B mb iv pv vs σ w) (hσ : σ.Ok) (hlast : σ.last ≤ 1000000) (s : ByteArray) (hs : s.size ≤ maxLen) (n : Nat) (k e : Int) (hA : AddR σ s n k e σ') :
    Calls Tryz.prog 7 #[.pointer (some ⟨mb,0,none⟩),.string s] w fun x w' => x = .returned (.tuple #[.int .i64 (n : Int),.int .i64 k,.int .i64 e]) ∧ ∃ iv' pv' vs',RsI B mb iv' pv' vs' σ' w' ∧ But (Foot mb iv pv vs) w w' ∧ Onto (Foot mb iv pv vs) (Foot mb iv' pv' vs') w:=by
  cases hA with
  | bad ms k e hp he =>
    refine (radd_bad (B:=B) (iv:=iv) (pv:=pv) (vs:=vs) (σ:=σ) s hs ms k e hp he).mono ?_
    rintro x w' ⟨rfl,hb⟩
    exact ⟨rfl,iv,pv,vs,h.below hb,But.below hb,fun k hk => Or.inl hk⟩
  | full t h1 h2 h3 h4 =>
    refine (radd_full h hσ s t h1 h2 h3 h4).mono ?_
    rintro x w' ⟨rfl,hb⟩
    exact ⟨rfl,iv,pv,vs,h.below hb,But.below hb,fun k hk => Or.inl hk⟩
  | ok t h1 h2 h3 h4 => exact radd_ok h hσ hlast s t h1 h2 h3 h4
def er {α : Type} (k i : Nat) (l : List α) : List α:=(l.take i).eraseIdx k
theorem er_zero {α : Type} (k : Nat) (l : List α) : er k 0 l = []:=by simp [er]
theorem er_all {α : Type} (k : Nat) (l : List α) : er k l.length l = l.eraseIdx k:=by simp [er]
theorem er_len {α : Type} (k i : Nat) (l : List α) : (er k i l).length ≤ i:=by
  unfold er
  refine Nat.le_trans (List.length_eraseIdx_le _ _) ?_
  rw [List.length_take]
  exact Nat.min_le_left _ _
theorem er_step {α : Type} (k i : Nat) (l : List α) (x : α) (h : l[i]? = some x) : er k (i + 1) l = if i = k then er k i l else er k i l ++ [x]:=by
  have hi : i < l.length:=(List.getElem?_eq_some_iff.1 h).1
  have hl : (l.take i).length = i:=by rw [List.length_take]; omega
  have e : l.take (i + 1) = l.take i ++ [x]:=by
    rw [List.take_add_one,h]
    rfl
  unfold er
  rw [e]
  rcases Nat.lt_trichotomy k i with hk | hk | hk
  · rw [if_neg (by omega),List.eraseIdx_append_of_lt_length (by omega)]
  · subst hk
    rw [if_pos rfl,List.eraseIdx_append_of_length_le (by omega),hl,List.eraseIdx_of_length_le (l:=l.take k) (by omega)]
    simp
  · rw [if_neg (by omega),List.eraseIdx_of_length_le (l:=l.take i ++ [x]) (by simp; omega),List.eraseIdx_of_length_le (l:=l.take i) (by omega)]
theorem Pool.erase {w : World} {B : Nat} : ∀ {us : List Value} {nss : List (List Nd)} (k : Nat),Pool w B us nss → Pool w B (us.eraseIdx k) (nss.eraseIdx k)
  | [],[],k,_ => by simp [Pool]
  | u :: us,ns :: nss,0,h => h.2
  | u :: us,ns :: nss,k + 1,h => ⟨h.1,Pool.erase k h.2⟩
  | [],_ :: _,_,h => h.elim
  | _ :: _,[],_,h => h.elim
structure RmI (B mb : Nat) (iv pv : Value) (vs : List Value) (σ : SetS) (k : Nat) (w : World) (i : Nat) (iu pu : Value) (wr : World) : Prop where
  set : RsI B mb iv pv vs σ wr
  items : ItOwn wr w.heap.size iu (er k i σ.items)
  pats : VsOwn wr w.heap.size pu (er k i vs)
  b : Below w.heap.size w wr
theorem rremove_no {B mb : Nat} {iv pv : Value} {vs : List Value} {σ : SetS} {w : World} (h : RsI B mb iv pv vs σ w) (hσ : σ.Ok) (n : Int) (hn : ∀ (j : Nat) m,σ.ms[j]? = some m → ¬ (m.id : Int) = n) :
    Calls Tryz.prog 10 #[.pointer (some ⟨mb,0,none⟩),.int .i64 n] w fun x w' => x = .returned (.int .i64 4) ∧ w' = w:=by
  have HP:=hid (place_any h hσ n)
  have HN:=hid hn
  clear h hn
  go_enter Tryz.func10,Tryz.ntmps10
  go_wp2_with fail
  refine Calls.mono HP.out ?_
  rintro x w1 ⟨r,rfl,hr,rfl⟩
  cases r with
  | none =>
    rw [show plcI none = -1 from rfl]
    go_wp2
    go_ret
    exact ⟨rfl,rfl⟩
  | some i =>
    obtain ⟨m,h1,h2⟩:=hr
    exact absurd h2 (HN.out i m h1)
theorem rremove_yes {B mb : Nat} {iv pv : Value} {vs : List Value} {σ : SetS} {w : World} (h : RsI B mb iv pv vs σ w) (hσ : σ.Ok) (n : Int) (k0 : Nat) (m0 : Mbr) (hm0 : σ.ms[k0]? = some m0) (hn : (m0.id : Int) = n) :
    Calls Tryz.prog 10 #[.pointer (some ⟨mb,0,none⟩),.int .i64 n] w fun x w' => x = .returned (.int .i64 0) ∧ ∃ iv' pv' vs',RsI B mb iv' pv' vs' (σ.del n) w' ∧ But (Foot mb iv pv vs) w w' ∧ Onto (Foot mb iv pv vs) (Foot mb iv' pv' vs') w:=by
  have HP:=hid (place_any h hσ n)
  have H:=hid h
  have HM0:=hid hm0
  have HN:=hid hn
  have h12:=hσ.len
  have Hσ:=hid hσ
  have hvl : vs.length = σ.ms.length:=by simpa using h.pool.len
  obtain ⟨a,cap,hiv,hrow⟩:=h.row hσ
  obtain ⟨pa,pc,hpv⟩:=h.pats.form
  subst hiv hpv
  clear h hm0 hn hrow hσ
  go_enter Tryz.func10,Tryz.ntmps10
  go_wp2_with fail
  refine Calls.mono HP.out ?_
  rintro x w1 ⟨r,rfl,hr,rfl⟩
  cases r with
  | none => exact absurd HN.out (hr k0 m0 HM0.out)
  | some k =>
    have HK:=hid hr
    rw [show plcI (some k) = (k : Int) from rfl]
    have HI0 : Hid (RmI B mb (.slice a σ.ms.length cap) (.slice pa vs.length pc) vs σ k w1 0 (.slice none 0 0) (.slice none 0 0) w1):=⟨H.out,by rw [er_zero]; exact ItOwn.nil _ _,by rw [er_zero]; exact VsOwn.nil _ _,Below.refl _ _⟩
    have hk0 : (k : Int) ≥ 0:=by omega
    clear hr HP
    go_wp2_with fail
    go_loopw [6,7,8] (fun iu pu v wr => ∃ i : Nat,i ≤ σ.ms.length ∧ v = .int .i64 (i : Int) ∧ Hid (RmI B mb (.slice a σ.ms.length cap) (.slice pa vs.length pc) vs σ k w1 i iu pu wr)) (fun _ _ v _ => σ.ms.length - (intOf v).toNat)
    case atStart => exact ⟨0,by omega,rfl,HI0⟩
    case round =>
      clear HI0
      obtain ⟨i,hi,rfl,HA⟩:=hrel
      have c0:=Lib.cell_of_heap HA.out.set.box 0
      have c1:=Lib.cell_of_heap HA.out.set.box 1
      simp only [List.getElem?_toArray,List.getElem?_cons_zero,List.getElem?_cons_succ] at c0 c1
      by_cases hil : i < σ.ms.length
      · obtain ⟨m,hm⟩ : ∃ m,σ.ms[i]? = some m:=⟨σ.ms[i],List.getElem?_eq_getElem hil⟩
        have i0 : (0 : Int) ≤ (i : Int):=by omega
        have i1 : (i : Int) < (σ.ms.length : Int):=by omega
        have i2 : (i : Int) < (vs.length : Int):=by omega
        by_cases hik : (i : Int) = (k : Int)
        · have hq : ((i : Int) != (k : Int)) = false:=by simp [hik]
          have HA2 : Hid (RmI B mb (.slice a σ.ms.length cap) (.slice pa vs.length pc) vs σ k w1 (i + 1) u6 u7 wr):=by
            have h:=HA.out
            have e1:=er_step k i σ.items _ (SetS.items_at hm)
            rw [if_pos (by omega)] at e1
            obtain ⟨z,hz⟩ : ∃ z,vs[i]? = some z:=⟨vs[i]'(by omega),List.getElem?_eq_getElem (by omega)⟩
            have e2:=er_step k i vs z hz
            rw [if_pos (by omega)] at e2
            exact ⟨h.set,by rw [e1]; exact h.items,by rw [e2]; exact h.pats,h.b⟩
          clear HA hik hm
          go_wp2
          exact ⟨⟨i + 1,by omega,by go_num,HA2⟩,by simp [intOf]; omega⟩
        · have hq : ((i : Int) != (k : Int)) = true:=by rw [bne_iff_ne]; exact hik
          obtain ⟨z,hz⟩ : ∃ z,vs[i]? = some z:=⟨vs[i]'(by omega),List.getElem?_eq_getElem (by omega)⟩
          obtain ⟨za,zn,zc,rfl⟩ : ∃ a n c,z = .slice a n c:=by
            obtain ⟨ns,hn⟩:=H.out.pool.mem z (List.mem_of_getElem? hz)
            rcases hn.2 with ⟨hv,_⟩ | ⟨b,c,cur,hv,_⟩
            · exact ⟨_,_,_,hv⟩
            · exact ⟨_,_,_,hv⟩
          have E1 : Hid (er k (i + 1) σ.items = er k i σ.items ++ [(m.id,m.text)]):=by
            have:=er_step k i σ.items _ (SetS.items_at hm)
            rwa [if_neg (by omega)] at this
          have E2 : Hid (er k (i + 1) vs = er k i vs ++ [.slice za zn zc]):=by
            have:=er_step k i vs _ hz
            rwa [if_neg (by omega)] at this
          obtain ⟨bi,hbi⟩ : ∃ b,a = some ⟨b,0,none⟩:=by
            obtain ⟨a',cap',e,hr⟩:=H.out.row Hσ.out
            injection e with e1 _ _
            obtain ⟨b,hb,_⟩:=hr i m hm
            exact ⟨b,by rw [e1]; exact hb⟩
          subst hbi
          obtain ⟨bp,cp,hbp,_,_⟩:=H.out.pats.form1 (by omega)
          injection hbp with hbp1 _ hbp3
          subst hbp1 hbp3
          have HF : Hid (∀ w',Below w1.heap.size w1 w' → w'.cell? ⟨mb,0,none⟩ = some (.slice (some ⟨bi,0,none⟩) σ.ms.length cap) ∧ w'.cell? ⟨mb,1,none⟩ = some (.slice (some ⟨bp,0,none⟩) vs.length pc) ∧ w'.cell? ⟨bi,i * 2,none⟩ = some (.int .i64 (m.id : Int)) ∧ w'.cell? ⟨bi,i * 2 + 1,none⟩ = some (.string m.text) ∧ w'.cell? ⟨bp,i,none⟩ = some (.slice za zn zc)):=fun w' hb => by
            have h:=H.out.below hb
            have c0:=Lib.cell_of_heap h.box 0
            have c1:=Lib.cell_of_heap h.box 1
            simp only [List.getElem?_toArray,List.getElem?_cons_zero,List.getElem?_cons_succ] at c0 c1
            obtain ⟨a',cap',e,hr⟩:=h.row Hσ.out
            injection e with e1 _ _
            obtain ⟨b,hb1,hb2,hb3⟩:=hr i m hm
            rw [← e1] at hb1
            injection hb1 with hb1
            injection hb1 with hb1 _ _
            obtain ⟨b',cp',hq1,_,hq2⟩:=h.pats.form1 (by omega)
            injection hq1 with hq1 _ _
            injection hq1 with hq1
            injection hq1 with hq1 _ _
            subst hb1 hq1
            exact ⟨c0,c1,hb2,hb3,hq2 i _ hz⟩
          have hBr:=HA.out.b
          obtain ⟨x0,x1,x2,x3,x4⟩:=HF.out wr hBr
          have HBr:=hid hBr
          have HIr:=hid HA.out.items
          have HPr:=hid HA.out.pats
          have hl1:=er_len k i σ.items
          have hl2:=er_len k i vs
          clear hm hz hik HA hBr c0 c1
          go_wp2_with (first
            | (at_builtin; refine wpList_append_it rfl _ _ rfl w1.heap.size _ rfl (er k i σ.items) (owns_below HIr.out ((Below.refl _ _).alloc (Nat.le_refl _) _)) wr.heap.size 1 (m.id,m.text) rfl (by rw [World.cell?_alloc_at (w:=wr) _ _ wr.heap.size 0 (by simp)]; rfl) (by rw [World.cell?_alloc_at (w:=wr) _ _ wr.heap.size 1 (by simp)]; rfl) (by omega) (by have:=HBr.out.size; simp; omega) ?_; intro g2 cap2 w2 ho2 hg2 _ _; have hb2 : Below w1.heap.size w1 w2:=(HBr.out.alloc HBr.out.size _).trans (ItOwn.grown (owns_below HIr.out ((Below.refl _ _).alloc (Nat.le_refl _) _)) (by have:=HBr.out.size; simp; omega) hg2); have HP2:=hid (owns_row (owns_below HPr.out ((Below.refl _ _).alloc (Nat.le_refl _) _)) (owns_below HIr.out ((Below.refl _ _).alloc (Nat.le_refl _) _)) (by decide) hg2); have HB2:=hid hb2; have HO2:=hid ho2; obtain ⟨y0,y1,y2,y3,y4⟩:=HF.out w2 hb2; clear ho2 hg2 hb2)
            | (at_builtin; refine wpList_append_vs rfl _ _ rfl w1.heap.size _ rfl (er k i vs) (owns_below HP2.out ((Below.refl _ _).alloc (Nat.le_refl _) _)) w2.heap.size 1 1 (.slice za zn zc) rfl rfl rfl (by rw [World.cell?_alloc_at (w:=w2) _ _ w2.heap.size 0 (by simp)]; rfl) (by omega) (by have:=HB2.out.size; simp; omega) ?_; intro g3 cap3 w3 ho3 hg3 _))
          have hbA : Below w2.heap.size w2 (w2.alloc (.cells #[.slice za zn zc] 60)):=(Below.refl _ _).alloc (Nat.le_refl _) _
          have hb3 : Below w1.heap.size w1 w3:=(HB2.out.trans (hbA.mono HB2.out.size)).trans (owns_grown (owns_below HP2.out hbA) (by have:=HB2.out.size; have:=hbA.size; omega) hg3)
          have HA2 : Hid (RmI B mb (.slice (some ⟨bi,0,none⟩) σ.ms.length cap) (.slice (some ⟨bp,0,none⟩) vs.length pc) vs σ k w1 (i + 1) (.slice (some ⟨g2,0,none⟩) ((er k i σ.items).length + 1) cap2) (.slice (some ⟨g3,0,none⟩) ((er k i vs).length + 1) cap3) w3):=⟨H.out.below hb3,by rw [E1.out]; exact owns_row (owns_below HO2.out hbA) (owns_below HP2.out hbA) (by decide) hg3,by rw [E2.out]; exact ho3,hb3⟩
          exact ⟨⟨i + 1,by omega,by go_num,HA2⟩,by simp [intOf]; omega⟩
      · have hlen : i = σ.ms.length:=by omega
        have g1 : ¬ (i : Int) < (σ.ms.length : Int):=by omega
        have h:=HA.out
        have e1 : er k i σ.items = σ.items.eraseIdx k:=by rw [hlen,← SetS.items_len,er_all]
        have e2 : er k i vs = vs.eraseIdx k:=by rw [hlen,← hvl,er_all]
        have hi1:=h.items
        have hp1:=h.pats
        rw [e1] at hi1
        rw [e2] at hp1
        obtain ⟨ia,ic,rfl⟩:=owns_form hi1
        obtain ⟨qa,qc,rfl⟩:=owns_form hp1
        have f0:=Lib.frozen_of_heap h.set.box 0
        have f1:=Lib.frozen_of_heap h.set.box 1
        have HD : Hid ((σ.del n).ms = σ.ms.eraseIdx k):=by
          obtain ⟨m,hm1,hm2⟩:=HK.out
          exact del_erase σ.ms n k m Hσ.out.rise hm1 hm2
        have HI1:=hid hi1
        have HP1:=hid hp1
        have HS:=hid h.set
        have HBr:=hid h.b
        clear h hi1 hp1 e1 e2 HA
        go_wp2
        have hg : wr.grownBy ((wr.setCell ⟨mb,0,none⟩ (.slice ia (σ.items.eraseIdx k).length ic)).setCell ⟨mb,1,none⟩ (.slice qa (vs.eraseIdx k).length qc)) (some mb):=(grown_cellR wr ⟨mb,0,none⟩ _).trans (grown_cellR _ ⟨mb,1,none⟩ _)
        have hx:=HS.out.box
        have hBm:=(H.out.lt (k:=mb) (Or.inl rfl)).1
        have hBw:=(H.out.lt (k:=mb) (Or.inl rfl)).2
        go_ret
        refine ⟨rfl,.slice ia (σ.items.eraseIdx k).length ic,.slice qa (vs.eraseIdx k).length qc,vs.eraseIdx k,⟨?_,?_,?_,?_,hBm⟩,?_,?_⟩
        · simp [World.setCell,Array.getElem?_modify,hx,SetS.del]
        · have e : (σ.del n).items = σ.items.eraseIdx k:=by
            unfold SetS.items
            rw [HD.out]
            exact map_erase _ _ _
          rw [e]
          exact World.ownsRow.mono (owns_other HI1.out hx (by decide) hg) (by omega)
        · exact World.ownsRow.mono (owns_other HP1.out hx (by decide) hg) (by omega)
        · have e : (σ.del n).ms.map (fun m => m.pat.flat) = (σ.ms.map (fun m => m.pat.flat)).eraseIdx k:=by
            rw [HD.out]
            exact map_erase _ _ _
          rw [e]
          exact (HS.out.pool.erase k).mapM (fun u hu ns hn => owns_other hn hx (by decide) hg)
        · exact (But.below HBr.out).trans (But.grown hg (fun k e => by injection e with e; exact Or.inl e.symm)) (fun k hk => Or.inl hk)
        · rintro k' (rfl | hk | hk | ⟨u,hu,hk⟩)
          · exact Or.inl (Or.inl rfl)
          · exact Or.inr (owns_block HI1.out hk).1
          · exact Or.inr (owns_block HP1.out hk).1
          · exact Or.inl (Or.inr (Or.inr (Or.inr ⟨u,List.mem_of_mem_eraseIdx hu,hk⟩)))
theorem rremove_any {B mb : Nat} {iv pv : Value} {vs : List Value} {σ : SetS} {w : World} (h : RsI B mb iv pv vs σ w) (hσ : σ.Ok) (n : Int) :
    Calls Tryz.prog 10 #[.pointer (some ⟨mb,0,none⟩),.int .i64 n] w fun x w' => x = .returned (.int .i64 (σ.delE n)) ∧ ∃ iv' pv' vs',RsI B mb iv' pv' vs' (σ.del n) w' ∧ But (Foot mb iv pv vs) w w' ∧ Onto (Foot mb iv pv vs) (Foot mb iv' pv' vs') w:=by
  cases hh : σ.has n with
  | false =>
    have hn : ∀ (j : Nat) m,σ.ms[j]? = some m → ¬ (m.id : Int) = n:=fun j m hm e => by
      unfold SetS.has at hh
      rw [List.any_eq_false] at hh
      exact hh m (List.mem_of_getElem? hm) (by rw [beq_iff_eq]; exact e)
    have e : σ.delE n = 4:=by unfold SetS.delE; rw [hh]; rfl
    rw [e]
    refine (rremove_no h hσ n hn).mono ?_
    rintro x w' ⟨rfl,rfl⟩
    refine ⟨rfl,iv,pv,vs,?_,But.refl _ _,fun k hk => Or.inl hk⟩
    rw [SetS.del_no hh]
    exact h
  | true =>
    obtain ⟨m,hm,hn⟩ : ∃ m ∈ σ.ms,(m.id : Int) = n:=by
      unfold SetS.has at hh
      obtain ⟨m,hm,hn⟩:=List.any_eq_true.1 hh
      exact ⟨m,hm,by simpa using hn⟩
    obtain ⟨k,hk⟩:=List.getElem?_of_mem hm
    have e : σ.delE n = 0:=by unfold SetS.delE; rw [hh]; rfl
    rw [e]
    exact rremove_yes h hσ n k m hk hn
theorem ba_ext {a b : ByteArray} (h : a.data.toList = b.data.toList) : a = b:=by
  cases a with
  | mk x =>
    cases b with
    | mk y =>
      congr 1
      exact Array.toList_inj.1 h
theorem cut_extract (s : ByteArray) (i j : Nat) : (s.extract i j).data.toList = cut s.data.toList i j:=by
  rw [ByteArray.data_extract,Array.toList_extract]
  unfold cut
  simp [List.extract]
theorem size_list (s : ByteArray) : s.data.toList.length = s.size:=by simp
theorem ba_beq (a b : ByteArray) : (a.toList == b.toList) = true ↔ a = b:=by
  rw [beq_iff_eq,ByteArray.toList_eq,ByteArray.toList_eq]
  exact ⟨ba_ext,fun h => by rw [h]⟩
def StA (s : ByteArray) (i : Nat) (x : ByteArray) : Prop:=i + x.size ≤ s.size ∧ s.extract i (i + x.size) = x
def StP (s : ByteArray) (i : Nat) (x : ByteArray) (w : World) (e : Ending) (w' : World) : Prop:=∃ y,e = .returned (.bool y) ∧ (y = true ↔ StA s i x) ∧ w' = w
theorem stands_any (s x : ByteArray) (hs : s.size ≤ 1000000) (hx : x.size ≤ 1000000) (i : Nat) (hi : i ≤ s.size) (w : World) :
    Calls Tryz.prog 30 #[.string s,.int .i64 (i : Int),.string x] w (StP s i x w):=by
  have i0 : (0 : Int) ≤ (i : Int):=by omega
  by_cases hle : i + x.size ≤ s.size
  · have g1 : (i : Int) + (x.size : Int) ≤ (s.size : Int):=by omega
    have g2 : (i : Int) ≤ (i : Int) + (x.size : Int):=by omega
    obtain ⟨T,hT⟩ : ∃ T,s.extract i (i + x.size) = T:=⟨_,rfl⟩
    have e1 : ((i : Int) + (x.size : Int)).toNat = i + x.size:=by omega
    go_enter Tryz.func30,Tryz.ntmps30
    have HY : Hid (StP s i x w (.returned (.bool (T.toList == x.toList))) w):=⟨_,rfl,by rw [ba_beq,← hT]; exact ⟨fun h => ⟨hle,h⟩,fun h => h.2⟩,rfl⟩
    go_wp2
    go_ret
    exact HY.out
  · have g1 : ¬ (i : Int) + (x.size : Int) ≤ (s.size : Int):=by omega
    have HN : Hid (¬ StA s i x):=fun h => hle h.1
    go_enter Tryz.func30,Tryz.ntmps30
    go_wp2
    go_ret
    exact ⟨false,rfl,⟨fun h => (by cases h),fun h => absurd h HN.out⟩,rfl⟩
theorem sta_iff (s : ByteArray) (i : Nat) (x : List UInt8) : StA s i ⟨x.toArray⟩ ↔ i + x.length ≤ s.data.toList.length ∧ cut s.data.toList i (i + x.length) = x:=by
  unfold StA
  have e1 : (⟨x.toArray⟩ : ByteArray).size = x.length:=by simp [ByteArray.size]
  rw [e1,size_list]
  constructor
  · rintro ⟨h1,h2⟩
    refine ⟨h1,?_⟩
    rw [← cut_extract,h2]
  · rintro ⟨h1,h2⟩
    refine ⟨h1,ba_ext ?_⟩
    rw [cut_extract,h2]
theorem step_append_ht {ops : Array Oper} {o : Oper} {a : Act} {K : Act → World → Prop} {Q : Exit → Act → World → Prop} {E : Prop} {w : World} (hgd : o.guard = none) (s x : Operand)
    (ho : o.op = .call { callee:=.builtin .append,args:=#[s,x],argTypes:=#[43,43] })
    (B : Nat) (v : Value) (hs : a.eval s = v) (l : List (Nat × Nat × Nat)) (hown : HtOwn w B v l) (g2 c2 : Nat) (y : Nat × Nat × Nat) (hx : a.eval x = .slice (some ⟨g2,0,none⟩) 1 c2)
    (hnew : w.cell? ⟨g2,0,none⟩ = some (.int .i64 (y.1 : Int))) (hnew2 : w.cell? ⟨g2,1,none⟩ = some (.int .i64 (y.2.1 : Int))) (hnew3 : w.cell? ⟨g2,2,none⟩ = some (.int .i64 (y.2.2 : Int))) (hlen : l.length ≤ 1000000000) (hbase : B ≤ w.heap.size)
    (h : ∀ g cap w',HtOwn w' B (.slice (some ⟨g,0,none⟩) (l.length + 1) cap) (l ++ [y]) → w.grownBy w' v.ownBlock → K (a.put o.dst (.slice (some ⟨g,0,none⟩) (l.length + 1) cap)) w') :
    if Region.wanted o (yielded ops a.tmps) = true then Oper.wp Tryz.prog o a w K Q else E:=by
  have hinfo : (Tryz.prog.info? 56).map (fun i => (i.zero,i.size,i.bytes)) = some (some (.agg #[.int .i64 0,.int .i64 0,.int .i64 0]),3,24):=by kernel_rfl
  obtain ⟨i0,hi,hz0,hz1,hz2⟩:=info_parts hinfo
  refine step_append_lies w hgd s x 43 ho B 56 i0 _ 3 24 Tryz.underlying43 hi hz0 hz1 hz2 rfl (by decide) v l.length (htCells l) hs hown ⟨g2,0,none⟩ 1 c2 (htCells [y]) hx rfl ?_ (htCells_one [y]) (by omega) (by unfold maxLen; omega) (by omega) hbase w.heap.size rfl ?_
  · intro j u hj
    match j,hj with
    | 0,hj =>
      simp [htCells] at hj
      subst hj
      rw [Addr.add_lit]
      exact hnew
    | 1,hj =>
      simp [htCells] at hj
      subst hj
      rw [Addr.add_lit]
      exact hnew2
    | 2,hj =>
      simp [htCells] at hj
      subst hj
      rw [Addr.add_lit]
      exact hnew3
    | j + 3,hj => simp [htCells] at hj
  · intro g cap w' h1 h2 h3 h4
    refine h g cap w' ?_ h2
    unfold HtOwn
    rw [htCells_append]
    simpa using h1
theorem rscan_full (mb : Nat) (s : ByteArray) (hs : s.size ≤ maxLen) (h4 : 400 < s.size) (w : World) :
    Calls Tryz.prog 13 #[.pointer (some ⟨mb,0,none⟩),.string s] w fun x w' => x = .returned (.tuple #[.slice none 0 0,.int .i64 3]) ∧ w' = w:=by
  unfold maxLen at hs
  have g1 : (s.size : Int) > 400:=by omega
  go_enter Tryz.func13,Tryz.ntmps13
  go_wp2
  go_ret2
  exact ⟨rfl,rfl⟩
structure ScI (B mb : Nat) (iv pv : Value) (vs : List Value) (σ : SetS) (s : ByteArray) (hits : List (Nat × Nat × Nat)) (w : World) (i : Nat) (u : Value) (L r : List (Nat × Nat × Nat)) (wr : World) : Prop where
  set : RsI B mb iv pv vs ⟨σ.ms,σ.last,σ.on,triedL σ.on (σ.ms.take i) s.data.toList⟩ wr
  own : HtOwn wr w.heap.size u L
  parts : hits = L ++ r
  rest : AllsR s.data.toList (σ.ms.drop i) r
  b : But (fun k => k = mb) w wr
structure SlI (B mb : Nat) (iv pv : Value) (vs : List Value) (σ : SetS) (m : Mbr) (l : List (Nat × Nat)) (lv : Value) (L : List (Nat × Nat × Nat)) (w : World) (k : Nat) (o : Value) (wr : World) : Prop where
  own : HtOwn wr w.heap.size o (L ++ (l.take k).map (fun x => (m.id,x.1,x.2)))
  set : RsI B mb iv pv vs σ wr
  sp : SpOwn wr w.heap.size lv l
  b : But (fun k => k = mb) w wr
theorem rscan_ok {B mb : Nat} {iv pv : Value} {vs : List Value} {σ : SetS} {w : World} (h : RsI B mb iv pv vs σ w) (hσ : σ.Ok) (s : ByteArray) (hs : s.size ≤ 400) (hits : List (Nat × Nat × Nat)) (hA : AllsR s.data.toList σ.ms hits) :
    Calls Tryz.prog 13 #[.pointer (some ⟨mb,0,none⟩),.string s] w fun x w' => ∃ v,x = .returned (.tuple #[v,.int .i64 0]) ∧ HtOwn w' w.heap.size v hits ∧ RsI B mb iv pv vs ⟨σ.ms,σ.last,σ.on,triedL σ.on σ.ms s.data.toList⟩ w' ∧ But (fun k => k = mb) w w':=by
  have hhl : hits.length ≤ 4812:=by
    have h3:=hA.len
    have h4 : σ.ms.length * (s.data.toList.length + 1) ≤ 12 * 401:=Nat.mul_le_mul hσ.len (by simp; omega)
    omega
  have H:=hid h
  have Hσ:=hid hσ
  have h12:=hσ.len
  have HVL : Hid (vs.length = σ.ms.length):=by show _ = _; simpa using h.pool.len
  obtain ⟨a,cap,hiv,hrow⟩:=h.row hσ
  obtain ⟨pa,pc,hpv⟩:=h.pats.form
  subst hiv hpv
  have c4:=Lib.cell_of_heap h.box 4
  have f4:=Lib.frozen_of_heap h.box 4
  simp only [List.getElem?_toArray,List.getElem?_cons_zero,List.getElem?_cons_succ] at c4
  have g0 : ¬ (s.size : Int) > 400:=by omega
  have HI0 : Hid (ScI B mb (.slice a σ.ms.length cap) (.slice pa vs.length pc) vs σ s hits w 0 (.slice none 0 0) [] hits (w.setCell ⟨mb,4,none⟩ (.int .i64 0))):=by
    have hg:=grown_cellR w ⟨mb,4,none⟩ (.int .i64 0)
    refine ⟨h.put hg rfl ?_,HtOwn.nil _ _,rfl,by simpa using hA,But.grown hg (fun k e => by injection e with e; exact e.symm)⟩
    simp [World.setCell,Array.getElem?_modify,h.box,triedL]
  clear h hrow hσ hA
  go_enter Tryz.func13,Tryz.ntmps13
  go_wp2_with fail
  go_loopw [6,7] (fun u v wr => ∃ (i : Nat) (L r : List (Nat × Nat × Nat)),i ≤ σ.ms.length ∧ v = .int .i64 (i : Int) ∧ Hid (ScI B mb (.slice a σ.ms.length cap) (.slice pa vs.length pc) vs σ s hits w i u L r wr)) (fun _ v _ => σ.ms.length - (intOf v).toNat)
  case atStart => exact ⟨0,[],hits,by omega,rfl,HI0⟩
  case round =>
    clear HI0 c4 f4
    obtain ⟨i,L,r,hi,rfl,HA⟩:=hrel
    by_cases hil : i < σ.ms.length
    · obtain ⟨m,hm⟩ : ∃ m,σ.ms[i]? = some m:=⟨σ.ms[i],List.getElem?_eq_getElem hil⟩
      have i0 : (0 : Int) ≤ (i : Int):=by omega
      have i1 : (i : Int) < (σ.ms.length : Int):=by omega
      have i2 : (i : Int) < (vs.length : Int):=by have:=HVL.out; omega
      obtain ⟨bi,hbi⟩ : ∃ b,a = some ⟨b,0,none⟩:=by
        obtain ⟨a',cap',e,hr⟩:=H.out.row Hσ.out
        injection e with e1 _ _
        obtain ⟨b,hb,_⟩:=hr i m hm
        exact ⟨b,by rw [e1]; exact hb⟩
      subst hbi
      obtain ⟨bp,cp,hbp,_,_⟩:=H.out.pats.form1 (by have:=HVL.out; omega)
      injection hbp with hbp1 _ hbp3
      subst hbp1 hbp3
      obtain ⟨z,hz,hzO,hz0⟩:=H.out.pool.get i m.pat.flat (by rw [List.getElem?_map,hm]; rfl)
      obtain ⟨gz,cz,rfl⟩ : ∃ g c,z = .slice (some ⟨g,0,none⟩) m.pat.flat.length c:=by
        obtain ⟨g,c,hv,_⟩:=hzO.form hz0
        exact ⟨g,c,hv⟩
      have hmk:=(Hσ.out.each m (List.mem_of_getElem? hm)).1
      have hft:=hmk.fault
      have hgd:=hmk.good
      have hok:=hmk.isOk
      have h60 : m.pat.flat.length ≤ 60:=by have:=hmk.2.2.2; omega
      have hnl:=Nat.le_trans (ned_len m.pat) h60
      have hal : ∀ n ∈ m.pat.flat,(1 ≤ n.op ∧ n.op ≤ 9) ∧ n.c.ok:=fun n hn => ⟨(hgd.all n hn).1,(hgd.all n hn).2.2⟩
      have HRD : Hid (∀ (on : Bool) (tr : Nat) w',RsI B mb (.slice (some ⟨bi,0,none⟩) σ.ms.length cap) (.slice (some ⟨bp,0,none⟩) vs.length pc) vs ⟨σ.ms,σ.last,on,tr⟩ w' → _):=fun on tr w' h => h.read (i:=i) (m:=m) hm (z:=.slice (some ⟨gz,0,none⟩) m.pat.flat.length cz) hz
      have HZN : Hid (∀ (on : Bool) (tr : Nat) w',RsI B mb (.slice (some ⟨bi,0,none⟩) σ.ms.length cap) (.slice (some ⟨bp,0,none⟩) vs.length pc) vs ⟨σ.ms,σ.last,on,tr⟩ w' → NsIn w' (.slice (some ⟨gz,0,none⟩) m.pat.flat.length cz) m.pat.flat):=fun on tr w' h => by
        obtain ⟨z',h1,h2,_⟩:=h.pool.get i m.pat.flat (by rw [List.getElem?_map,hm]; rfl)
        rw [hz] at h1
        obtain rfl:=Option.some.inj h1
        exact h2.isIn (by unfold maxLen; omega)
      have HND : Hid (∀ w',NsIn w' (.slice (some ⟨gz,0,none⟩) m.pat.flat.length cz) m.pat.flat → _):=fun w' h => neededOf_any m.pat hok hft (fun n hn => (hal n hn).2) _ w' h
      obtain ⟨l,rr,hl,hrr,hrest⟩ : ∃ l rr,AllR s.data.toList m.pat 0 l ∧ AllsR s.data.toList (σ.ms.drop (i + 1)) rr ∧ r = l.map (fun x => (m.id,x.1,x.2)) ++ rr:=by
        have hr:=HA.out.rest
        have e : σ.ms.drop i = m :: σ.ms.drop (i + 1):=by
          rw [List.drop_eq_getElem_cons hil]
          rw [List.getElem?_eq_getElem hil] at hm
          rw [Option.some.inj hm]
        rw [e] at hr
        cases hr with
        | cons _ _ l h h1 h2 => exact ⟨l,h,h1,h2,rfl⟩
      have hll : l.length ≤ 401:=by
        have:=hl.len
        have hlen : s.data.toList.length = s.size:=by simp
        omega
      have HAL : Hid (∀ w',NsIn w' (.slice (some ⟨gz,0,none⟩) m.pat.flat.length cz) m.pat.flat → _):=fun w' h => allOf_own m.pat hok _ s hs l hl w' h hal h60
      have HTK : Hid (triedL σ.on (σ.ms.take (i + 1)) s.data.toList = triedL σ.on (σ.ms.take i) s.data.toList + (if m.try s.data.toList || !σ.on then 1 else 0)):=by
        show _ = _
        rw [List.take_add_one,hm]
        exact triedL_snoc _ _ _ _
      obtain ⟨x0,x1,x3,x4,xf,x5,x6⟩:=HRD.out σ.on _ wr HA.out.set
      have CN:=hid (HND.out wr (HZN.out σ.on _ wr HA.out.set))
      have HRR:=hid hrr
      have HRE:=hid hrest
      have HMM:=hid hm
      clear hz hzO hz0 hmk hft hgd hok h60 hal hl hrr hrest hm HND
      obtain ⟨need,hnd⟩ : ∃ x : ByteArray,x = ⟨m.pat.ned.toArray⟩:=⟨_,rfl⟩
      rw [← hnd] at CN
      have HNE:=hid hnd
      have hns : need.size ≤ 1000000:=by
        rw [hnd]
        have e : (⟨m.pat.ned.toArray⟩ : ByteArray).size = m.pat.ned.length:=by simp [ByteArray.size]
        omega
      clear hnd
      go_wp2_with fail
      refine Calls.mono CN.out ?_
      rintro e w1 ⟨rfl,hb1⟩
      have hS1:=HA.out.set.below hb1
      have HS1:=hid hS1
      have HO1:=hid (HA.out.own.kept hb1)
      have HB1:=hid (HA.out.b.trans (But.below (F:=fun _ => False) hb1) (fun k hk => hk.elim))
      have HPT:=hid HA.out.parts
      obtain ⟨y0,y1,y3,y4,yf,y5,y6⟩:=HRD.out σ.on _ w1 hS1
      clear hb1 hS1 CN HA x0 x1 x3 x4 xf x5 x6
      have HST : Hid (∀ (j : Nat),j ≤ s.size → _):=fun j hj => stands_any s need (by omega) hns j hj w1
      have HQ0 : Hid (false = true ↔ ∃ j,j < 0 ∧ StA s j need):=⟨fun h => (by cases h),fun ⟨j,h,_⟩ => (by omega)⟩
      go_wp2_with fail
      go_loop [9,10] (fun b v => ∃ (j : Nat) (y : Bool),j ≤ s.size + 1 ∧ b = .bool y ∧ v = .int .i64 (j : Int) ∧ Hid (y = true ↔ ∃ k,k < j ∧ StA s k need)) (fun _ v => s.size + 1 - (intOf v).toNat)
      case atStart => exact ⟨0,false,by omega,rfl,rfl,HQ0⟩
      case round =>
        clear HQ0
        obtain ⟨j,y,hj,rfl,rfl,HY⟩:=hrel
        by_cases hjs : j ≤ s.size
        · have j1 : (j : Int) ≤ (s.size : Int):=by omega
          cases y with
          | true =>
            have HY2 : Hid (true = true ↔ ∃ k,k < j + 1 ∧ StA s k need):=⟨fun _ => by
              obtain ⟨k,h1,h2⟩:=HY.out.1 rfl
              exact ⟨k,by omega,h2⟩,fun _ => rfl⟩
            go_wp2
            exact ⟨⟨j + 1,true,by omega,rfl,by go_num,HY2⟩,by simp [intOf]; omega⟩
          | false =>
            have CST:=hid (HST.out j hjs)
            go_wp2_with fail
            refine Calls.mono CST.out ?_
            rintro e w2 ⟨y,rfl,hy,rfl⟩
            have HY2 : Hid (y = true ↔ ∃ k,k < j + 1 ∧ StA s k need):=⟨fun h => ⟨j,by omega,hy.1 h⟩,fun ⟨k,h1,h2⟩ => by
              rcases Nat.lt_or_ge k j with h3 | h3
              · cases HY.out.2 ⟨k,h3,h2⟩
              · obtain rfl : k = j:=by omega
                exact hy.2 h2⟩
            clear hy
            go_wp2
            exact ⟨⟨j + 1,y,by omega,rfl,by go_num,HY2⟩,by simp [intOf]; omega⟩
        · have j1 : ¬ (j : Int) ≤ (s.size : Int):=by omega
          have HTY : Hid (m.try s.data.toList = y):=by
            show _ = _
            unfold Mbr.try
            rw [Bool.eq_iff_iff,HY.out]
            rw [@decide_eq_true_iff _ (Classical.propDecidable _)]
            constructor
            · rintro ⟨k,h1,h2⟩
              have h3:=(sta_iff s k m.pat.ned).2 ⟨h1,h2⟩
              rw [← HNE.out] at h3
              exact ⟨k,by have:=h3.1; omega,h3⟩
            · rintro ⟨k,h1,h2⟩
              rw [HNE.out] at h2
              obtain ⟨h3,h4⟩:=(sta_iff s k m.pat.ned).1 h2
              exact ⟨k,h3,h4⟩
          rw [HTY.out] at HTK
          have hT : triedL σ.on (σ.ms.take i) s.data.toList ≤ 12:=Nat.le_trans (triedL_le _ _ _) (by rw [List.length_take]; omega)
          obtain ⟨T,hTT⟩ : ∃ T,T = triedL σ.on (σ.ms.take i) s.data.toList:=⟨_,rfl⟩
          rw [← hTT] at hT HTK HS1 y4
          have hwT : IntKind.i64.wrap ((T : Int) + 1) = (T : Int) + 1:=by rw [IntKind.wrap_i64]; omega
          have HAF : Hid (∀ wt,(RsI B mb (.slice (some ⟨bi,0,none⟩) σ.ms.length cap) (.slice (some ⟨bp,0,none⟩) vs.length pc) vs ⟨σ.ms,σ.last,σ.on,triedL σ.on (σ.ms.take (i + 1)) s.data.toList⟩ wt ∧ HtOwn wt w.heap.size u6 L ∧ But (fun k => k = mb) w wt) → _):=fun wt h => HAL.out wt (HZN.out _ _ wt h.1)
          have HP1 : Hid (T + 1 = triedL σ.on (σ.ms.take (i + 1)) s.data.toList → RsI B mb (.slice (some ⟨bi,0,none⟩) σ.ms.length cap) (.slice (some ⟨bp,0,none⟩) vs.length pc) vs ⟨σ.ms,σ.last,σ.on,triedL σ.on (σ.ms.take (i + 1)) s.data.toList⟩ (w1.setCell ⟨mb,4,none⟩ (.int .i64 ((T : Int) + 1))) ∧ HtOwn (w1.setCell ⟨mb,4,none⟩ (.int .i64 ((T : Int) + 1))) w.heap.size u6 L ∧ But (fun k => k = mb) w (w1.setCell ⟨mb,4,none⟩ (.int .i64 ((T : Int) + 1)))):=fun e => by
            have hg:=grown_cellR w1 ⟨mb,4,none⟩ (.int .i64 ((T : Int) + 1))
            refine ⟨?_,owns_other HO1.out HS1.out.box (by decide) hg,HB1.out.trans (But.grown hg (fun k e => by injection e with e; exact e.symm)) (fun k hk => Or.inl hk)⟩
            rw [← e]
            refine HS1.out.put hg rfl ?_
            simp [World.setCell,Array.getElem?_modify,HS1.out.box]
          have HP0 : Hid (T = triedL σ.on (σ.ms.take (i + 1)) s.data.toList → RsI B mb (.slice (some ⟨bi,0,none⟩) σ.ms.length cap) (.slice (some ⟨bp,0,none⟩) vs.length pc) vs ⟨σ.ms,σ.last,σ.on,triedL σ.on (σ.ms.take (i + 1)) s.data.toList⟩ w1 ∧ HtOwn w1 w.heap.size u6 L ∧ But (fun k => k = mb) w w1):=fun e => ⟨by rw [← e]; exact HS1.out,HO1.out,HB1.out⟩
          obtain ⟨on,hon⟩ : ∃ on,on = σ.on:=⟨_,rfl⟩
          rw [← hon] at y3
          have HON:=hid hon
          clear hon hTT
          have HC : Hid (triedL σ.on (σ.ms.take (i + 1)) s.data.toList = T + (if (y || !on) then 1 else 0)):=by
            show _ = _
            rw [HTK.out,HON.out]
          obtain ⟨c,hc⟩ : ∃ c,c = (y || !on):=⟨_,rfl⟩
          rw [← hc] at HC
          go_upto_region 14 with fail
          go_cut [56] from 57 to 94 (fun v wc => v = .bool c ∧ wc = w1)
          case first =>
            cases y <;> cases on
            all_goals
              subst hc
              go_wp2_with fail
              go_meet
              case rel => exact ⟨rfl,rfl⟩
          case rest =>
          obtain ⟨rfl,rfl⟩:=hcut
          clear hc y3 HON
          go_upto_if 56 with fail
          go_cut [] from 19 to 94 (fun wc => RsI B mb (.slice (some ⟨bi,0,none⟩) σ.ms.length cap) (.slice (some ⟨bp,0,none⟩) vs.length pc) vs ⟨σ.ms,σ.last,σ.on,triedL σ.on (σ.ms.take (i + 1)) s.data.toList⟩ wc ∧ HtOwn wc w.heap.size u6 L ∧ But (fun k => k = mb) w wc)
          case first =>
            cases c
            · have HX:=hid (HP0.out (by have:=HC.out; simpa using this.symm))
              clear HP0 HP1
              go_wp2_with fail
              go_meet
              case rel => exact HX.out
            · have HX:=hid (HP1.out (by have:=HC.out; simpa using this.symm))
              clear HP0 HP1
              go_wp2_with fail
              go_meet
              case rel => exact HX.out
          case rest =>
            have HX:=hid hcut
            obtain ⟨z0,z1,-,-,-,-,z6⟩:=HRD.out _ _ _ HX.out.1
            have CAL:=hid (HAF.out wc HX.out)
            clear HP0 HP1 hcut
            go_wp2_with fail
            refine Calls.mono CAL.out ?_
            rintro e w3 ⟨u,rfl,hu,hb3⟩
            obtain ⟨la,lc,rfl⟩:=owns_form hu
            have HL0 : Hid (SlI B mb (.slice (some ⟨bi,0,none⟩) σ.ms.length cap) (.slice (some ⟨bp,0,none⟩) vs.length pc) vs ⟨σ.ms,σ.last,σ.on,triedL σ.on (σ.ms.take (i + 1)) s.data.toList⟩ m l (.slice la l.length lc) L w 0 u6 w3):=⟨by
              rw [List.take_zero,List.map_nil,List.append_nil]
              exact owns_below HX.out.2.1 hb3,HX.out.1.below hb3,World.ownsRow.mono hu HX.out.2.2.size,HX.out.2.2.trans (But.below (F:=fun _ => False) hb3) (fun k hk => hk.elim)⟩
            clear hu hb3 CAL HX z0 z1 z6 y0 y1 y4 yf y5 y6 HAF HAL HS1 HO1 HB1 HY HTY HTK HST HNE hwT hT
            go_wp2_with fail
            go_loopw [6,12] (fun o v wq => ∃ k : Nat,k ≤ l.length ∧ v = .int .i64 (k : Int) ∧ Hid (SlI B mb (.slice (some ⟨bi,0,none⟩) σ.ms.length cap) (.slice (some ⟨bp,0,none⟩) vs.length pc) vs ⟨σ.ms,σ.last,σ.on,triedL σ.on (σ.ms.take (i + 1)) s.data.toList⟩ m l (.slice la l.length lc) L w k o wq)) (fun _ v _ => l.length - (intOf v).toNat)
            case atStart => exact ⟨0,by omega,rfl,HL0⟩
            case round =>
              clear HL0
              obtain ⟨k,hk,rfl,HQ⟩:=hrel
              obtain ⟨M,hM⟩ : ∃ M,M = L ++ (l.take k).map (fun x => (m.id,x.1,x.2)):=⟨_,rfl⟩
              have HOW : Hid (HtOwn wr w.heap.size u6 M):=by
                have:=HQ.out.own
                rw [← hM] at this
                exact this
              obtain ⟨oa,oc,ho⟩:=owns_form HOW.out
              subst ho
              have HM:=hid hM
              have hML : M.length ≤ 1000000:=by
                have hp : hits.length = L.length + r.length:=by rw [HPT.out,List.length_append]
                rw [hM]
                simp only [List.length_append,List.length_map,List.length_take]
                omega
              clear hM
              by_cases hkl : k < l.length
              · obtain ⟨x,hx⟩ : ∃ x,l[k]? = some x:=⟨l[k],List.getElem?_eq_getElem hkl⟩
                have k0 : (0 : Int) ≤ (k : Int):=by omega
                have k1 : (k : Int) < (l.length : Int):=by omega
                obtain ⟨z0,-,-,-,-,z5,-⟩:=HRD.out _ _ wr HQ.out.set
                obtain ⟨lb,hlb⟩ : ∃ b,la = some ⟨b,0,none⟩:=by
                  rcases HQ.out.sp.2 with ⟨hv,h0⟩ | ⟨g,cap,cur,hv,_⟩
                  · omega
                  · injection hv with h1 _ _
                    exact ⟨g,h1⟩
                subst hlb
                have hs0:=HQ.out.sp.cells (g:=lb) rfl (k * 2) _ (spCells_at l k x hx).1
                have hs1:=HQ.out.sp.cells (g:=lb) rfl (k * 2 + 1) _ (spCells_at l k x hx).2
                rw [Addr.add_lit,Nat.zero_add] at hs0 hs1
                have AO : Hid (∀ W : World,W = (wr.alloc (.cells #[.int .i64 (m.id : Int),.int .i64 (x.1 : Int),.int .i64 (x.2 : Int)] 56)).drew → HtOwn W w.heap.size (.slice oa M.length oc) M ∧ W.cell? ⟨wr.heap.size,0,none⟩ = some (.int .i64 (m.id : Int)) ∧ W.cell? ⟨wr.heap.size,1,none⟩ = some (.int .i64 (x.1 : Int)) ∧ W.cell? ⟨wr.heap.size,2,none⟩ = some (.int .i64 (x.2 : Int)) ∧ w.heap.size ≤ W.heap.size ∧ Below wr.heap.size wr W):=by
                  rintro _ rfl
                  have hb2 : Below wr.heap.size wr (wr.alloc (.cells #[.int .i64 (m.id : Int),.int .i64 (x.1 : Int),.int .i64 (x.2 : Int)] 56)).drew:=((Below.refl _ _).alloc (Nat.le_refl _) _).drew
                  refine ⟨owns_below HOW.out hb2,?_,?_,?_,Nat.le_trans HQ.out.b.size hb2.size,hb2⟩
                  · show (wr.alloc _).cell? _ = _
                    rw [World.cell?_alloc_at (w:=wr) _ _ wr.heap.size 0 (by simp)]
                    rfl
                  · show (wr.alloc _).cell? _ = _
                    rw [World.cell?_alloc_at (w:=wr) _ _ wr.heap.size 1 (by simp)]
                    rfl
                  · show (wr.alloc _).cell? _ = _
                    rw [World.cell?_alloc_at (w:=wr) _ _ wr.heap.size 2 (by simp)]
                    rfl
                have HX:=hid hx
                clear hx
                go_wp2_with fail
                go_region_law (first | (refine step_append_ht (by rfl) _ _ (by rfl) w.heap.size _ (by rfl) M (AO.out _ rfl).1 wr.heap.size 1 (m.id,x.1,x.2) (by rfl) (AO.out _ rfl).2.1 (AO.out _ rfl).2.2.1 (AO.out _ rfl).2.2.2.1 (by omega) (AO.out _ rfl).2.2.2.2.1 ?_; intro g4 cap4 w4 ho4 hg4; have HO4:=hid ho4; have HG4 : Hid (SpOwn w4 w.heap.size (.slice (some ⟨lb,0,none⟩) l.length lc) l ∧ Below w.heap.size wr w4):=⟨owns_row (owns_below HQ.out.sp (AO.out _ rfl).2.2.2.2.2) (AO.out _ rfl).1 (by decide) hg4,((AO.out _ rfl).2.2.2.2.2.mono HQ.out.b.size).trans (owns_grown (AO.out _ rfl).1 (AO.out _ rfl).2.2.2.2.1 hg4)⟩; clear ho4 hg4))
                all_goals
                  have HQ2 : Hid (SlI B mb (.slice (some ⟨bi,0,none⟩) σ.ms.length cap) (.slice (some ⟨bp,0,none⟩) vs.length pc) vs ⟨σ.ms,σ.last,σ.on,triedL σ.on (σ.ms.take (i + 1)) s.data.toList⟩ m l (.slice (some ⟨lb,0,none⟩) l.length lc) L w (k + 1) (.slice (some ⟨g4,0,none⟩) (M.length + 1) cap4) w4):=by
                    refine ⟨?_,HQ.out.set.low HG4.out.2 (fun k hk => (H.out.lt hk).2),HG4.out.1,HQ.out.b.trans (G:=fun k => w.heap.size ≤ k) ⟨HG4.out.2.os,HG4.out.2.tape,HG4.out.2.output,HG4.out.2.size,fun k hk hn => HG4.out.2.block k (by omega)⟩ (fun k hk => Or.inr hk)⟩
                    have e : L ++ (l.take (k + 1)).map (fun x => (m.id,x.1,x.2)) = M ++ [(m.id,x.1,x.2)]:=by
                      rw [List.take_add_one,HX.out,List.map_append,← List.append_assoc,← HM.out]
                      rfl
                    rw [e]
                    have:=HO4.out
                    simpa [HtOwn] using this
                  clear HQ HO4 HG4 HM HOW
                  go_wp2
                  exact ⟨⟨k + 1,by omega,by go_num,HQ2⟩,by simp [intOf]; omega⟩
              · have k1 : ¬ (k : Int) < (l.length : Int):=by omega
                have hkk : k = l.length:=by omega
                have HSC : Hid (ScI B mb (.slice (some ⟨bi,0,none⟩) σ.ms.length cap) (.slice (some ⟨bp,0,none⟩) vs.length pc) vs σ s hits w (i + 1) (.slice oa M.length oc) (L ++ l.map (fun x => (m.id,x.1,x.2))) rr wr):=by
                  have hq:=HQ.out
                  refine ⟨hq.set,?_,?_,HRR.out,hq.b⟩
                  · have h1:=HOW.out
                    have h2:=HM.out
                    rw [hkk,List.take_length] at h2
                    rw [← h2]
                    exact h1
                  · rw [HPT.out,HRE.out,List.append_assoc]
                clear HQ
                go_wp2
                exact ⟨⟨i + 1,L ++ l.map (fun x => (m.id,x.1,x.2)),rr,by omega,by go_num,HSC⟩,by simp [intOf]; omega⟩
    · have g1 : ¬ (i : Int) < (σ.ms.length : Int):=by omega
      have hlen : i = σ.ms.length:=by omega
      have c0:=Lib.cell_of_heap HA.out.set.box 0
      simp only [List.getElem?_toArray,List.getElem?_cons_zero,List.getElem?_cons_succ] at c0
      obtain ⟨ua,uc,rfl⟩:=HA.out.own.form
      have HZ : Hid (HtOwn wr w.heap.size (.slice ua L.length uc) hits ∧ RsI B mb (.slice a σ.ms.length cap) (.slice pa vs.length pc) vs ⟨σ.ms,σ.last,σ.on,triedL σ.on σ.ms s.data.toList⟩ wr ∧ But (fun k => k = mb) w wr):=by
        have hr:=HA.out.rest
        rw [hlen,List.drop_length] at hr
        cases hr
        have hp:=HA.out.parts
        rw [List.append_nil] at hp
        have hs:=HA.out.set
        rw [hlen,List.take_length] at hs
        exact ⟨by rw [hp]; exact HA.out.own,hs,HA.out.b⟩
      clear HA
      go_wp2
      go_ret2
      exact ⟨_,rfl,HZ.out.1,HZ.out.2.1,HZ.out.2.2⟩
theorem HtOwn.off {w : World} {B : Nat} {v : Value} {l : List (Nat × Nat × Nat)} (h : HtOwn w B v l) (hm : l.length ≤ maxLen) : HtOff (fun k => k < B) w v l:=by
  have hi:=h.isIn hm
  rcases h.2 with ⟨hv,h0⟩ | ⟨g,cap,cur,hv,hb,hg,_⟩
  · exact ⟨none,0,by rw [hv,h0],hm,Or.inl (List.eq_nil_of_length_eq_zero h0)⟩
  · obtain ⟨a,c,hv2,_,hq⟩:=hi
    refine ⟨a,c,hv2,hm,?_⟩
    rcases hq with hq | ⟨b,off,ha,hlt,hat⟩
    · exact Or.inl hq
    · refine Or.inr ⟨b,off,ha,hlt,?_,hat⟩
      rw [hv] at hv2
      injection hv2 with e _ _
      rw [ha] at e
      injection e with e
      injection e with e _ _
      omega
theorem rscan_any {B mb : Nat} {iv pv : Value} {vs : List Value} {σ σ' : SetS} {w : World} (h : RsI B mb iv pv vs σ w) (hσ : σ.Ok) (s : ByteArray) (hs : s.size ≤ maxLen) (e : Int) (hits : List (Nat × Nat × Nat)) (g : ScanR σ s e hits σ') :
    Calls Tryz.prog 13 #[.pointer (some ⟨mb,0,none⟩),.string s] w fun x w' => ∃ v,x = .returned (.tuple #[v,.int .i64 e]) ∧ HtOff (fun k => k < w.heap.size) w' v hits ∧ RsI B mb iv pv vs σ' w' ∧ But (Foot mb iv pv vs) w w':=by
  cases g with
  | full h4 =>
    refine (rscan_full mb s hs h4 w).mono ?_
    rintro x w' ⟨rfl,rfl⟩
    exact ⟨_,rfl,⟨none,0,rfl,by simp,Or.inl rfl⟩,h,But.refl _ _⟩
  | ok hits h4 hA =>
    have hl : hits.length ≤ 4812:=by
      have h3:=hA.len
      have h4 : σ.ms.length * (s.data.toList.length + 1) ≤ 12 * 401:=Nat.mul_le_mul hσ.len (by simp; omega)
      omega
    refine (rscan_ok h hσ s h4 hits hA).mono ?_
    rintro x w' ⟨v,rfl,h1,h2,h3⟩
    exact ⟨v,rfl,h1.off (by unfold maxLen; omega),h2,h3.mono (fun k _ hk => Or.inl hk)⟩
theorem eqItd (d : Nat) (a : Int) (b : ByteArray) (c : Int) (e : ByteArray) (w : World) : (Op.equalIn (d + 1 + 1) 59 (.agg #[.int .i64 a,.string b]) (.agg #[.int .i64 c,.string e])).run Tryz.prog w = .ok (a == c && b.toList == e.toList) w:=by
  have hs : Tryz.prog.underlying 59 = some (.struct (Tryz.prog.fieldsOf 59)):=by kernel_rfl
  have hp : Tryz.prog.stoodInHeld 59 = false:=by kernel_rfl
  rw [run_equalIn_struct w (d + 1) _ _ _ hs hp]
  have hf : (Tryz.prog.fieldsOf 59).toList.map (fun f => (f.type, f.offset, f.name == "_")) = [(3, 0, false), (9, 1, false)] := by kernel_rfl
  generalize (Tryz.prog.fieldsOf 59).toList = fs at hf
  obtain ⟨f0,f1,rfl⟩:=list2sp fs (by have:=congrArg List.length hf; simpa using this)
  · simp only [List.map_cons,List.map_nil,List.cons.injEq,Prod.mk.injEq,and_true] at hf
    obtain ⟨⟨t0,o0,n0⟩,⟨t1,o1,n1⟩⟩:=hf
    have n0' : f0.name ≠ "_" := by simpa using n0
    have n1' : f1.name ≠ "_" := by simpa using n1
    have hi : ∀ (a b : Int) (w : World),(Op.equalIn (d + 1) 3 (.int .i64 a) (.int .i64 b)).run Tryz.prog w = .ok (a == b) w:=fun a b w => run_equalIn_int w d 3 .i64 .i64 a b Tryz.underlying3
    have hstr : ∀ (a b : ByteArray) (w : World),(Op.equalIn (d + 1) 9 (.string a) (.string b)).run Tryz.prog w = .ok (a.toList == b.toList) w:=fun a b w => run_equalIn_string w d _ a b Tryz.underlying9
    have q0 : ∀ (x : Int) (y : ByteArray) (w : World),(part 3 #[.int .i64 x,.string y] 0).run Tryz.prog w = .ok (.int .i64 x) w:=fun _ _ _ => by kernel_rfl
    have q1 : ∀ (x : Int) (y : ByteArray) (w : World),(part 9 #[.int .i64 x,.string y] 1).run Tryz.prog w = .ok (.string y) w:=fun _ _ _ => by kernel_rfl
    simp only [Op.eqFields,t0,o0,t1,o1,ne_eq,n0',n1',not_false_eq_true,if_true,Sem.run_bind,q0,q1,Result.andThen_ok,hi,hstr,Sem.run_ite,Sem.run_pure]
    cases h1 : a == c <;> cases h2 : b.toList == e.toList <;> simp [q1,hi,hstr,h2]
theorem eqIt (a : Int) (b : ByteArray) (c : Int) (e : ByteArray) (w : World) : (Op.equalIn 10000 59 (.agg #[.int .i64 a,.string b]) (.agg #[.int .i64 c,.string e])).run Tryz.prog w = .ok (a == c && b.toList == e.toList) w:=eqItd 9998 a b c e w
def itEq : List (Nat × ByteArray) → List (Nat × ByteArray) → Bool
  | [],[] => true
  | x :: r,y :: q => ((x.1 : Int) == (y.1 : Int) && x.2.toList == y.2.toList) && itEq r q
  | _,_ => false
theorem itEq_self : ∀ x,itEq x x = true
  | [] => rfl
  | x :: r => by simp [itEq,itEq_self r]
theorem itEq_iff : ∀ x y,itEq x y = true ↔ x = y
  | [],[] => by simp [itEq]
  | [],y :: q => by simp [itEq]
  | x :: r,[] => by simp [itEq]
  | x :: r,y :: q => by
    obtain ⟨a,b⟩:=x
    obtain ⟨c,d⟩:=y
    simp only [itEq,Bool.and_eq_true,itEq_iff r q,beq_iff_eq,List.cons.injEq,Prod.mk.injEq]
    constructor
    · rintro ⟨⟨h1,h2⟩,h3⟩; exact ⟨⟨by omega,(ba_beq _ _).1 (by simpa using h2)⟩,h3⟩
    · rintro ⟨⟨h1,h2⟩,h3⟩; exact ⟨⟨by omega,by rw [h2]⟩,h3⟩
theorem itEq_len : ∀ (x y : List (Nat × ByteArray)),x.length ≠ y.length → itEq x y = false:=by
  intro x y h
  cases he : itEq x y with
  | false => rfl
  | true => exact absurd (congrArg List.length ((itEq_iff x y).1 he)) h
theorem itEq_drop : ∀ (x y : List (Nat × ByteArray)) (i : Nat) (n m : Nat × ByteArray),x[i]? = some n → y[i]? = some m → itEq (x.drop i) (y.drop i) = (((n.1 : Int) == (m.1 : Int) && n.2.toList == m.2.toList) && itEq (x.drop (i + 1)) (y.drop (i + 1)))
  | [],y,i,n,m,h,h' => by simp at h
  | x :: r,[],i,n,m,h,h' => by simp at h'
  | x :: r,y :: q,0,n,m,h,h' => by
    simp at h h'
    subst h h'
    rfl
  | x :: r,y :: q,i + 1,n,m,h,h' => by
    simp only [List.drop_succ_cons]
    exact itEq_drop r q i n m (by simpa using h) (by simpa using h')
theorem itms_len (x y : List (Nat × ByteArray)) (a1 a2 : Option Addr) (c1 c2 : Nat) (h1 : x.length ≤ maxLen) (h2 : y.length ≤ maxLen) (hne : x.length ≠ y.length) (w : World) :
    Calls Tryz.prog 16 #[.slice a1 x.length c1,.slice a2 y.length c2] w fun e w' => e = .returned (.bool (itEq x y)) ∧ Below w.heap.size w w':=by
  rw [itEq_len x y hne]
  have hb : ((x.length : Int) != (y.length : Int)) = true:=by rw [bne_iff_ne]; omega
  clear hne
  go_enter Tryz.func16,Tryz.ntmps16
  go_wp2
  go_ret
  exact ⟨rfl,Below.refl _ _⟩
theorem itms_same (x y : List (Nat × ByteArray)) (b1 o1 b2 o2 : Nat) (c1 c2 : Nat) (h1 : x.length ≤ maxLen) (hlen : x.length = y.length) (w : World) (hl1 : b1 < w.heap.size) (hl2 : b2 < w.heap.size) (hx : ItAt w b1 o1 x) (hy : ItAt w b2 o2 y) :
    Calls Tryz.prog 16 #[.slice (some ⟨b1,o1,none⟩) x.length c1,.slice (some ⟨b2,o2,none⟩) x.length c2] w fun e w' => e = .returned (.bool (itEq x y)) ∧ Below w.heap.size w w':=by
  unfold maxLen at h1
  have he:=eqIt
  have HL:=(show Hid _ from hlen)
  clear hlen
  go_enter Tryz.func16,Tryz.ntmps16
  go_wp2
  go_loopw [5] (fun v wr => ∃ i : Nat,i ≤ x.length ∧ v = .int .i64 i ∧ Hid (itEq x y = itEq (x.drop i) (y.drop i)) ∧ Below w.heap.size w wr) (fun v _ => x.length - (intOf v).toNat)
  case atStart => exact ⟨0,by omega,rfl,Eq.refl _,Below.refl _ _⟩
  case round =>
    obtain ⟨i,hi,rfl,HS,hB⟩:=hrel
    by_cases hil : i < x.length
    · obtain ⟨n,hn⟩ : ∃ n,x[i]? = some n:=⟨x[i],List.getElem?_eq_getElem hil⟩
      obtain ⟨m,hm⟩ : ∃ m,y[i]? = some m:=⟨y[i]'(by rw [← HL.out]; exact hil),List.getElem?_eq_getElem (by rw [← HL.out]; exact hil)⟩
      obtain ⟨a0,a1⟩:=(hx.below hB hl1) i n hn
      obtain ⟨d0,d1⟩:=(hy.below hB hl2) i m hm
      have HD : Hid _:=hid (itEq_drop x y i n m hn hm)
      have i0 : (0 : Int) ≤ (i : Int):=by omega
      have i1 : (i : Int) < (x.length : Int):=by omega
      clear hn hm
      obtain ⟨p,hp⟩ : ∃ p,p = ((n.1 : Int) == (m.1 : Int) && n.2.toList == m.2.toList):=⟨_,rfl⟩
      have hq : ∀ w,(Op.equalIn 10000 59 (.agg #[.int .i64 (n.1 : Int),.string n.2]) (.agg #[.int .i64 (m.1 : Int),.string m.2])).run Tryz.prog w = .ok p w:=fun w => by rw [hp]; exact he _ _ _ _ w
      rw [← hp] at HD
      clear he hp
      cases p
      · have HF : Hid (itEq x y = false):=by show _ = _; rw [HS.out,HD.out]; rfl
        go_wp2_with fail
        go_quiet (fail)
        go_wp2
        go_ret
        exact ⟨by rw [HF.out]; rfl,hB.trans ((below_drewN' wr nq).mono hB.size)⟩
      · have HF : Hid (itEq x y = itEq (x.drop (i + 1)) (y.drop (i + 1))):=by show _ = _; rw [HS.out,HD.out]; rfl
        go_wp2_with fail
        go_quiet (fail)
        go_wp2
        exact ⟨⟨i + 1,by omega,by go_num,HF,hB.trans ((below_drewN' wr nq).mono hB.size)⟩,by simp [intOf]; omega⟩
    · have HF : Hid (itEq x y = true):=by
        show _ = _
        have e1 : x.drop i = []:=List.drop_eq_nil_of_le (by omega)
        have e2 : y.drop i = []:=List.drop_eq_nil_of_le (by have:=HL.out; omega)
        rw [HS.out,e1,e2]; rfl
      go_wp2
      go_ret
      exact ⟨by rw [HF.out]; rfl,hB⟩
theorem itms_nil (a1 a2 : Option Addr) (c1 c2 : Nat) (w : World) :
    Calls Tryz.prog 16 #[.slice a1 0 c1,.slice a2 0 c2] w fun e w' => e = .returned (.bool true) ∧ Below w.heap.size w w':=by
  go_enter Tryz.func16,Tryz.ntmps16
  go_wp2
  go_loop [5] (fun v => v = .int .i64 0) (fun _ => 0)
  case atStart => rfl
  case round =>
    subst hrel
    go_wp2
    go_ret
    exact ⟨rfl,Below.refl _ _⟩
theorem itms_any (x y : List (Nat × ByteArray)) (v u : Value) (w : World) (hx : ItIn w v x) (hy : ItIn w u y) :
    Calls Tryz.prog 16 #[v,u] w fun e w' => e = .returned (.bool (itEq x y)) ∧ Below w.heap.size w w':=by
  obtain ⟨a1,c1,rfl,h1,hx⟩:=hx
  obtain ⟨a2,c2,rfl,h2,hy⟩:=hy
  by_cases hlen : x.length = y.length
  · rcases hx with hx | ⟨b1,o1,rfl,hl1,hx⟩
    · subst hx
      have : y = []:=List.eq_nil_of_length_eq_zero (by simpa using hlen.symm)
      subst this
      exact itms_nil a1 a2 c1 c2 w
    · rcases hy with hy | ⟨b2,o2,rfl,hl2,hy⟩
      · subst hy
        have : x = []:=List.eq_nil_of_length_eq_zero (by simpa using hlen)
        subst this
        exact itms_nil _ a2 c1 c2 w
      · rw [← hlen]
        exact itms_same x y b1 o1 b2 o2 c1 c2 h1 hlen w hl1 hl2 hx hy
  · exact itms_len x y a1 a2 c1 c2 h1 h2 hlen w
theorem eqHtd (d : Nat) (k a b k' c e : Int) (w : World) : (Op.equalIn (d + 1 + 1 + 1) 56 (.agg #[.int .i64 k,.int .i64 a,.int .i64 b]) (.agg #[.int .i64 k',.int .i64 c,.int .i64 e])).run Tryz.prog w = .ok (k == k' && (a == c && b == e)) w:=by
  have hs : Tryz.prog.underlying 56 = some (.struct (Tryz.prog.fieldsOf 56)):=by kernel_rfl
  have hp : Tryz.prog.stoodInHeld 56 = false:=by kernel_rfl
  rw [run_equalIn_struct w (d + 1 + 1) _ _ _ hs hp]
  have hf : (Tryz.prog.fieldsOf 56).toList.map (fun f => (f.type, f.offset, f.name == "_")) = [(3, 0, false), (54, 1, false)] := by kernel_rfl
  generalize (Tryz.prog.fieldsOf 56).toList = fs at hf
  obtain ⟨f0,f1,rfl⟩:=list2sp fs (by have:=congrArg List.length hf; simpa using this)
  · simp only [List.map_cons,List.map_nil,List.cons.injEq,Prod.mk.injEq,and_true] at hf
    obtain ⟨⟨t0,o0,n0⟩,⟨t1,o1,n1⟩⟩:=hf
    have n0' : f0.name ≠ "_" := by simpa using n0
    have n1' : f1.name ≠ "_" := by simpa using n1
    have hi : ∀ (a b : Int) (w : World),(Op.equalIn (d + 1 + 1) 3 (.int .i64 a) (.int .i64 b)).run Tryz.prog w = .ok (a == b) w:=fun a b w => run_equalIn_int w (d + 1) 3 .i64 .i64 a b Tryz.underlying3
    have hc : ∀ (a b c e : Int) (w : World),(Op.equalIn (d + 1 + 1) 54 (.agg #[.int .i64 a,.int .i64 b]) (.agg #[.int .i64 c,.int .i64 e])).run Tryz.prog w = .ok (a == c && b == e) w:=fun a b c e w => eqSpd d a b c e w
    have q0 : ∀ (x y z : Int) (w : World),(part 3 #[.int .i64 x,.int .i64 y,.int .i64 z] 0).run Tryz.prog w = .ok (.int .i64 x) w:=fun _ _ _ _ => by kernel_rfl
    have q1 : ∀ (x y z : Int) (w : World),(part 54 #[.int .i64 x,.int .i64 y,.int .i64 z] 1).run Tryz.prog w = .ok (.agg #[.int .i64 y,.int .i64 z]) w:=fun _ _ _ _ => by kernel_rfl
    simp only [Op.eqFields,t0,o0,t1,o1,ne_eq,n0',n1',not_false_eq_true,if_true,Sem.run_bind,q0,q1,Result.andThen_ok,hi,hc,Sem.run_ite,Sem.run_pure]
    cases h1 : k == k' <;> cases h2 : a == c <;> cases h3 : b == e <;> simp [q1,hc,h2,h3]
theorem eqHt (k a b k' c e : Int) (w : World) : (Op.equalIn 10000 56 (.agg #[.int .i64 k,.int .i64 a,.int .i64 b]) (.agg #[.int .i64 k',.int .i64 c,.int .i64 e])).run Tryz.prog w = .ok (k == k' && (a == c && b == e)) w:=eqHtd 9997 k a b k' c e w
def htEq : List (Nat × Nat × Nat) → List (Nat × Nat × Nat) → Bool
  | [],[] => true
  | x :: r,y :: q => ((x.1 : Int) == (y.1 : Int) && ((x.2.1 : Int) == (y.2.1 : Int) && (x.2.2 : Int) == (y.2.2 : Int))) && htEq r q
  | _,_ => false
theorem htEq_self : ∀ x,htEq x x = true
  | [] => rfl
  | x :: r => by simp [htEq,htEq_self r]
theorem htEq_iff : ∀ x y,htEq x y = true ↔ x = y
  | [],[] => by simp [htEq]
  | [],y :: q => by simp [htEq]
  | x :: r,[] => by simp [htEq]
  | x :: r,y :: q => by
    obtain ⟨a,b,b'⟩:=x
    obtain ⟨c,d,d'⟩:=y
    simp only [htEq,Bool.and_eq_true,htEq_iff r q,beq_iff_eq,List.cons.injEq,Prod.mk.injEq]
    constructor
    · rintro ⟨⟨h1,h2,h4⟩,h3⟩; exact ⟨⟨by omega,by omega,by omega⟩,h3⟩
    · rintro ⟨⟨h1,h2,h4⟩,h3⟩; exact ⟨⟨by omega,by omega,by omega⟩,h3⟩
theorem htEq_len : ∀ (x y : List (Nat × Nat × Nat)),x.length ≠ y.length → htEq x y = false:=by
  intro x y h
  cases he : htEq x y with
  | false => rfl
  | true => exact absurd (congrArg List.length ((htEq_iff x y).1 he)) h
theorem htEq_drop : ∀ (x y : List (Nat × Nat × Nat)) (i : Nat) (n m : Nat × Nat × Nat),x[i]? = some n → y[i]? = some m → htEq (x.drop i) (y.drop i) = (((n.1 : Int) == (m.1 : Int) && ((n.2.1 : Int) == (m.2.1 : Int) && (n.2.2 : Int) == (m.2.2 : Int))) && htEq (x.drop (i + 1)) (y.drop (i + 1)))
  | [],y,i,n,m,h,h' => by simp at h
  | x :: r,[],i,n,m,h,h' => by simp at h'
  | x :: r,y :: q,0,n,m,h,h' => by
    simp at h h'
    subst h h'
    rfl
  | x :: r,y :: q,i + 1,n,m,h,h' => by
    simp only [List.drop_succ_cons]
    exact htEq_drop r q i n m (by simpa using h) (by simpa using h')
theorem hits_s_len (x y : List (Nat × Nat × Nat)) (a1 a2 : Option Addr) (c1 c2 : Nat) (h1 : x.length ≤ maxLen) (h2 : y.length ≤ maxLen) (hne : x.length ≠ y.length) (w : World) :
    Calls Tryz.prog 15 #[.slice a1 x.length c1,.slice a2 y.length c2] w fun e w' => e = .returned (.bool (htEq x y)) ∧ Below w.heap.size w w':=by
  rw [htEq_len x y hne]
  have hb : ((x.length : Int) != (y.length : Int)) = true:=by rw [bne_iff_ne]; omega
  clear hne
  go_enter Tryz.func15,Tryz.ntmps15
  go_wp2
  go_ret
  exact ⟨rfl,Below.refl _ _⟩
theorem hits_s_same (x y : List (Nat × Nat × Nat)) (b1 o1 b2 o2 : Nat) (c1 c2 : Nat) (h1 : x.length ≤ maxLen) (hlen : x.length = y.length) (w : World) (hl1 : b1 < w.heap.size) (hl2 : b2 < w.heap.size) (hx : HtAt w b1 o1 x) (hy : HtAt w b2 o2 y) :
    Calls Tryz.prog 15 #[.slice (some ⟨b1,o1,none⟩) x.length c1,.slice (some ⟨b2,o2,none⟩) x.length c2] w fun e w' => e = .returned (.bool (htEq x y)) ∧ Below w.heap.size w w':=by
  unfold maxLen at h1
  have he:=eqHt
  have HL:=(show Hid _ from hlen)
  clear hlen
  go_enter Tryz.func15,Tryz.ntmps15
  go_wp2
  go_loopw [5] (fun v wr => ∃ i : Nat,i ≤ x.length ∧ v = .int .i64 i ∧ Hid (htEq x y = htEq (x.drop i) (y.drop i)) ∧ Below w.heap.size w wr) (fun v _ => x.length - (intOf v).toNat)
  case atStart => exact ⟨0,by omega,rfl,Eq.refl _,Below.refl _ _⟩
  case round =>
    obtain ⟨i,hi,rfl,HS,hB⟩:=hrel
    by_cases hil : i < x.length
    · obtain ⟨n,hn⟩ : ∃ n,x[i]? = some n:=⟨x[i],List.getElem?_eq_getElem hil⟩
      obtain ⟨m,hm⟩ : ∃ m,y[i]? = some m:=⟨y[i]'(by rw [← HL.out]; exact hil),List.getElem?_eq_getElem (by rw [← HL.out]; exact hil)⟩
      obtain ⟨a0,a1,a2⟩:=(hx.below hB hl1) i n hn
      obtain ⟨d0,d1,d2⟩:=(hy.below hB hl2) i m hm
      have HD : Hid _:=hid (htEq_drop x y i n m hn hm)
      have i0 : (0 : Int) ≤ (i : Int):=by omega
      have i1 : (i : Int) < (x.length : Int):=by omega
      clear hn hm
      obtain ⟨p,hp⟩ : ∃ p,p = ((n.1 : Int) == (m.1 : Int) && ((n.2.1 : Int) == (m.2.1 : Int) && (n.2.2 : Int) == (m.2.2 : Int))):=⟨_,rfl⟩
      have hq : ∀ w,(Op.equalIn 10000 56 (.agg #[.int .i64 (n.1 : Int),.int .i64 (n.2.1 : Int),.int .i64 (n.2.2 : Int)]) (.agg #[.int .i64 (m.1 : Int),.int .i64 (m.2.1 : Int),.int .i64 (m.2.2 : Int)])).run Tryz.prog w = .ok p w:=fun w => by rw [hp]; exact he _ _ _ _ _ _ w
      rw [← hp] at HD
      clear he hp
      cases p
      · have HF : Hid (htEq x y = false):=by show _ = _; rw [HS.out,HD.out]; rfl
        go_wp2_with fail
        go_quiet (fail)
        go_wp2
        go_ret
        exact ⟨by rw [HF.out]; rfl,hB.trans ((below_drewN' wr nq).mono hB.size)⟩
      · have HF : Hid (htEq x y = htEq (x.drop (i + 1)) (y.drop (i + 1))):=by show _ = _; rw [HS.out,HD.out]; rfl
        go_wp2_with fail
        go_quiet (fail)
        go_wp2
        exact ⟨⟨i + 1,by omega,by go_num,HF,hB.trans ((below_drewN' wr nq).mono hB.size)⟩,by simp [intOf]; omega⟩
    · have HF : Hid (htEq x y = true):=by
        show _ = _
        have e1 : x.drop i = []:=List.drop_eq_nil_of_le (by omega)
        have e2 : y.drop i = []:=List.drop_eq_nil_of_le (by have:=HL.out; omega)
        rw [HS.out,e1,e2]; rfl
      go_wp2
      go_ret
      exact ⟨by rw [HF.out]; rfl,hB⟩
theorem hits_s_nil (a1 a2 : Option Addr) (c1 c2 : Nat) (w : World) :
    Calls Tryz.prog 15 #[.slice a1 0 c1,.slice a2 0 c2] w fun e w' => e = .returned (.bool true) ∧ Below w.heap.size w w':=by
  go_enter Tryz.func15,Tryz.ntmps15
  go_wp2
  go_loop [5] (fun v => v = .int .i64 0) (fun _ => 0)
  case atStart => rfl
  case round =>
    subst hrel
    go_wp2
    go_ret
    exact ⟨rfl,Below.refl _ _⟩
theorem hits_s_any (x y : List (Nat × Nat × Nat)) (v u : Value) (w : World) (hx : HtIn w v x) (hy : HtIn w u y) :
    Calls Tryz.prog 15 #[v,u] w fun e w' => e = .returned (.bool (htEq x y)) ∧ Below w.heap.size w w':=by
  obtain ⟨a1,c1,rfl,h1,hx⟩:=hx
  obtain ⟨a2,c2,rfl,h2,hy⟩:=hy
  by_cases hlen : x.length = y.length
  · rcases hx with hx | ⟨b1,o1,rfl,hl1,hx⟩
    · subst hx
      have : y = []:=List.eq_nil_of_length_eq_zero (by simpa using hlen.symm)
      subst this
      exact hits_s_nil a1 a2 c1 c2 w
    · rcases hy with hy | ⟨b2,o2,rfl,hl2,hy⟩
      · subst hy
        have : x = []:=List.eq_nil_of_length_eq_zero (by simpa using hlen)
        subst this
        exact hits_s_nil _ a2 c1 c2 w
      · rw [← hlen]
        exact hits_s_same x y b1 o1 b2 o2 c1 c2 h1 hlen w hl1 hl2 hx hy
  · exact hits_s_len x y a1 a2 c1 c2 h1 h2 hlen w
def Stp3.cells (n : Stp3) : List Value:=[.int .i64 n.what,.string n.text,.int .i64 n.n]
def Stp3.wf (n : Stp3) : Prop:=(Lit.int .i64 n.what).wf = true ∧ n.text.size ≤ maxLen ∧ (Lit.int .i64 n.n).wf = true
instance : Inhabited Stp3:=⟨⟨0,⟨#[]⟩,0⟩⟩
def PlAt (w : World) (b off : Nat) (ss : List Stp3) : Prop:=∀ i n,ss[i]? = some n → w.cell? ⟨b,off + i * 3,none⟩ = some (.int .i64 n.what) ∧ w.cell? ⟨b,off + i * 3 + 1,none⟩ = some (.string n.text) ∧ w.cell? ⟨b,off + i * 3 + 2,none⟩ = some (.int .i64 n.n)
def PlIn (w : World) (v : Value) (ss : List Stp3) : Prop:=∃ a cap,v = .slice a ss.length cap ∧ ss.length ≤ maxLen ∧ (ss = [] ∨ ∃ b off,a = some ⟨b,off,none⟩ ∧ b < w.heap.size ∧ PlAt w b off ss)
theorem PlAt.below {w w' : World} {B b off : Nat} {ss : List Stp3} (h : PlAt w b off ss) (hb : Below B w w') (hlt : b < B) : PlAt w' b off ss:=fun i n hn =>
  ⟨(hb.cell (p:=⟨b,_,none⟩) hlt).trans (h i n hn).1,(hb.cell (p:=⟨b,_,none⟩) hlt).trans (h i n hn).2.1,(hb.cell (p:=⟨b,_,none⟩) hlt).trans (h i n hn).2.2⟩
theorem PlIn.below {w w' : World} {v : Value} {ss : List Stp3} (h : PlIn w v ss) (hb : Below w.heap.size w w') : PlIn w' v ss:=by
  obtain ⟨a,cap,rfl,hm,h | ⟨b,off,rfl,hlt,hn⟩⟩:=h
  · exact ⟨a,cap,rfl,hm,Or.inl h⟩
  · exact ⟨_,cap,rfl,hm,Or.inr ⟨b,off,rfl,Nat.lt_of_lt_of_le hlt hb.size,hn.below hb hlt⟩⟩
theorem new_heap (w : World) (o : Obj) : (w.alloc o).heap[w.heap.size]? = some o:=by
  show (w.heap.push o)[w.heap.size]? = _
  simp
structure Sy (Sv : (Nat → Prop) → World → Value → SetS → Prop) (w : World) (u : Value) (mb : Nat) (F : Nat → Prop) (iv pv : Value) (vs : List Value) (σm σs : SetS) (xb : Nat) (xo : Obj) (wr : World) : Prop where
  s : Sv F wr u σs
  m : RsI w.heap.size mb iv pv vs σm wr
  off : ∀ k,F k → ¬ Foot mb iv pv vs k
  lo : ∀ k,F k → w.heap.size ≤ k
  b : Below w.heap.size w wr
  x : wr.heap[xb]? = some xo
  xF : ¬ F xb
  xM : ¬ Foot mb iv pv vs xb
theorem Sy.below {X : World → Prop} {Sv : (Nat → Prop) → World → Value → SetS → Prop} (S : SetC X Sv) {w : World} {u : Value} {mb : Nat} {F : Nat → Prop} {iv pv : Value} {vs : List Value} {σm σs : SetS} {xb : Nat} {xo : Obj} {wr w' : World} (h : Sy Sv w u mb F iv pv vs σm σs xb xo wr) (hb : Below wr.heap.size wr w') : Sy Sv w u mb F iv pv vs σm σs xb xo w' :=
  ⟨S.keep F (fun _ => False) wr w' u σs h.s (But.below hb) (fun _ h => h.elim),h.m.below hb,h.off,h.lo,h.b.trans (hb.mono h.b.size),(hb.block _ (hp_lt h.x)).trans h.x,h.xF,h.xM⟩
theorem Sy.box {X : World → Prop} {Sv : (Nat → Prop) → World → Value → SetS → Prop} (S : SetC X Sv) {w : World} {u : Value} {mb : Nat} {F : Nat → Prop} {iv pv : Value} {vs : List Value} {σm σs : SetS} {xb : Nat} {xo : Obj} {wr : World} (h : Sy Sv w u mb F iv pv vs σm σs xb xo wr) (o : Obj) : Sy Sv w u mb F iv pv vs σm σs wr.heap.size o (wr.alloc o):=by
  have h1:=h.below S ((Below.refl _ _).alloc (Nat.le_refl _) o)
  exact ⟨h1.s,h1.m,h1.off,h1.lo,h1.b,new_heap wr o,fun hf => by have:=S.lt F wr u σs h.s _ hf; omega,fun hf => by have:=(h.m.lt hf).2; omega⟩
theorem Sy.stepM {X : World → Prop} {Sv : (Nat → Prop) → World → Value → SetS → Prop} (S : SetC X Sv) {w : World} {u : Value} {mb : Nat} {F : Nat → Prop} {iv pv iv' pv' : Value} {vs vs' : List Value} {σm σm' σs : SetS} {xb : Nat} {xo : Obj} {wr w' : World} (h : Sy Sv w u mb F iv pv vs σm σs xb xo wr) (hm : RsI w.heap.size mb iv' pv' vs' σm' w') (hb : But (Foot mb iv pv vs) wr w') (ho : Onto (Foot mb iv pv vs) (Foot mb iv' pv' vs') wr) : Sy Sv w u mb F iv' pv' vs' σm' σs xb xo w' where
  s:=S.keep F _ wr w' u σs h.s hb (fun k hk hf => h.off k hf hk)
  m:=hm
  off:=fun k hf hk => by
    rcases ho k hk with h1 | h1
    · exact h.off k hf h1
    · have:=S.lt F wr u σs h.s k hf
      omega
  lo:=h.lo
  b:=h.b.trans (hb.to h.b.size (fun k hk => (h.m.lt hk).1))
  x:=(hb.block _ (hp_lt h.x) h.xM).trans h.x
  xF:=h.xF
  xM:=fun hk => by
    rcases ho _ hk with h1 | h1
    · exact h.xM h1
    · have:=hp_lt h.x
      omega
theorem Sy.stepS {X : World → Prop} {Sv : (Nat → Prop) → World → Value → SetS → Prop} (S : SetC X Sv) {w : World} {u : Value} {mb : Nat} {F F' : Nat → Prop} {iv pv : Value} {vs : List Value} {σm σs σs' : SetS} {xb : Nat} {xo : Obj} {wr w' : World} (h : Sy Sv w u mb F iv pv vs σm σs xb xo wr) (hs : Sv F' w' u σs') (hb : But F wr w') (ho : Onto F F' wr) : Sy Sv w u mb F' iv pv vs σm σs' xb xo w' where
  s:=hs
  m:=h.m.keep hb (fun k hf hk => h.off k hf hk)
  off:=fun k hf hk => by
    rcases ho k hf with h1 | h1
    · exact h.off k h1 hk
    · have:=(h.m.lt hk).2
      omega
  lo:=fun k hf => by
    rcases ho k hf with h1 | h1
    · exact h.lo k h1
    · have:=h.b.size
      omega
  b:=h.b.trans (hb.to h.b.size h.lo)
  x:=(hb.block _ (hp_lt h.x) h.xF).trans h.x
  xF:=fun hf => by
    rcases ho _ hf with h1 | h1
    · exact h.xF h1
    · have:=hp_lt h.x
      omega
  xM:=h.xM
theorem Sy.items {Sv : (Nat → Prop) → World → Value → SetS → Prop} {w : World} {u : Value} {mb : Nat} {F : Nat → Prop} {iv pv : Value} {vs : List Value} {σm σs : SetS} {xb : Nat} {xo : Obj} {wr : World} (h : Sy Sv w u mb F iv pv vs σm σs xb xo wr) (ho : σm.Ok) : ItIn wr iv σm.items:=h.m.items.isIn (by rw [SetS.items_len]; have:=ho.len; unfold maxLen; omega)
theorem rs_new (B : Nat) (w : World) (hB : B ≤ w.heap.size) : RsI B w.heap.size (.slice none 0 0) (.slice none 0 0) [] set0 (w.alloc (.cells #[.slice none 0 0,.slice none 0 0,.int .i64 0,.bool false,.int .i64 0] 29)) :=
  ⟨new_heap w _,ItOwn.nil _ _,VsOwn.nil _ _,trivial,hB⟩
end Go.Proofs.YtcjghhedphmhkaaGreatDoor
