/- Own texts. -/
import Derived.Test.YtcjghhedphmhkaaGreatDoorY11
import Derived.LaidEql
import Derived.Laws.CopyRow
import Derived.BigRegion
set_option linter.unusedSimpArgs false
set_option linter.unusedVariables false
set_option maxRecDepth 100000
set_option maxHeartbeats 8000000
namespace Go.Proofs.YtcjghhedphmhkaaGreatDoor
open Go.RowKit
theorem pof_bad (ns : List Nd) (v : Value) (w : World) (h : NsIn w v ns) (hf : ¬ faultL ns = 0) :
    Calls Tryz.prog 49 #[v] w fun e w' => ∃ a cap,e = .returned (.tuple #[.slice a 0 cap,errV (faultL ns)]) ∧ Below w.heap.size w w':=by
  have HC:=hid (rcheck_any ns v w h)
  have e0 : errV (faultL ns) = .iface 32 (.int .i64 (faultL ns)):=by unfold errV; rw [if_neg hf]
  rw [e0] at HC
  have HE:=hid e0
  clear h e0
  go_enter Tryz.func49,Tryz.ntmps49
  go_wp2_with fail
  refine Calls.mono HC.out ?_
  rintro e w1 ⟨rfl,hb1⟩
  have HB:=hid hb1
  clear hb1 HC
  go_wp2
  go_ret2
  exact ⟨none,0,by rw [HE.out]; rfl,HB.out⟩
theorem pof_tree (t : Rx) (ht : t.Ok) (v : Value) (w : World) (h : NsIn w v t.flat) (hf : faultL t.flat = 0) :
    Calls Tryz.prog 49 #[v] w fun e w' => ∃ u,e = .returned (.tuple #[u,.nilIface]) ∧ SsIn w' u t.prog ∧ Below w.heap.size w w':=by
  have HC:=hid (rcheck_any t.flat v w h)
  rw [hf] at HC
  have e0 : errV 0 = .nilIface:=rfl
  rw [e0] at HC
  clear e0
  obtain ⟨hl,hop,-⟩:=(faultL_zero t.flat).1 hf
  have hpos:=t.flat_pos
  obtain ⟨a,cap,rfl,hm,h | ⟨b,off,rfl,hlt,hN⟩⟩:=h
  · rw [h] at hpos; simp at hpos
  have hcl:=t.cod_len 0
  have HP:=hid (bpart_tree b off cap t ht [] [] (fun n hn => (hop n hn).1) (by simpa using hl))
  rw [show ([] : List Nd) ++ t.flat ++ [] = t.flat from by simp] at HP
  have HN:=hid hN
  clear hN hop hf hm
  go_enter Tryz.func49,Tryz.ntmps49
  go_wp2_with fail
  refine Calls.mono HC.out ?_
  rintro e w1 ⟨rfl,hb1⟩
  have HB1:=hid hb1
  clear hb1 HC
  go_wp2_with fail
  obtain ⟨o,ho⟩ : ∃ o : Obj,o = .cells #[.slice (some ⟨b,off,none⟩) t.flat.length cap,.slice none 0 0] 155:=⟨_,rfl⟩
  have hBB : BB (w1.alloc o) w1.heap.size (.slice (some ⟨b,off,none⟩) t.flat.length cap) []:=by
    refine ⟨.slice none 0 0,?_,⟨rfl,Or.inl ⟨rfl,rfl⟩⟩⟩
    show (w1.alloc o).heap[w1.heap.size]? = _
    rw [ho]
    exact heap_alloc_new w1 _
  have hb1 : b < w1.heap.size:=Nat.lt_of_lt_of_le hlt HB1.out.size
  have hN1 : NsAt (w1.alloc o) b off t.flat:=(HN.out.below HB1.out hlt).below ((Below.refl _ _).alloc (Nat.le_refl _) _) hb1
  have HP1:=hid (HP.out w1.heap.size [] (w1.alloc o) hBB hb1 hN1 (by simp; omega))
  rw [← ho]
  clear hBB hN1 ho HN HP
  refine Calls.mono HP1.out ?_
  rintro e w2 ⟨rfl,h2,hb2⟩
  have HA:=hid (add_any _ _ _ stD w2 h2 (by simp; omega))
  have HB2 : Hid (Below w1.heap.size w1 w2):=((Below.refl _ _).alloc (Nat.le_refl _) o).trans hb2
  clear h2 hb2 HP1
  go_wp2_with fail
  refine Calls.mono HA.out ?_
  rintro e w3 ⟨rfl,h3,hb3⟩
  have HB3 : Hid (Below w.heap.size w w3):=HB1.out.trans ((HB2.out.trans hb3).mono HB1.out.size)
  obtain ⟨sv,hbl,hso⟩:=h3.of
  obtain ⟨c0,c1,f1⟩:=hbl.all
  have HI : Hid (SsIn w3 sv t.prog):=by
    show SsIn w3 sv t.prog
    have:=hso.isIn (by unfold maxLen; simp; omega)
    simpa [Rx.prog] using this
  obtain ⟨a3,cap3,hsv⟩:=hso.len
  rw [show (([] : List St) ++ t.cod ([] : List St).length ++ [stD]).length = (t.cod 0).length + 1 from by simp] at hsv
  subst hsv
  clear h3 hb3 hbl hso HB2 HB1 HA
  go_wp2
  go_ret2
  exact ⟨_,rfl,HI.out,HB3.out⟩

theorem cod_cls : ∀ (t : Rx) (p : Nat),∀ m ∈ t.cod p,m.c = z4 ∨ ∃ n ∈ t.flat,m.c = n.c
  | .leaf n,p => by
    intro m hm
    simp only [Rx.cod] at hm
    split at hm
    · simp at hm; subst hm; exact Or.inr ⟨n,by simp [Rx.flat],rfl⟩
    · split at hm
      · simp at hm; subst hm; exact Or.inl rfl
      · split at hm
        · simp at hm; subst hm; exact Or.inl rfl
        · cases hm
  | .one n a,p => by
    intro m hm
    have h : ∀ q,m ∈ a.cod q → m.c = z4 ∨ ∃ n' ∈ (Rx.one n a).flat,m.c = n'.c:=fun q hq => by
      rcases cod_cls a q m hq with h | ⟨n',h1,h2⟩
      · exact Or.inl h
      · exact Or.inr ⟨n',by simp [Rx.flat,h1],h2⟩
    simp only [Rx.cod] at hm
    split at hm
    · simp only [List.mem_cons,List.mem_append,List.not_mem_nil,or_false] at hm
      rcases hm with rfl | hm | rfl
      · exact Or.inl rfl
      · exact h _ hm
      · exact Or.inl rfl
    · split at hm
      · simp only [List.mem_cons,List.mem_append,List.not_mem_nil,or_false] at hm
        rcases hm with hm | rfl
        · exact h _ hm
        · exact Or.inl rfl
      · simp only [List.mem_cons] at hm
        rcases hm with rfl | hm
        · exact Or.inl rfl
        · exact h _ hm
  | .two n a b,p => by
    intro m hm
    have ha : ∀ q,m ∈ a.cod q → m.c = z4 ∨ ∃ n' ∈ (Rx.two n a b).flat,m.c = n'.c:=fun q hq => by
      rcases cod_cls a q m hq with h | ⟨n',h1,h2⟩
      · exact Or.inl h
      · exact Or.inr ⟨n',by simp [Rx.flat,h1],h2⟩
    have hb : ∀ q,m ∈ b.cod q → m.c = z4 ∨ ∃ n' ∈ (Rx.two n a b).flat,m.c = n'.c:=fun q hq => by
      rcases cod_cls b q m hq with h | ⟨n',h1,h2⟩
      · exact Or.inl h
      · exact Or.inr ⟨n',by simp [Rx.flat,h1],h2⟩
    simp only [Rx.cod] at hm
    split at hm
    · rcases List.mem_append.1 hm with hm | hm
      · exact ha _ hm
      · exact hb _ hm
    · simp only [List.mem_cons,List.mem_append] at hm
      rcases hm with rfl | hm | rfl | hm
      · exact Or.inl rfl
      · exact ha _ hm
      · exact Or.inl rfl
      · exact hb _ hm
theorem z4_wf : z4.wf:=⟨by decide,by decide,by decide,by decide⟩
theorem int_wf {z : Int} (h0 : -9223372036854775808 ≤ z) (h1 : z ≤ 9223372036854775807) : (Lit.int .i64 z).wf = true:=by
  have e1 : IntKind.i64.min = -9223372036854775808:=by decide
  have e2 : IntKind.i64.max = 9223372036854775807:=by decide
  simp only [Lit.wf,e1,e2,h0,h1,decide_true,Bool.and_self]
theorem prog_wf (t : Rx) (hl : t.flat.length ≤ 60) (hw : ∀ n ∈ t.flat,n.wf) : ∀ m ∈ t.prog,m.wf:=by
  intro m hm
  have hc:=t.cod_len 0
  unfold Rx.prog at hm
  rcases List.mem_append.1 hm with hm | hm
  · obtain ⟨h1,h2,h3,_,_⟩:=cod_ok t 0 m hm
    refine ⟨int_wf (by omega) (by omega),?_,int_wf (by omega) (by omega),int_wf (by omega) (by omega)⟩
    rcases cod_cls t 0 m hm with h | ⟨n,hn,h⟩
    · rw [h]; exact z4_wf
    · rw [h]; exact (hw n hn).2
  · rw [List.mem_singleton] at hm
    subst hm
    exact ⟨by decide,z4_wf,by decide,by decide⟩
def AuN (c : Ax) (w : World) : Prop:=∃ g m K Mb k,AuI c g m K Mb k w
theorem AuN.below {c : Ax} {w w' : World} (h : AuN c w) (hb : Below w.heap.size w w') : AuN c w':=by
  obtain ⟨g,m,K,Mb,k,h⟩:=h
  exact ⟨g,m,K,Mb,k,h.below hb⟩
theorem AuN.size {c : Ax} {w : World} (h : AuN c w) : c.B < w.heap.size ∧ c.ab < w.heap.size ∧ c.b < w.heap.size ∧ c.B ≤ c.ab ∧ c.B ≤ c.b:=by
  obtain ⟨g,m,K,Mb,k,h⟩:=h
  exact ⟨h.size,heap_lt h.au,h.blt,h.lo.2.2.1,h.lo.2.2.2⟩
theorem growF_cell (w : World) (a : Addr) (u : Value) : w.grownBy (w.setCell a u) (some a.block) :=
  ⟨rfl,rfl,rfl,by simp,fun k _ hk => heap_setCell_other w a k u (fun e => hk (by rw [e]))⟩
structure Kd (ab : Nat) (w w' : World) : Prop where
  size : w.heap.size ≤ w'.heap.size
  same : ∀ k o,w.heap[k]? = some o → o.isCells = true → k ≠ ab → w'.heap[k]? = some o
theorem Kc.kd {c : Ax} {w w' : World} (h : Kc c w w') : Kd c.ab w w':=⟨h.size,h.same⟩
theorem AuN.box {c : Ax} {w w' : World} (h : AuN c w) {x : Nat} {cs : Array Value} {T : TypeId} {o : Nat × Nat} (hx : w.heap[x]? = some (.cells cs T o)) (h1 : T ≠ 210) (h2 : T ≠ 166) (h3 : x ≠ c.b) (hg : w.grownBy w' (some x)) : AuN c w':=by
  obtain ⟨g,m,K,Mb,k,h⟩:=h
  have km : ∀ {kt M n ok},Km w kt M n ok → Km w' kt M n ok:=fun {kt M n ok} hk => hk.kept hg (by
    intro e
    injection e with e
    obtain ⟨es,cl,hh⟩:=hk.heap
    rw [e,hx] at hh
    cases hh)
  have hab : c.ab ≠ x:=fun e => by
    have:=h.au
    rw [e,hx] at this
    injection this with this
    injection this with _ q _
    exact h2 q
  refine ⟨g,m,K,Mb,k,?_⟩
  exact {
    au:=(hg.block _ (heap_lt h.au) (by intro e; injection e with e; exact hab e)).trans h.au
    steps:=h.steps.grown hg h.blt (by intro e; injection e with e; exact h3 e.symm)
    blt:=Nat.lt_of_lt_of_le h.blt hg.size
    kn:=km h.kn
    k100:=h.k100
    bg:=by obtain ⟨kb,h1⟩:=h.bg; exact ⟨kb,km h1⟩
    sub:=h.sub
    st:=fun σ p e => (hg.block _ (heap_lt (h.st σ p e)) (by
      intro e'
      injection e' with e'
      have:=h.st σ p e
      rw [e',hx] at this
      injection this with this
      injection this with _ q _
      exact h1 q)).trans (h.st σ p e)
    mv:=fun σ p e => by obtain ⟨kn,h1⟩:=h.mv σ p e; exact ⟨kn,km h1⟩
    inj:=h.inj
    mK:=h.mK
    KM:=h.KM
    lo:=h.lo
    loS:=h.loS
    out:=fun k e => ⟨Nat.lt_of_lt_of_le (h.out k e).1 hg.size,(h.out k e).2⟩
    outS:=h.outS }
theorem finderOf_bad (ns : List Nd) (v : Value) (w : World) (h : NsIn w v ns) (hf : ¬ faultL ns = 0) :
    Calls Tryz.prog 35 #[v] w fun e w' => e = .returned (.tuple #[.agg #[.pointer none],errV (faultL ns)]) ∧ Below w.heap.size w w':=by
  have HC : Hid (∀ w',Below w.heap.size w w' → _):=fun w' hb => pof_bad ns v w' (h.below hb) hf
  rw [show errV (faultL ns) = .iface 32 (.int .i64 (faultL ns)) by unfold errV; rw [if_neg hf]] at HC ⊢
  have HB0 : Hid (∀ o,Below w.heap.size w (w.alloc o)):=fun o => (Below.refl _ _).alloc (Nat.le_refl _) o
  obtain ⟨va,vc,rfl,vm⟩:=nsIn_form h
  clear h hf
  go_enter Tryz.func35,Tryz.ntmps35
  go_wp2_with fail
  refine Calls.mono (HC.out _ (HB0.out _)) ?_
  rintro e w1 ⟨a1,c1,rfl,hb⟩
  have B1:=hid ((HB0.out _).trans (hb.mono (HB0.out _).size))
  obtain ⟨d0,f0⟩ : w1.cell? ⟨w.heap.size,0,none⟩ = some (.pointer none) ∧ w1.frozen? ⟨w.heap.size,0,none⟩ = false:=⟨cell_later hb (by simp),(hb.frozen (p:=⟨w.heap.size,0,none⟩) (by simp)).trans (by simp)⟩
  clear hb HC HB0
  go_wp2
  refine bodyPost_ret (v:=.tuple #[.agg #[.pointer none],.iface 32 (.int .i64 (faultL ns))]) (by simp [results,Tryz.results35,go_sem, *]) rfl ⟨rfl,?_⟩
  exact B1.out.setCell (p:=⟨w.heap.size,0,none⟩) (Nat.le_refl _) _
theorem goodA_of {c : Ax} (t : Rx) (hss : c.ss = t.prog) (wN : ∀ n ∈ t.flat,n.wf) (hf : faultL t.flat = 0) {w : World} (hT : Tab w) (hB : w.heap.size ≤ c.B) : c.Good:=by
  obtain ⟨h60,-,-⟩:=(faultL_zero t.flat).1 hf
  refine ⟨by rw [hss]; exact prog_fault t h60,fun n hn => C4.wf_ok (prog_wf t h60 wN n (by rw [← hss]; exact hn)).2.1,Nat.lt_of_lt_of_le (tab_lt hT) hB⟩
theorem finderOf_ok (t : Rx) (ht : t.Ok) (v : Value) (w : World) (h : NsIn w v t.flat) (hf : faultL t.flat = 0) :
    Calls Tryz.prog 35 #[v] w fun e w' => ∃ c : Ax,c.ss = t.prog ∧ w.heap.size ≤ c.B ∧ e = .returned (.tuple #[.agg #[c.u],.nilIface]) ∧ Below w.heap.size w w' ∧ AuN c w':=by
  obtain ⟨h60,hops,-⟩:=(faultL_zero t.flat).1 hf
  have HPF:=hid (prog_fault t h60)
  have HC : Hid (∀ w',Below w.heap.size w w' → _):=fun w' hb => pof_tree t ht v w' (h.below hb) hf
  have HN : Hid (∀ u w',SsIn w' u t.prog → _):=fun u w' hs => new_ok t.prog u w' HPF.out hs
  have HB0 : Hid (∀ o,Below w.heap.size w (w.alloc o)):=fun o => (Below.refl _ _).alloc (Nat.le_refl _) o
  obtain ⟨va,vc,rfl,vm⟩:=nsIn_form h
  clear h hf hops h60
  go_enter Tryz.func35,Tryz.ntmps35
  go_wp2_with fail
  refine Calls.mono (HC.out _ (HB0.out _)) ?_
  rintro e w1 ⟨u1,rfl,hs,hb⟩
  have B1:=hid ((HB0.out _).trans (hb.mono (HB0.out _).size))
  have D1 : Hid (w1.heap[w.heap.size]? = some (.cells #[.pointer none] 87 (0,0))):=(hb.block w.heap.size (by simp)).trans (World.alloc_heap_new w _)
  have HS:=hid (HN.out u1 w1 hs)
  obtain ⟨a1,c1,rfl,-⟩:=ssIn_form hs
  have HL : Hid (w.heap.size < w1.heap.size):=heap_lt D1.out
  clear hb HC HB0 HN hs
  go_wp2_with fail
  refine Calls.mono HS.out ?_
  rintro e w2 ⟨c,hss,hcB,rfl,hb,K,Mb,hA⟩
  have B2:=hid (B1.out.trans (hb.mono B1.out.size))
  have D2:=hid ((hb.block _ HL.out).trans D1.out)
  have HA : Hid (AuN c w2):=⟨_,_,_,_,_,hA⟩
  have HCS : Hid (c.ss = t.prog ∧ c.B = w1.heap.size):=⟨hss,hcB⟩
  have d0:=Lib.cell_of_heap D2.out 0
  simp only [List.getElem?_toArray,List.getElem?_cons_zero,List.getElem?_cons_succ] at d0
  have f0 : w2.frozen? ⟨w.heap.size,0,none⟩ = false:=Lib.frozen_of_heap D2.out 0
  clear hb hA HS hss hcB D1
  go_wp2
  refine bodyPost_ret (v:=.tuple #[.agg #[c.u],.nilIface]) (by simp [results,Tryz.results35,go_sem, *]) rfl ⟨c,HCS.out.1,?_,rfl,?_,?_⟩
  · rw [HCS.out.2]; exact Nat.le_of_lt HL.out
  · exact B2.out.setCell (p:=⟨w.heap.size,0,none⟩) (Nat.le_refl _) _
  · refine HA.out.box D2.out (by decide) (by decide) ?_ (growF_cell w2 ⟨w.heap.size,0,none⟩ _)
    have:=HA.out.size
    have:=HCS.out.2
    have:=HL.out
    omega
theorem two_set (w : World) (b : Nat) (x y u v : Value) (h0 : w.cell? ⟨b,0,none⟩ = some u) (h1 : w.cell? ⟨b,1,none⟩ = some v) :
    ((w.setCell ⟨b,0,none⟩ x).setCell ⟨b,1,none⟩ y).cell? ⟨b,0,none⟩ = some x ∧ ((w.setCell ⟨b,0,none⟩ x).setCell ⟨b,1,none⟩ y).cell? ⟨b,1,none⟩ = some y:=by
  have e1 : (w.setCell ⟨b,0,none⟩ x).cell? ⟨b,1,none⟩ = some v:=by
    rw [World.cell?_setCell_other _ _ _ _ (by simp)]
    exact h1
  refine ⟨?_,World.cell?_setCell_same _ _ _ e1⟩
  rw [World.cell?_setCell_other _ _ _ _ (by simp)]
  exact World.cell?_setCell_same _ _ _ h0
theorem two_grown (w : World) (b : Nat) (x y : Value) : w.grownBy ((w.setCell ⟨b,0,none⟩ x).setCell ⟨b,1,none⟩ y) (some b):=(growF_cell w ⟨b,0,none⟩ x).trans (growF_cell _ ⟨b,1,none⟩ y)
theorem first_bad (c : Ax) (s : ByteArray) (i : Int) (w : World) (hs : s.size ≤ maxLen) (hp : ¬ plE s.size i = 0) :
    Calls Tryz.prog 51 #[.agg #[c.u],.string s,.int .i64 i] w fun e w' => e = .returned (.tuple #[spV (0,0),errV (plE s.size i)]) ∧ Below w.heap.size w w':=by
  have HC : Hid (∀ w',_):=fun w' => along_bad c s i w' hs hp
  rw [show errV (plE s.size i) = .iface 32 (.int .i64 (plE s.size i)) by unfold errV; rw [if_neg hp]] at HC ⊢
  clear hs hp
  go_enter Tryz.func51,Tryz.ntmps51
  go_wp2_with fail
  refine wp_loop_rounds 1 ?_
  rw [rounds_succ]
  go_wp2_with fail
  refine Calls.mono (HC.out _) ?_
  rintro e w1 ⟨rfl,hb⟩
  have B1 : Hid (Below w.heap.size w w1):=hid ((((Below.refl _ _).alloc (Nat.le_refl _) _).alloc (by simp) _).trans (hb.mono (by simp; omega)))
  have ho : w1.heap[w.heap.size + 1]? = some (.cells #[.int .i64 0,.int .i64 0] 54 (0,0)):=(hb.block (w.heap.size + 1) (by simp)).trans (by
    have:=World.alloc_heap_new (w.alloc (.cells #[c.u] 87)) (.cells #[.int .i64 0,.int .i64 0] 54)
    rwa [World.size_alloc] at this)
  have d0:=Lib.cell_of_heap ho 0
  have d1:=Lib.cell_of_heap ho 1
  have f0:=Lib.frozen_of_heap ho 0
  have f1:=Lib.frozen_of_heap ho 1
  simp only [List.getElem?_toArray,List.getElem?_cons_zero,List.getElem?_cons_succ] at d0 d1
  clear hb ho HC
  have R:=two_set w1 (w.heap.size + 1) (.int .i64 0) (.int .i64 0) _ _ d0 d1
  have BX : Hid (Below w.heap.size w ((w1.setCell ⟨w.heap.size + 1,0,none⟩ (.int .i64 0)).setCell ⟨w.heap.size + 1,1,none⟩ (.int .i64 0))):=(B1.out.setCell (p:=⟨w.heap.size + 1,0,none⟩) (by simp) _).setCell (p:=⟨w.heap.size + 1,1,none⟩) (by simp) _
  obtain ⟨r0,r1⟩:=R
  go_wp2
  refine bodyPost_ret (v:=.tuple #[.agg #[.int .i64 0,.int .i64 0],.iface 32 (.int .i64 (plE s.size i))]) (by simp [results,Tryz.results51,go_sem, *]) rfl ⟨rfl,BX.out⟩
structure FfI (c : Ax) (t : Rx) (s : ByteArray) (r : Option (Nat × Nat)) (w : World) (a : Nat) (wr : World) : Prop where
  au : AuN c wr
  fin : wr.heap[w.heap.size]? = some (.cells #[c.u] 87 (0,0))
  out : wr.heap[w.heap.size + 1]? = some (.cells #[.int .i64 0,.int .i64 0] 54 (0,0))
  kc : ∀ k o,w.heap[k]? = some o → o.isCells = true → k ≠ c.ab → wr.heap[k]? = some o
  b : Below c.B w wr
  fnd : FndR s.data.toList t a r
theorem first_ok (c : Ax) (hc : c.Good) (t : Rx) (ht : t.Ok) (hss : c.ss = t.prog) (ho : ∀ n ∈ t.flat,1 ≤ n.op ∧ n.op ≤ 9) (s : ByteArray) (hs : s.size ≤ 400) (i : Nat) (hi : i ≤ s.size) (r : Option (Nat × Nat)) (hr : FndR s.data.toList t i r) (w : World) (hT : Tab w) (h : AuN c w) :
    Calls Tryz.prog 51 #[.agg #[c.u],.string s,.int .i64 (i : Int)] w fun e w' => e = .returned (.tuple #[spV (fndX r),errV (fndE r)]) ∧ AuN c w' ∧ Kd c.ab w w' ∧ Below c.B w w':=by
  have hlen : s.data.toList.length = s.size:=by simp
  have hsz:=h.size
  have HC : Hid (∀ (a : Nat) (l : List Nat) w',AuN c w' → Tab w' → a ≤ s.size → EndsR s.data.toList t a l → Calls Tryz.prog 74 #[c.u,.string s,.int .i64 (a : Int)] w' fun e w'' => e = .returned (.tuple #[.int .i64 (lastI l),.nilIface]) ∧ AuN c w'' ∧ Below c.B w' w'' ∧ Kd c.ab w' w''):=fun a l w' ⟨g,m,K,Mb,k,hA⟩ hT' ha hl => (along_any c hc g m K Mb k w' hA hT' s hs a ha l (by rw [hss]; exact (run_ends t ht ho s.data.toList a (by omega) l).2 hl)).mono fun e w'' ⟨h1,h2,h3,h4⟩ => ⟨h1,h2,h3,h4.kd⟩
  have HTB : Hid (∀ w',Below c.B w w' → Tab w'):=fun w' hb j hj => (hb.cell (p:=⟨2,j,none⟩) hc.tab).trans (hT j hj)
  have H0 : Hid (FfI c t s r w i ((w.alloc (.cells #[c.u] 87)).alloc (.cells #[.int .i64 0,.int .i64 0] 54))):=by
    have hb1 : Below w.heap.size w ((w.alloc (.cells #[c.u] 87)).alloc (.cells #[.int .i64 0,.int .i64 0] 54)):=((Below.refl _ _).alloc (Nat.le_refl _) _).alloc (by simp) _
    exact ⟨h.below hb1,(Below.heap_alloc _ _ _ (by simp)).trans (World.alloc_heap_new w _),by
      have:=World.alloc_heap_new (w.alloc (.cells #[c.u] 87)) (.cells #[.int .i64 0,.int .i64 0] 54)
      rwa [World.size_alloc] at this,fun k o hk _ _ => (hb1.block k (heap_lt hk)).trans hk,hb1.mono (by omega),hr⟩
  clear hc hss h hr hT
  go_enter Tryz.func51,Tryz.ntmps51
  go_wp2_with fail
  go_loopw [8] (fun v wr => ∃ a : Nat,a ≤ s.size ∧ v = .int .i64 (a : Int) ∧ Hid (FfI c t s r w a wr)) (fun v _ => s.size + 1 - (intOf v).toNat)
  case atStart => exact ⟨i,hi,rfl,H0⟩
  case round =>
    clear H0
    obtain ⟨a,ha,rfl,HA⟩:=hrel
    obtain ⟨l,hl⟩:=ends_total s.data.toList t a
    have CL:=hid (HC.out a l wr HA.out.au (HTB.out _ HA.out.b) ha hl)
    have c0:=Lib.cell_of_heap HA.out.fin 0
    simp only [List.getElem?_toArray,List.getElem?_cons_zero,List.getElem?_cons_succ] at c0
    go_wp2_with fail
    refine Calls.mono CL.out ?_
    rintro e w1 ⟨rfl,hA1,hb1,hk1⟩
    have hab:=HA.out.au.size
    have ho : w1.heap[w.heap.size + 1]? = some (.cells #[.int .i64 0,.int .i64 0] 54 (0,0)):=hk1.same _ _ HA.out.out rfl (by omega)
    have hfin:=hk1.same _ _ HA.out.fin rfl (by omega)
    have H1 : Hid (FndR s.data.toList t (a + 1) r → FfI c t s r w (a + 1) w1):=fun hf => ⟨hA1,hfin,ho,fun k o hk hc hn => hk1.same k o (HA.out.kc k o hk hc hn) hc hn,HA.out.b.trans hb1,hf⟩
    have HP : Hid (∀ w',w1.grownBy w' (some (w.heap.size + 1)) → AuN c w' ∧ Kd c.ab w w' ∧ Below c.B w w'):=fun w' hg => by
      refine ⟨hA1.box ho (by decide) (by decide) (by omega) hg,⟨?_,fun k o hk hc hn => ?_⟩,?_⟩
      · have:=HA.out.b.size
        have:=hb1.size
        have:=hg.size
        omega
      · exact (hg.block k (heap_lt (hk1.same k o (HA.out.kc k o hk hc hn) hc hn)) (by have:=heap_lt hk; intro e; injection e with e; omega)).trans (hk1.same k o (HA.out.kc k o hk hc hn) hc hn)
      · exact (HA.out.b.trans hb1).trans ⟨hg.os,hg.tape,hg.output,hg.size,fun k hk => hg.block k (by have:=hA1.size; omega) (by intro e; injection e with e; omega)⟩
    have d0:=Lib.cell_of_heap ho 0
    have d1:=Lib.cell_of_heap ho 1
    have f0:=Lib.frozen_of_heap ho 0
    have f1:=Lib.frozen_of_heap ho 1
    simp only [List.getElem?_toArray,List.getElem?_cons_zero,List.getElem?_cons_succ] at d0 d1
    have HFR:=hid HA.out.fnd
    clear HA CL hA1 hb1 hk1 hab ho hfin c0 HC HTB
    cases hb : l.getLast? with
    | some b =>
      have er : r = some (a,b):=HFR.out.uniq (FndR.here hl hb)
      have el : lastI l = (b : Int):=by unfold lastI; rw [hb]
      rw [el]
      have g0 : (b : Int) ≥ 0:=by omega
      subst er
      obtain ⟨r0,r1⟩:=two_set w1 (w.heap.size + 1) (.int .i64 (a : Int)) (.int .i64 (b : Int)) _ _ d0 d1
      have HX:=hid (HP.out _ (two_grown w1 (w.heap.size + 1) (.int .i64 (a : Int)) (.int .i64 (b : Int))))
      clear HFR hl hb el HP H1
      go_wp2
      exact bodyPost_ret (v:=.tuple #[.agg #[.int .i64 (a : Int),.int .i64 (b : Int)],.nilIface]) (by simp [results,Tryz.results51,go_sem, *]) rfl ⟨rfl,HX.out.1,HX.out.2.1,HX.out.2.2⟩
    | none =>
      have e0 : l = []:=List.getLast?_eq_none_iff.1 hb
      subst e0
      have hno:=hl.none
      have HF1 : Hid (FndR s.data.toList t (a + 1) r):=HFR.out.unstep hno
      have H2:=hid (H1.out HF1.out)
      rw [show lastI [] = -1 from rfl]
      clear HFR hl hb hno H1
      by_cases hae : a = s.size
      · have er : r = none:=HF1.out.uniq (FndR.out (by omega))
        subst er
        have he : ((a : Int) == (s.size : Int)) = true:=by rw [hae]; simp
        obtain ⟨r0,r1⟩:=two_set w1 (w.heap.size + 1) (.int .i64 0) (.int .i64 0) _ _ d0 d1
        have HX:=hid (HP.out _ (two_grown w1 (w.heap.size + 1) (.int .i64 0) (.int .i64 0)))
        clear hae HF1 H2 HP
        go_wp2
        exact bodyPost_ret (v:=.tuple #[.agg #[.int .i64 0,.int .i64 0],.iface 32 (.int .i64 4)]) (by simp [results,Tryz.results51,go_sem, *]) rfl ⟨rfl,HX.out.1,HX.out.2.1,HX.out.2.2⟩
      · have he : ((a : Int) == (s.size : Int)) = false:=by rw [beq_eq_false_iff_ne]; omega
        have hal : a + 1 ≤ s.size:=by omega
        have hw1 : IntKind.i64.wrap ((a : Int) + 1) = (a : Int) + 1:=by rw [IntKind.wrap_i64]; omega
        clear hae HF1 HP d0 d1 f0 f1
        go_wp2
        exact ⟨⟨a + 1,hal,by go_num,H2⟩,by simp [intOf]; omega⟩
end Go.Proofs.YtcjghhedphmhkaaGreatDoor
namespace Go.Proofs.YtcjghhedphmhkaaGreatDoor
open Go.RowKit Go.Extern.Stop Go.Stop Go.Extern
theorem x_comparable (w : World) : (callFunc 191 #[.agg #[hnd 32]]).run Tryz.prog w = .ok (.value (.bool true)) w:=by kernel_rfl
theorem m_comparable (t : Nat) (w : World) : (method 388 181 (.agg #[hnd t]) "Comparable").run Tryz.prog w = .ok (191, .agg #[hnd t]) w := by kernel_rfl
theorem no_is (v : Value) (xT : TypeId) (w : World) : (Instr.typeAssert (.iface 32 v) xT 214 true).run Tryz.prog w = .ok (.tuple #[.nilIface,.bool false]) w:=run_typeAssert_lacksB Tryz.underlying214 (by kernel_rfl) (by kernel_rfl) v xT w
theorem no_unwrap (v : Value) (xT : TypeId) (w : World) : (Instr.typeAssert (.iface 32 v) xT 188 true).run Tryz.prog w = .ok (.tuple #[.nilIface,.bool false]) w:=run_typeAssert_lacksB Tryz.underlying188 (by kernel_rfl) (by kernel_rfl) v xT w
theorem no_unwraps (v : Value) (xT : TypeId) (w : World) : (Instr.typeAssert (.iface 32 v) xT 190 true).run Tryz.prog w = .ok (.tuple #[.nilIface,.bool false]) w:=run_typeAssert_lacksB Tryz.underlying190 (by kernel_rfl) (by kernel_rfl) v xT w
theorem eq_same (w : World) : (binOp .eql 36 (.iface 32 (.int .i64 4)) (.iface 32 (.int .i64 4))).run Tryz.prog w = .ok (.bool true) w:=by kernel_rfl
theorem eq_full (w : World) : (binOp .eql 36 (.iface 32 (.int .i64 3)) (.iface 32 (.int .i64 4))).run Tryz.prog w = .ok (.bool false) w:=by kernel_rfl
theorem is_same (w : World) : Calls Tryz.prog 52 #[.iface 32 (.int .i64 4),.iface 32 (.int .i64 4)] w fun e w' => e = .returned (.bool true) ∧ w' = w:=by
  have x1:=x_typeOf
  have x2:=x_comparable
  have m1:=m_comparable
  have q1:=eq_same
  go_enter Tryz.func52,Tryz.ntmps52
  go_wp2
  refine wp_loop_rounds 1 ?_
  rw [rounds_succ]
  go_wp2
  go_ret
  exact ⟨rfl,rfl⟩
theorem is_full (w : World) : Calls Tryz.prog 52 #[.iface 32 (.int .i64 3),.iface 32 (.int .i64 4)] w fun e w' => e = .returned (.bool false) ∧ w' = w:=by
  have x1:=x_typeOf
  have x2:=x_comparable
  have m1:=m_comparable
  have q1:=eq_full
  have n1:=no_is
  have n2:=no_unwrap
  have n3:=no_unwraps
  go_enter Tryz.func52,Tryz.ntmps52
  go_wp2
  refine wp_loop_rounds 1 ?_
  rw [rounds_succ]
  go_wp2
  go_ret
  exact ⟨rfl,rfl⟩
theorem is_nil (w : World) : Calls Tryz.prog 52 #[.nilIface,.iface 32 (.int .i64 4)] w fun e w' => e = .returned (.bool false) ∧ w' = w:=by
  have hn:=run_eql_iface_nil_left (P:=Tryz.prog) w 32 (.int .i64 4) Tryz.underlying36
  go_enter Tryz.func52,Tryz.ntmps52
  go_wp2
  go_ret
  exact ⟨rfl,rfl⟩
theorem is_any (n : Int) (h : n = 0 ∨ n = 3 ∨ n = 4) (w : World) : Calls Tryz.prog 52 #[errV n,.iface 32 (.int .i64 4)] w fun e w' => e = .returned (.bool (n == 4)) ∧ w' = w:=by
  rcases h with rfl | rfl | rfl
  · exact is_nil w
  · exact is_full w
  · exact is_same w
end Go.Proofs.YtcjghhedphmhkaaGreatDoor
namespace Go.Proofs.YtcjghhedphmhkaaGreatDoor
open Go.RowKit
def BsAt (w : World) (b off N : Nat) (A : Nat → Bool) : Prop:=∀ i,i ≤ N → w.cell? ⟨b,off + i,none⟩ = some (.bool (A i))
def BsIn (w : World) (v : Value) (N : Nat) (A : Nat → Bool) : Prop:=∃ b off cap,v = .slice (some ⟨b,off,none⟩) (N + 1) cap ∧ b < w.heap.size ∧ BsAt w b off N A
theorem BsAt.below {w w' : World} {B b off N : Nat} {A : Nat → Bool} (h : BsAt w b off N A) (hb : Below B w w') (hlt : b < B) : BsAt w' b off N A :=
  fun i hi => (hb.cell (p:=⟨b,_,none⟩) hlt).trans (h i hi)
theorem BsIn.below {w w' : World} {v : Value} {N : Nat} {A : Nat → Bool} (h : BsIn w v N A) (hb : Below w.heap.size w w') : BsIn w' v N A:=by
  obtain ⟨b,off,cap,rfl,hlt,h⟩:=h
  exact ⟨b,off,cap,rfl,Nat.lt_of_lt_of_le hlt hb.size,h.below hb hlt⟩
def rowB (N : Nat) (A : Nat → Bool) : Array Value:=((List.range (N + 1)).map fun i => Value.bool (A i)).toArray
def upd (A : Nat → Bool) (i : Nat) (x : Bool) : Nat → Bool:=fun j => if j = i then x else A j
def BsRow (w : World) (b N : Nat) (A : Nat → Bool) : Prop:=w.heap[b]? = some (.cells (rowB N A) 4 (0,0))
theorem BsRow.lt {w : World} {b N : Nat} {A : Nat → Bool} (h : BsRow w b N A) : b < w.heap.size:=by
  rcases Nat.lt_or_ge b w.heap.size with h' | h'
  · exact h'
  · simp [BsRow,Array.getElem?_eq_none h'] at h
theorem rowB_at (N : Nat) (A : Nat → Bool) (i : Nat) (h : i ≤ N) : (rowB N A)[i]? = some (.bool (A i)):=by
  simp [rowB,List.getElem?_range (show i < N + 1 by omega)]
theorem BsRow.at {w : World} {b N : Nat} {A : Nat → Bool} (h : BsRow w b N A) : BsAt w b 0 N A:=by
  intro i hi
  rw [Lib.cell_of_heap h,Nat.zero_add,rowB_at N A i hi]
theorem BsRow.isIn {w : World} {b N : Nat} {A : Nat → Bool} (h : BsRow w b N A) (cap : Nat) : BsIn w (.slice (some ⟨b,0,none⟩) (N + 1) cap) N A:=⟨b,0,cap,rfl,h.lt,h.at⟩
theorem BsRow.free {w : World} {b N : Nat} {A : Nat → Bool} (h : BsRow w b N A) (i : Nat) : w.frozen? ⟨b,i,none⟩ = false:=Lib.frozen_of_heap h i
theorem rowB_set (N : Nat) (A : Nat → Bool) (i : Nat) (x : Bool) : (rowB N A).setIfInBounds i (.bool x) = rowB N (upd A i x):=by
  apply Array.ext_getElem?
  intro j
  rw [Array.getElem?_setIfInBounds]
  by_cases hj : j ≤ N
  · rw [rowB_at N _ j hj,rowB_at N _ j hj]
    by_cases e : i = j
    · subst e
      simp [rowB,upd,hj]
      omega
    · rw [if_neg e]
      simp [upd,Ne.symm e]
  · have h1 : (rowB N A)[j]? = none:=Array.getElem?_eq_none (by simp [rowB]; omega)
    have h2 : (rowB N (upd A i x))[j]? = none:=Array.getElem?_eq_none (by simp [rowB]; omega)
    rw [h1,h2]
    split
    · rename_i e
      subst e
      rw [if_neg (by simp [rowB]; omega)]
    · rfl
theorem BsRow.set {w : World} {b N : Nat} {A : Nat → Bool} (h : BsRow w b N A) (i : Nat) (x : Bool) : BsRow (w.setCell ⟨b,i,none⟩ (.bool x)) b N (upd A i x):=by
  simp only [BsRow] at h ⊢
  simp [World.setCell,Array.getElem?_modify,h,rowB_set]
theorem BsRow.below {w w' : World} {b N : Nat} {A : Nat → Bool} (h : BsRow w b N A) (hb : Below w.heap.size w w') : BsRow w' b N A:=(hb.block b h.lt).trans h
theorem rowB_new (N : Nat) : Array.replicate (N + 1) (Value.bool false) = rowB N fun _ => false:=by
  apply Array.ext_getElem?
  intro j
  by_cases hj : j ≤ N
  · rw [rowB_at N _ j hj]
    simp [show j < N + 1 by omega]
  · rw [Array.getElem?_eq_none (by simp; omega),Array.getElem?_eq_none (by simp [rowB]; omega)]
theorem BsRow.new (w : World) (N : Nat) (o : Obj) (ho : o = .cells (Array.replicate (N + 1) (Value.bool false)) 4 (0,0)) : BsRow (w.alloc o) w.heap.size N fun _ => false:=by
  rw [ho,rowB_new]
  show (w.heap.push _)[w.heap.size]? = _
  simp
theorem BsRow.congr {w : World} {b N : Nat} {A B : Nat → Bool} (h : BsRow w b N A) (he : ∀ i,i ≤ N → A i = B i) : BsRow w b N B:=by
  have : rowB N A = rowB N B:=by
    unfold rowB
    congr 1
    apply List.map_congr_left
    intro i hi
    rw [he i (by have:=List.mem_range.1 hi; omega)]
  simp only [BsRow] at h ⊢
  rw [h,this]
theorem BsIn.form {w : World} {v : Value} {N : Nat} {A : Nat → Bool} (h : BsIn w v N A) : ∃ b off cap,v = .slice (some ⟨b,off,none⟩) (N + 1) cap:=by
  obtain ⟨b,off,cap,h,_⟩:=h
  exact ⟨b,off,cap,h⟩
theorem sl (s : ByteArray) : s.data.toList.length = s.size:=Array.length_toList
theorem str_idx' (s : ByteArray) (a : Nat) (c : UInt8) (h : s.data.toList[a]? = some c) (w : World) : (Instr.index 9 (.string s) (.int .i64 (a : Int))).run Tryz.prog w = .ok (.int .u8 (c.toNat : Int)) w:=by
  have hl : a < s.data.toList.length:=by
    rcases Nat.lt_or_ge a s.data.toList.length with h' | h'
    · exact h'
    · rw [List.getElem?_eq_none h'] at h; cases h
  have hs : a < s.size:=by rw [← sl]; exact hl
  rw [run_index_string w 9 s .i64 (a : Int) Tryz.underlying9,dif_pos ⟨by omega,by omega⟩]
  rw [List.getElem?_eq_getElem hl] at h
  have e : s[(a : Int).toNat]'(by simpa using hs) = c:=by
    exact Option.some.inj h
  rw [e]
theorem made_bools (n : Nat) : madeCells #[Value.bool false] (n * 1) = Array.replicate n (Value.bool false):=by
  apply Array.ext
  · simp [madeCells]
  · intro i h1 h2
    simp [madeCells,Nat.mod_one]
theorem mkB (N : Nat) (hN : N ≤ 1000000) (u : World) : (Instr.makeSlice 193 (.int .i64 ((N : Int) + 1)) (.int .i64 ((N : Int) + 1))).run Tryz.prog u = .ok (.slice (some ⟨u.heap.size,0,none⟩) (N + 1) (N + 1)) (u.alloc (.cells (rowB N fun _ => false) 4)):=by
  have hinfo : (Tryz.prog.info? 4).map (fun i => (i.zero,i.size,i.bytes)) = some (some (.bool false),1,1):=by kernel_rfl
  obtain ⟨i0,hi,hz0,hz1,hz2⟩:=info_parts hinfo
  have h:=run_make (P:=Tryz.prog) u 193 4 i0 (.bool false) Tryz.underlying193 hi hz0 .i64 .i64 ((N : Int) + 1) ((N : Int) + 1) (by omega) (Int.le_refl _) (by rw [hz2]; omega) (by omega)
  have e : ((N : Int) + 1).toNat = N + 1:=by omega
  rw [e,hz1,show (Value.bool false).cells = #[Value.bool false] from rfl,made_bools,rowB_new] at h
  exact h
theorem BsRow.new' (w : World) (N : Nat) (A : Nat → Bool) : BsRow (w.alloc (.cells (rowB N A) 4)) w.heap.size N A:=by
  show (w.heap.push _)[w.heap.size]? = _
  simp
theorem joined_any (N : Nat) (hN : N ≤ 1000000) (A B : Nat → Bool) (v u : Value) (w : World) (hA : BsIn w v N A) (hB : BsIn w u N B) :
    Calls Tryz.prog 111 #[v,u] w fun e w' => ∃ x,e = .returned x ∧ Below w.heap.size w w' ∧ BsIn w' x N fun i => A i || B i:=by
  obtain ⟨b1,o1,c1,rfl,l1,hA⟩:=hA
  obtain ⟨b2,o2,c2,rfl,l2,hB⟩:=hB
  have hmk:=mkB N hN
  obtain ⟨g,hg⟩ : ∃ g,g = w.heap.size:=⟨_,rfl⟩
  have HNew : Hid (BsRow (w.alloc (.cells (rowB N fun _ => false) 4)) g N fun _ => false):=hg ▸ BsRow.new' w N _
  go_enter Tryz.func111,Tryz.ntmps111
  go_wp2
  rw [← hg]
  have HG:=hid hg
  clear hg
  go_loopw [6] (fun v wr => ∃ (i : Nat) (C : Nat → Bool),i ≤ N + 1 ∧ v = .int .i64 i ∧ BsRow wr g N C ∧ Hid (∀ j,C j = (decide (j < i) && (A j || B j))) ∧ Below w.heap.size w wr) (fun v _ => N + 1 - (intOf v).toNat)
  case atStart => exact ⟨0,fun _ => false,by omega,rfl,HNew.out,fun j => by simp,(Below.refl _ _).alloc (Nat.le_refl _) _⟩
  case round =>
    obtain ⟨i,C,hi,rfl,hR,HC,hb⟩:=hrel
    by_cases hil : i < N + 1
    · have a0:=(hA.below hb l1) i (by omega)
      have d0:=(hB.below hb l2) i (by omega)
      have f0:=hR.free i
      have g0:=hR.at i (by omega)
      rw [Nat.zero_add] at g0
      have i0 : (0 : Int) ≤ (i : Int):=by omega
      have i1 : (i : Int) < (N : Int) + 1:=by omega
      cases hx : A i <;> cases hy : B i
      all_goals
        rw [hx] at a0
        rw [hy] at d0
        have HR:=hid (hR.set i (A i || B i))
        rw [hx,hy] at HR
        have HC2 : Hid (∀ j,upd C i (A i || B i) j = (decide (j < i + 1) && (A j || B j))):=by
          intro j
          unfold upd
          split
          · rename_i e; subst e; simp
          · rename_i e; rw [HC.out j]; congr 1; exact decide_eq_decide.2 (by omega)
        rw [hx,hy] at HC2
        have HB:=hid (hb.setCell (p:=⟨g,i,none⟩) (by simp [HG.out]) (.bool (A i || B i)))
        rw [hx,hy] at HB
        clear hx hy hb hR
        go_wp2
        exact ⟨⟨i + 1,_,by omega,by go_num,HR.out,HC2,HB.out⟩,by simp [intOf]; omega⟩
    · go_wp2
      go_ret
      refine ⟨_,rfl,hb,(hR.congr fun j hj => ?_).isIn _⟩
      rw [HC.out j,decide_eq_true (by omega),Bool.true_and]
def Img (s : List UInt8) (t : Rx) (A B : Nat → Bool) : Prop:=∀ j,j ≤ s.length → (B j = true ↔ ∃ i,i ≤ s.length ∧ A i = true ∧ Fit s t i j)
def RchP (w : World) (s : ByteArray) (t : Rx) (A : Nat → Bool) (e : Ending) (w' : World) : Prop:=∃ u B,e = .returned u ∧ Below w.heap.size w w' ∧ BsIn w' u s.size B ∧ Img s.data.toList t A B
def RchOk (ns : List Nd) (b off cap i : Nat) (s : ByteArray) (t : Rx) : Prop:=∀ (A : Nat → Bool) (v : Value) (w : World),b < w.heap.size → NsAt w b off ns → BsIn w v s.size A →
  Calls Tryz.prog 89 #[.slice (some ⟨b,off,none⟩) ns.length cap,.int .i64 i,.string s,v] w (RchP w s t A)
theorem at_lt {ns : List Nd} {i : Nat} {n : Nd} (hn : ns[i]? = some n) : i < ns.length:=by
  rcases Nat.lt_or_ge i ns.length with h' | h'
  · exact h'
  · rw [List.getElem?_eq_none h'] at hn; cases hn
theorem img_empty (s : List UInt8) (n : Nd) (hop : n.op = 2) (A : Nat → Bool) : Img s (.leaf n) A A:=by
  intro j hj
  have hF : ∀ i,Fit s (.leaf n) i j ↔ i = j ∧ i ≤ s.length:=fun i => by unfold Fit; rw [hop]; simp
  constructor
  · intro h; exact ⟨j,hj,h,(hF j).2 ⟨rfl,hj⟩⟩
  · rintro ⟨i,_,h,hf⟩
    obtain ⟨rfl,_⟩:=(hF i).1 hf
    exact h
theorem img_begin (s : List UInt8) (n : Nd) (hop : n.op = 8) (A : Nat → Bool) : Img s (.leaf n) A (upd (fun _ => false) 0 (A 0)):=by
  intro j hj
  have hF : ∀ i,Fit s (.leaf n) i j ↔ i = 0 ∧ j = 0:=fun i => by unfold Fit; rw [hop]; simp
  unfold upd
  constructor
  · intro h
    split at h
    · rename_i e; exact ⟨0,by omega,h,(hF 0).2 ⟨rfl,e⟩⟩
    · cases h
  · rintro ⟨i,_,h,hf⟩
    obtain ⟨rfl,rfl⟩:=(hF i).1 hf
    rw [if_pos rfl]; exact h
theorem img_end (s : List UInt8) (n : Nd) (hop : n.op = 9) (A : Nat → Bool) : Img s (.leaf n) A (upd (fun _ => false) s.length (A s.length)):=by
  intro j hj
  have hF : ∀ i,Fit s (.leaf n) i j ↔ i = s.length ∧ j = s.length:=fun i => by unfold Fit; rw [hop]; simp
  unfold upd
  constructor
  · intro h
    split at h
    · rename_i e; exact ⟨s.length,by omega,h,(hF _).2 ⟨rfl,e⟩⟩
    · cases h
  · rintro ⟨i,_,h,hf⟩
    obtain ⟨rfl,rfl⟩:=(hF i).1 hf
    rw [if_pos rfl]; exact h
def byteB (s : List UInt8) (n : Nd) (A : Nat → Bool) (m : Nat) : Nat → Bool:=fun j => match j with
  | 0 => false
  | j + 1 => decide (j < m) && (A j && (match s[j]? with | some c => n.c.has c.toNat | none => false))
theorem img_byte (s : List UInt8) (n : Nd) (hop : n.op = 1) (A : Nat → Bool) : Img s (.leaf n) A (byteB s n A s.length):=by
  intro j hj
  have hF : ∀ i,Fit s (.leaf n) i j ↔ ∃ c,s[i]? = some c ∧ n.c.has c.toNat = true ∧ j = i + 1:=fun i => by unfold Fit; rw [hop]; simp
  cases j with
  | zero =>
    constructor
    · intro h; cases h
    · rintro ⟨i,_,_,hf⟩
      obtain ⟨c,_,_,h⟩:=(hF i).1 hf
      omega
  | succ j =>
    have hjl : j < s.length:=by omega
    constructor
    · intro h
      simp only [byteB,List.getElem?_eq_getElem hjl,Bool.and_eq_true] at h
      exact ⟨j,by omega,h.2.1,(hF j).2 ⟨s[j],List.getElem?_eq_getElem hjl,h.2.2,rfl⟩⟩
    · rintro ⟨i,_,h,hf⟩
      obtain ⟨c,h1,h2,h3⟩:=(hF i).1 hf
      obtain rfl : i = j:=by omega
      simp only [byteB,h1,h,h2,hjl,decide_true,Bool.and_true,Bool.true_and]
theorem new_one (w : World) (o : Obj) : Below w.heap.size w (w.alloc o):=(Below.refl _ _).alloc (Nat.le_refl _) _
theorem reach_begin (ns : List Nd) (b off cap i : Nat) (hl : ns.length ≤ 60) (n : Nd) (hn : ns[i]? = some n) (hop : n.op = 8) (s : ByteArray) (hs : s.size ≤ 1000000) : RchOk ns b off cap i s (.leaf n):=by
  intro A v w hlt hN hA
  have hil:=at_lt hn
  obtain ⟨c0,c1,c2,c3,c4⟩:=(hN.below (new_one w (.cells (rowB s.size fun _ => false) 4)) hlt) i n hn
  have HI:=hid (img_begin s.data.toList n hop A)
  try rw [sl] at HI
  rw [hop] at c0
  obtain ⟨b1,o1,d1,rfl,l1,hA⟩:=hA
  have a0 : ∀ o,((w.alloc (.cells (rowB s.size fun _ => false) 4)).alloc o).cell? ⟨b1,o1 + 0,none⟩ = some (.bool (A 0)):=fun o => (hA.below ((new_one w _).trans ((new_one _ o).mono (by simp))) l1) 0 (by omega)
  simp only [Nat.add_zero] at a0
  have HR:=fun o => (BsRow.new' w s.size fun _ => false).below (new_one _ o)
  have f0 : ∀ o,((w.alloc (.cells (rowB s.size fun _ => false) 4)).alloc o).frozen? ⟨w.heap.size,0,none⟩ = false:=fun o => (HR o).free 0
  have g0 : ∀ o,((w.alloc (.cells (rowB s.size fun _ => false) 4)).alloc o).cell? ⟨w.heap.size,0,none⟩ = some (.bool false):=fun o => by
    have:=(HR o).at 0 (by omega)
    rw [Nat.zero_add] at this
    exact this
  have hmk:=mkB s.size hs
  have i0 : (0 : Int) ≤ (i : Int):=by omega
  have i1 : (i : Int) < (ns.length : Int):=by omega
  clear hn hN hA hop HR
  go_enter Tryz.func89,Tryz.ntmps89
  go_wp2
  go_ret
  refine ⟨_,upd (fun _ => false) 0 (A 0),rfl,(new_one w _).trans ((new_one _ _).mono (by simp)),?_,HI.out⟩
  rw [rowB_set]
  exact ((BsRow.new' w s.size _).below (new_one _ _)).isIn _
theorem reach_end (ns : List Nd) (b off cap i : Nat) (hl : ns.length ≤ 60) (n : Nd) (hn : ns[i]? = some n) (hop : n.op = 9) (s : ByteArray) (hs : s.size ≤ 1000000) : RchOk ns b off cap i s (.leaf n):=by
  intro A v w hlt hN hA
  have hil:=at_lt hn
  obtain ⟨c0,c1,c2,c3,c4⟩:=(hN.below (new_one w (.cells (rowB s.size fun _ => false) 4)) hlt) i n hn
  have HI:=hid (img_end s.data.toList n hop A)
  try rw [sl] at HI
  rw [hop] at c0
  obtain ⟨b1,o1,d1,rfl,l1,hA⟩:=hA
  have a0 : ∀ o,((w.alloc (.cells (rowB s.size fun _ => false) 4)).alloc o).cell? ⟨b1,o1 + s.size,none⟩ = some (.bool (A s.size)):=fun o => (hA.below ((new_one w _).trans ((new_one _ o).mono (by simp))) l1) s.size (by omega)
  skip
  have HR:=fun o => (BsRow.new' w s.size fun _ => false).below (new_one _ o)
  have f0 : ∀ o,((w.alloc (.cells (rowB s.size fun _ => false) 4)).alloc o).frozen? ⟨w.heap.size,s.size,none⟩ = false:=fun o => (HR o).free s.size
  have g0 : ∀ o,((w.alloc (.cells (rowB s.size fun _ => false) 4)).alloc o).cell? ⟨w.heap.size,s.size,none⟩ = some (.bool false):=fun o => by
    have:=(HR o).at s.size (by omega)
    rw [Nat.zero_add] at this
    exact this
  have hmk:=mkB s.size hs
  have i0 : (0 : Int) ≤ (i : Int):=by omega
  have i1 : (i : Int) < (ns.length : Int):=by omega
  clear hn hN hA hop HR
  go_enter Tryz.func89,Tryz.ntmps89
  go_wp2
  go_ret
  refine ⟨_,upd (fun _ => false) s.size (A s.size),rfl,(new_one w _).trans ((new_one _ _).mono (by simp)),?_,HI.out⟩
  rw [rowB_set]
  exact ((BsRow.new' w s.size _).below (new_one _ _)).isIn _
theorem below_setRow {B : Nat} {w w1 : World} (h : Below B w w1) {g : Nat} (hg : B ≤ g) (c : Array Value) : Below B w (w1.setRow g c):=by
  refine ⟨h.os,h.tape,h.output,by simpa [World.setRow] using h.size,fun k hk => ?_⟩
  rw [← h.block k hk]
  simp [World.setRow,Array.getElem?_modify,show ¬ g = k by omega]
theorem rowB_list (N : Nat) (A : Nat → Bool) (C : Array Value) (h : C.size = N + 1) : (C.toList.take 0 ++ ((List.range (N + 1)).map fun i => Value.bool (A i)) ++ C.toList.drop (0 + ((List.range (N + 1)).map fun i => Value.bool (A i)).length)).toArray = rowB N A:=by
  rw [List.drop_eq_nil_of_le (by simp; omega)]
  simp [rowB]
theorem reach_empty (ns : List Nd) (b off cap i : Nat) (hl : ns.length ≤ 60) (n : Nd) (hn : ns[i]? = some n) (hop : n.op = 2) (s : ByteArray) (hs : s.size ≤ 1000000) : RchOk ns b off cap i s (.leaf n):=by
  intro A v w hlt hN hA
  have hil:=at_lt hn
  obtain ⟨c0,c1,c2,c3,c4⟩:=(hN.below ((Below.refl w.heap.size w).alloc (Nat.le_refl _) (.cells (rowB s.size fun _ => false) 4)) hlt) i n hn
  have HI:=hid (img_empty s.data.toList n hop A)
  rw [hop] at c0
  obtain ⟨b1,o1,d1,rfl,l1,hA⟩:=hA
  have HR:=fun o => (BsRow.new' w s.size fun _ => false).below (new_one _ o)
  have hmk:=mkB s.size hs
  have hcp : ∀ o,(Builtin.copy_ #[193,193] 3 #[.slice (some ⟨w.heap.size,0,none⟩) (s.size + 1) (s.size + 1),.slice (some ⟨b1,o1,none⟩) (s.size + 1) d1]).run Tryz.prog ((w.alloc (.cells (rowB s.size fun _ => false) 4)).alloc o) = .ok (goInt (s.size + 1)) (((w.alloc (.cells (rowB s.size fun _ => false) 4)).alloc o).setRow w.heap.size (rowB s.size A)):=by
    intro o
    have h:=run_copy_row (P:=Tryz.prog) ((w.alloc (.cells (rowB s.size fun _ => false) 4)).alloc o) 193 193 3 4 w.heap.size 0 (s.size + 1) (s.size + 1) ⟨b1,o1,none⟩ (s.size + 1) d1 (rowB s.size fun _ => false) 4 ((List.range (s.size + 1)).map fun i => Value.bool (A i)) Tryz.underlying193 (by kernel_rfl) (HR o) (by simp) (by
      intro j u hj
      have hjl : j < s.size + 1:=by
        rcases Nat.lt_or_ge j (s.size + 1) with h' | h'
        · exact h'
        · rw [List.getElem?_eq_none (by simpa using h')] at hj; cases hj
      simp [List.getElem?_range hjl] at hj
      subst hj
      rw [Addr.add_lit]
      exact (hA.below ((new_one w _).trans ((new_one _ o).mono (by simp))) l1) j (by omega)) (by simp [rowB]) (by simp [Value.oneCell'])
    rw [rowB_list s.size A _ (by simp [rowB])] at h
    simpa using h
  have i0 : (0 : Int) ≤ (i : Int):=by omega
  have i1 : (i : Int) < (ns.length : Int):=by omega
  have HR':=hid HR
  clear hn hN hA hop HR
  go_enter Tryz.func89,Tryz.ntmps89
  go_wp2
  go_ret
  exact ⟨_,A,rfl,below_setRow ((new_one w _).trans ((new_one _ _).mono (by simp))) (Nat.le_refl _) _,BsRow.isIn (setRow_heap _ _ _ _ _ _ (HR'.out _)) _,HI.out⟩
theorem heap_new (w : World) (o : Obj) : (w.alloc o).heap[w.heap.size]? = some o:=by
  show (w.heap.push _)[w.heap.size]? = _
  simp
theorem BsRow.congr' {w : World} {b g N : Nat} {A B : Nat → Bool} (h : BsRow w b N A) (hg : g = b) (he : ∀ i,i ≤ N → A i = B i) : BsRow w g N B:=hg ▸ h.congr he
structure ByR (w : World) (g b1 o1 : Nat) (s : ByteArray) (n : Nd) (A : Nat → Bool) (k : Nat) (wr : World) : Prop where
  row : BsRow wr g s.size (byteB s.data.toList n A k)
  nd : wr.heap[g + 1]? = some (.cells #[.int .i64 1,.int .u64 n.c.a,.int .u64 n.c.b,.int .u64 n.c.c,.int .u64 n.c.d] 106 (0,0))
  frm : BsAt wr b1 o1 s.size A
  b : Below w.heap.size w wr
  lt : b1 < g
  gw : g = w.heap.size
theorem ByR.low {w : World} {g b1 o1 : Nat} {s : ByteArray} {n : Nd} {A : Nat → Bool} {k : Nat} {wr w3 : World} (h : ByR w g b1 o1 s n A k wr) (hb : Below wr.heap.size wr w3) : ByR w g b1 o1 s n A k w3:=by
  have h1:=h.row.lt
  have h2:=h.lt
  have h3 : g + 1 < wr.heap.size:=by
    rcases Nat.lt_or_ge (g + 1) wr.heap.size with h' | h'
    · exact h'
    · have:=h.nd; rw [Array.getElem?_eq_none h'] at this; cases this
  exact ⟨h.row.below hb,(hb.block _ h3).trans h.nd,h.frm.below hb (by omega),h.b.trans (hb.mono h.b.size),h.lt,h.gw⟩
theorem ByR.sup {w : World} {g b1 o1 : Nat} {s : ByteArray} {n : Nd} {A : Nat → Bool} {k : Nat} {wr : World} (h : ByR w g b1 o1 s n A k wr) (i : Nat) (v : Value) : (wr.setCell ⟨g,i,none⟩ v).heap[g + 1]? = some (.cells #[.int .i64 1,.int .u64 n.c.a,.int .u64 n.c.b,.int .u64 n.c.c,.int .u64 n.c.d] 106 (0,0)) ∧ BsAt (wr.setCell ⟨g,i,none⟩ v) b1 o1 s.size A:=by
  have hl:=h.lt
  have hb : Below g wr (wr.setCell ⟨g,i,none⟩ v):=(Below.refl g wr).setCell (p:=⟨g,i,none⟩) (Nat.le_refl _) v
  refine ⟨?_,h.frm.below hb hl⟩
  rw [← h.nd]
  simp [World.setCell,Array.getElem?_modify]
theorem byteB_step (s : List UInt8) (n : Nd) (A : Nat → Bool) (k : Nat) (c : UInt8) (hc : s[k]? = some c) (j : Nat) : upd (byteB s n A k) (k + 1) (A k && n.c.has c.toNat) j = byteB s n A (k + 1) j:=by
  unfold upd
  cases j with
  | zero => rw [if_neg (by omega)]; rfl
  | succ j =>
    by_cases e : j = k
    · subst e
      simp [byteB,hc]
    · rw [if_neg (by omega)]
      simp only [byteB]
      congr 1
      exact decide_eq_decide.2 (by omega)
theorem ByR.step {w : World} {g b1 o1 : Nat} {s : ByteArray} {n : Nd} {A : Nat → Bool} {k : Nat} {wr : World} (h : ByR w g b1 o1 s n A k wr) (c : UInt8) (hc : s.data.toList[k]? = some c) (x : Bool) (hx : x = (A k && n.c.has c.toNat)) : ByR w g b1 o1 s n A (k + 1) (wr.setCell ⟨g,k + 1,none⟩ (.bool x)):=by
  subst hx
  have hq:=h.sup (k + 1) (.bool (A k && n.c.has c.toNat))
  exact ⟨(h.row.set (k + 1) _).congr fun i hi => byteB_step _ n A k c hc i,hq.1,hq.2,h.b.setCell (p:=⟨g,k + 1,none⟩) (by rw [h.gw]; exact Nat.le_refl _) _,h.lt,h.gw⟩
def ByC (w : World) (g b1 o1 k : Nat) (x : Bool) (n : Nd) : Prop:=w.cell? ⟨b1,o1 + k,none⟩ = some (.bool x) ∧ w.cell? ⟨g + 1,1,none⟩ = some (.int .u64 n.c.a) ∧ w.cell? ⟨g + 1,2,none⟩ = some (.int .u64 n.c.b) ∧ w.cell? ⟨g + 1,3,none⟩ = some (.int .u64 n.c.c) ∧ w.cell? ⟨g + 1,4,none⟩ = some (.int .u64 n.c.d)
theorem byC_of {w : World} {g b1 o1 N k : Nat} {n : Nd} {A : Nat → Bool} (h1 : w.heap[g + 1]? = some (.cells #[.int .i64 1,.int .u64 n.c.a,.int .u64 n.c.b,.int .u64 n.c.c,.int .u64 n.c.d] 106 (0,0))) (h2 : BsAt w b1 o1 N A) (hk : k ≤ N) : ByC w g b1 o1 k (A k) n:=by
  refine ⟨h2 k hk,?_,?_,?_,?_⟩ <;> (rw [Lib.cell_of_heap h1]; rfl)
theorem ByR.all {w : World} {g b1 o1 : Nat} {s : ByteArray} {n : Nd} {A : Nat → Bool} {k : Nat} {wr : World} (h : ByR w g b1 o1 s n A k wr) (hk : k < s.size) : ByC wr g b1 o1 k (A k) n ∧ (∀ v,ByC (wr.setCell ⟨g,k + 1,none⟩ v) g b1 o1 k (A k) n) ∧ wr.cell? ⟨g,k + 1,none⟩ = some (.bool (byteB s.data.toList n A k (k + 1))) ∧ wr.frozen? ⟨g,k + 1,none⟩ = false:=by
  refine ⟨byC_of h.nd h.frm (by omega),fun v => byC_of (h.sup (k + 1) v).1 (h.sup (k + 1) v).2 (by omega),?_,h.row.free _⟩
  have:=h.row.at (k + 1) (by omega)
  rw [Nat.zero_add] at this
  exact this
theorem reach_byte (ns : List Nd) (b off cap i : Nat) (hl : ns.length ≤ 60) (n : Nd) (hn : ns[i]? = some n) (hop : n.op = 1) (hok : n.c.ok) (s : ByteArray) (hs : s.size ≤ 1000000) : RchOk ns b off cap i s (.leaf n):=by
  intro A v w hlt hN hA
  have hil:=at_lt hn
  obtain ⟨c0,c1,c2,c3,c4⟩:=(hN.below (new_one w (.cells (rowB s.size fun _ => false) 4)) hlt) i n hn
  have HI:=hid (img_byte s.data.toList n hop A)
  rw [sl] at HI
  rw [hop] at c0
  obtain ⟨b1,o1,d1,rfl,l1,hA⟩:=hA
  have hmk:=mkB s.size hs
  have i0 : (0 : Int) ≤ (i : Int):=by omega
  have i1 : (i : Int) < (ns.length : Int):=by omega
  obtain ⟨g,hg⟩ : ∃ g,g = w.heap.size:=⟨_,rfl⟩
  clear hn hN hop
  go_enter Tryz.func89,Tryz.ntmps89
  go_wp2
  rw [← hg]
  have HG:=hid hg
  have HNew : Hid (ByR w g b1 o1 s n A 0 ((w.alloc (.cells (rowB s.size fun _ => false) 4)).alloc (.cells #[.int .i64 1,.int .u64 n.c.a,.int .u64 n.c.b,.int .u64 n.c.c,.int .u64 n.c.d] 106))):=by
    have hB:=(new_one w (.cells (rowB s.size fun _ => false) 4)).trans ((new_one (w.alloc (.cells (rowB s.size fun _ => false) 4)) (.cells #[.int .i64 1,.int .u64 n.c.a,.int .u64 n.c.b,.int .u64 n.c.c,.int .u64 n.c.d] 106)).mono (by simp))
    refine ⟨((BsRow.new' w s.size fun _ => false).below (new_one _ _)).congr' hg ?_,?_,hA.below hB l1,hB,by omega,hg⟩
    · intro j hj; cases j <;> simp [byteB]
    · rw [hg]
      have e : (w.alloc (.cells (rowB s.size fun _ => false) 4)).heap.size = w.heap.size + 1:=by simp
      rw [← e]
      exact heap_new _ _
  clear hA hmk hg c0 c1 c2 c3 c4
  have HW:=hid hok
  clear hok
  go_loopw [11] (fun v wr => ∃ k : Nat,k ≤ s.size ∧ v = .int .i64 k ∧ ByR w g b1 o1 s n A k wr) (fun v _ => s.size - (intOf v).toNat)
  case atStart => exact ⟨0,by omega,rfl,HNew.out⟩
  case round =>
    clear HNew
    obtain ⟨k,hk,rfl,hR⟩:=hrel
    by_cases hkl : k < s.size
    · obtain ⟨c,hc⟩ : ∃ c,s.data.toList[k]? = some c:=⟨s.data.toList[k]'(by rw [sl]; exact hkl),List.getElem?_eq_getElem _⟩
      have hsi:=str_idx' s k c hc
      have HCc:=hid hc
      have k0 : (0 : Int) ≤ (k : Int):=by omega
      have k1 : (k : Int) < (s.size : Int):=by omega
      have k2 : (k : Int) + 1 < (s.size : Int) + 1:=by omega
      have k3 : (0 : Int) ≤ (k : Int) + 1:=by omega
      have k4 : (k : Int) < (s.size : Int) + 1:=by omega
      have k5 : IntKind.i64.wrap ((k : Int) + 1) = (k : Int) + 1:=by rw [IntKind.wrap_i64]; omega
      have HR:=hid (hR.low (Below.drew (Below.refl _ wr)))
      have HIn:=hid (in_any n.c HW.out c.toNat c.toNat_lt)
      have hcc : IntKind.i64.wrap (c.toNat : Int) = (c.toNat : Int):=by have:=c.toNat_lt; rw [IntKind.wrap_i64]; omega
      obtain ⟨⟨q1,q2,q3,q4,q5⟩,hset,q6,q7⟩:=hR.all hkl
      have hs1:=fun v => (hset v).1
      have hs2:=fun v => (hset v).2.1
      have hs3:=fun v => (hset v).2.2.1
      have hs4:=fun v => (hset v).2.2.2.1
      have hs5:=fun v => (hset v).2.2.2.2
      have HRb:=hid hR
      clear hc hR hset
      cases hx : A k
      · rw [hx] at q1
        simp only [hx] at hs1
        have HX:=hid hx
        clear hx
        go_wp2_with fail
        go_big_region
        all_goals go_wp2
        all_goals exact ⟨⟨k + 1,by omega,by go_num,(HRb.out.step c HCc.out false (by rw [HX.out]; rfl)).low (Below.drew (Below.refl _ _))⟩,by simp [intOf]; omega⟩
      · rw [hx] at q1
        simp only [hx] at hs1
        have HX:=hid hx
        have HK:=hid (fun w3 hb3 => (HR.out.low hb3).all hkl (wr:=w3))
        clear hx
        go_wp2_with fail
        go_region_with (first | (go_at_call 63; refine Calls.mono (HIn.out _) ?_; rintro e w3 ⟨rfl,hb3⟩; obtain ⟨⟨r1,r2,r3,r4,r5⟩,_,r6,r7⟩:=HK.out _ hb3))
        all_goals go_wp2
        all_goals exact ⟨⟨k + 1,by omega,by go_num,(HR.out.low hb3).step c HCc.out _ (by rw [HX.out,Bool.true_and])⟩,by simp [intOf]; omega⟩
    · obtain rfl : k = s.size:=by omega
      have HR:=hid hR
      clear hR
      go_wp2
      go_ret
      exact ⟨_,_,rfl,HR.out.b,HR.out.row.isIn _,HI.out⟩
def cntF (C : Nat → Bool) : Nat → Nat
  | 0 => 0
  | n + 1 => cntF C n + if C n then 0 else 1
theorem cntF_congr {C D : Nat → Bool} : ∀ (n : Nat),(∀ i,i < n → C i = D i) → cntF C n = cntF D n
  | 0,_ => rfl
  | n + 1,h => by rw [cntF,cntF,cntF_congr n (fun i hi => h i (by omega)),h n (by omega)]
theorem cntF_le {C D : Nat → Bool} : ∀ (n : Nat),(∀ i,i < n → C i = true → D i = true) → cntF D n ≤ cntF C n
  | 0,_ => Nat.le_refl _
  | n + 1,h => by
    have ih:=cntF_le n (fun i hi => h i (by omega))
    have h1:=h n (by omega)
    rw [cntF,cntF]
    cases hc : C n <;> cases hd : D n <;> simp_all <;> omega
theorem cntF_lt {C D : Nat → Bool} : ∀ (n : Nat),(∀ i,i < n → C i = true → D i = true) → (∃ k,k < n ∧ C k = false ∧ D k = true) → cntF D n < cntF C n
  | 0,_,⟨k,hk,_⟩ => by omega
  | n + 1,h,⟨k,hk,h1,h2⟩ => by
    rw [cntF,cntF]
    by_cases e : k = n
    · subst e
      have ih:=cntF_le k (fun i hi => h i (by omega))
      rw [h1,h2]
      simp
      omega
    · have ih:=cntF_lt n (fun i hi => h i (by omega)) ⟨k,by omega,h1,h2⟩
      have h3:=h n (by omega)
      cases hc : C n <;> cases hd : D n <;> simp_all <;> omega
def cellT (w : World) (v : Value) (i : Nat) : Bool:=match v with
  | .slice (some a) _ _ => (match w.cell? ⟨a.block,a.off + i,none⟩ with | some (.bool x) => x | _ => false)
  | _ => false
theorem BsIn.cellT {w : World} {v : Value} {N : Nat} {A : Nat → Bool} (h : BsIn w v N A) (i : Nat) (hi : i ≤ N) : Go.Proofs.YtcjghhedphmhkaaGreatDoor.cellT w v i = A i:=by
  obtain ⟨b,off,cap,rfl,_,h⟩:=h
  simp [Go.Proofs.YtcjghhedphmhkaaGreatDoor.cellT,h i hi]
def ImgS (s : List UInt8) (t : Rx) (A B : Nat → Bool) : Prop:=∀ j,j ≤ s.length → (B j = true ↔ ∃ i,i ≤ s.length ∧ A i = true ∧ Str s.length (Fit s t) i j)
def ClsP (w : World) (s : ByteArray) (t : Rx) (A : Nat → Bool) (e : Ending) (w' : World) : Prop:=∃ u B,e = .returned u ∧ Below w.heap.size w w' ∧ BsIn w' u s.size B ∧ ImgS s.data.toList t A B
def ClsOk (ns : List Nd) (b off cap i : Nat) (s : ByteArray) (t : Rx) : Prop:=∀ (A : Nat → Bool) (v : Value) (w : World),b < w.heap.size → NsAt w b off ns → BsIn w v s.size A →
  Calls Tryz.prog 112 #[.slice (some ⟨b,off,none⟩) ns.length cap,.int .i64 i,.string s,v] w (ClsP w s t A)
structure ClR (w : World) (s : ByteArray) (t : Rx) (A : Nat → Bool) (C : Nat → Bool) (v : Value) (wr : World) : Prop where
  row : BsIn wr v s.size C
  sup : ∀ j,j ≤ s.size → A j = true → C j = true
  sub : ∀ j,j ≤ s.size → C j = true → ∃ i,i ≤ s.size ∧ A i = true ∧ Str s.size (Fit s.data.toList t) i j
  b : Below w.heap.size w wr
theorem ClR.more {w : World} {s : ByteArray} {t : Rx} {A C B : Nat → Bool} {v u : Value} {wr w' : World} (h : ClR w s t A C v wr) (hi : Img s.data.toList t C B) (hb : Below w.heap.size w w') (hu : BsIn w' u s.size fun i => C i || B i) : ClR w s t A (fun i => C i || B i) u w':=by
  refine ⟨hu,fun j hj ha => by simp [h.sup j hj ha],fun j hj hc => ?_,hb⟩
  rw [Bool.or_eq_true] at hc
  rcases hc with hc | hc
  · exact h.sub j hj hc
  · obtain ⟨i,h1,h2,h3⟩:=(hi j (by rw [sl]; exact hj)).1 hc
    rw [sl] at h1
    obtain ⟨k,k1,k2,k3⟩:=h.sub i h1 h2
    refine ⟨k,k1,k2,k3.trans ?_⟩
    have:=Str.one (fit_le s.data.toList t) h3
    rw [sl] at this
    exact this
theorem ClR.done {w : World} {s : ByteArray} {t : Rx} {A C B : Nat → Bool} {v : Value} {wr : World} (h : ClR w s t A C v wr) (hi : Img s.data.toList t C B) (hs : ∀ j,j ≤ s.size → (C j || B j) = C j) : ImgS s.data.toList t A fun i => C i || B i:=by
  intro j hj
  rw [sl] at hj ⊢
  have key : ∀ {x y : Nat},Str s.size (Fit s.data.toList t) x y → x ≤ s.size → C x = true → C y = true:=by
    intro x y hxy
    induction hxy with
    | nil => intro _ h; exact h
    | cons x m y hx _ ih =>
      intro hxl hc
      have hm:=fit_le s.data.toList t x m hx
      rw [sl] at hm
      have hb : B m = true:=(hi m (by rw [sl]; omega)).2 ⟨x,by rw [sl]; exact hxl,hc,hx⟩
      have:=hs m (by omega)
      rw [hb,Bool.or_true] at this
      exact ih hm.2 this.symm
  simp only
  rw [hs j hj]
  constructor
  · exact h.sub j hj
  · rintro ⟨i,h1,h2,h3⟩
    exact key h3 h1 (h.sup i h1 h2)
theorem ClR.less {w w' : World} {s : ByteArray} {t : Rx} {A C B : Nat → Bool} {v u : Value} {wr : World} (h : ClR w s t A C v wr) (hu : BsIn w' u s.size fun i => C i || B i) (hn : ¬ ∀ j,j ≤ s.size → (C j || B j) = C j) : cntF (cellT w' u) (s.size + 1) < cntF (cellT wr v) (s.size + 1):=by
  rw [cntF_congr (s.size + 1) (fun i hi => hu.cellT i (by omega)),cntF_congr (s.size + 1) (fun i hi => h.row.cellT i (by omega))]
  apply cntF_lt
  · intro i _ hc; simp [hc]
  · refine Classical.byContradiction fun hne => hn fun j hj => ?_
    cases hc : C j
    · cases hb : B j
      · rfl
      · exact absurd ⟨j,by omega,hc,by simp [hb]⟩ hne
    · rfl
theorem closed_any (ns : List Nd) (b off cap i : Nat) (hl : ns.length ≤ 60) (s : ByteArray) (hs : s.size ≤ 1000000) (t : Rx) (hT : RchOk ns b off cap i s t) : ClsOk ns b off cap i s t:=by
  intro A v w hlt hN hA
  have HT : Hid (∀ C u wr,Below w.heap.size w wr → BsIn wr u s.size C → _):=fun C u wr hb hu => hT C u wr (Nat.lt_of_lt_of_le hlt hb.size) (hN.below hb hlt) hu
  have HST : Hid (ClR w s t A A v w):=⟨hA,fun _ _ h => h,fun j hj h => ⟨j,hj,h,.nil j hj⟩,Below.refl _ _⟩
  obtain ⟨b1,o1,d1,rfl,l1,hA⟩:=hA
  clear hA hT hN
  go_enter Tryz.func112,Tryz.ntmps112
  go_wp2
  have HJ:=hid (joined_any s.size hs)
  go_loopw [3] (fun v wr => ∃ C,ClR w s t A C v wr) (fun v wr => cntF (cellT wr v) (s.size + 1))
  case atStart => exact ⟨A,HST.out⟩
  case round =>
    clear HST
    obtain ⟨C,hR⟩:=hrel
    obtain ⟨b2,o2,d2,rfl⟩:=hR.row.form
    have HR:=hid hR
    clear hR
    go_wp2_with fail
    refine Calls.mono (HT.out C _ _ HR.out.b HR.out.row) ?_
    rintro e w1 ⟨u1,B,rfl,hb1,hr1,hi1⟩
    have HI:=hid hi1
    have HB1:=hid hb1
    have HR1:=hid hr1
    clear hi1 hb1 hr1
    go_wp2_with fail
    refine Calls.mono (HJ.out C B _ _ _ (HR.out.row.below HB1.out) HR1.out) ?_
    rintro e w2 ⟨u2,rfl,hb2,hr2⟩
    have HB2:=hid (HB1.out.trans (hb2.mono HB1.out.size))
    have HR2:=hid hr2
    obtain ⟨b3,o3,d3,rfl,l3,hx⟩:=hr2
    have HX:=hid hx
    have HL:=hid l3
    clear hb2 hx l3
    go_wp2_with fail
    go_loopw [10,11] (fun sm v w3 => ∃ (x : Bool) (k : Nat),sm = .bool x ∧ k ≤ s.size + 1 ∧ v = .int .i64 k ∧ Hid (x = true ↔ ∀ j,j < k → (C j || B j) = C j) ∧ Below w2.heap.size w2 w3) (fun _ v _ => s.size + 1 - (intOf v).toNat)
    case atStart => exact ⟨true,0,rfl,by omega,rfl,⟨fun _ j hj => by omega,fun _ => rfl⟩,Below.refl _ _⟩
    case round =>
      obtain ⟨x,k,rfl,hk,rfl,HX2,hb3⟩:=hrel
      have k0 : (0 : Int) ≤ (k : Int):=by omega
      have HB3:=hid hb3
      by_cases hkl : k < s.size + 1
      · have k1 : (k : Int) < (s.size : Int) + 1:=by omega
        have HKL:=hid (show k < s.size + 1 from hkl)
        have HM : Hid (s.size + 1 - (k + 1) < s.size + 1 - k):=by show _ < _; omega
        have a0:=(HX.out.below hb3 HL.out) k (by omega)
        have d0 : wr.cell? ⟨b2,o2 + k,none⟩ = some (.bool (C k)):=by
          obtain ⟨b',o',c',e,l',h'⟩:=HR.out.row
          injection e with e1 e2 e3
          injection e1 with e1
          injection e1 with e4 e5
          subst e4 e5
          exact ((h'.below HB2.out l').below hb3 (Nat.lt_of_lt_of_le l' HB2.out.size)) k (by omega)
        clear hb3
        have step : ∀ y : Bool,y = (x && ((C k || B k) == C k)) → (y = true ↔ ∀ j,j < k + 1 → (C j || B j) = C j):=by
          intro y hy
          rw [hy,Bool.and_eq_true,HX2.out,beq_iff_eq]
          constructor
          · rintro ⟨h1,h2⟩ j hj
            by_cases e : j = k
            · subst e; exact h2
            · exact h1 j (by omega)
          · intro h; exact ⟨fun j hj => h j (by omega),h k (by omega)⟩
        have HSt:=hid step
        clear step
        cases x
        · go_wp2_with fail
          try go_quiet (fail)
          go_wp2
          exact ⟨⟨false,k + 1,rfl,HKL.out,by go_num,HSt.out false rfl,by first | exact HB3.out | exact HB3.out.trans ((below_drewN' wr _).mono HB3.out.size)⟩,by simpa [intOf] using HM.out⟩
        · go_wp2_with fail
          try go_quiet (fail)
          go_wp2
          exact ⟨⟨(C k || B k) == C k,k + 1,rfl,HKL.out,by go_num,HSt.out _ (by rw [Bool.true_and]),by first | exact HB3.out | exact HB3.out.trans ((below_drewN' wr _).mono HB3.out.size)⟩,by simpa [intOf] using HM.out⟩
      · obtain rfl : k = s.size + 1:=by omega
        have HR3:=hid (HR2.out.below hb3)
        have HB4:=hid (HB2.out.trans (hb3.mono HB2.out.size))
        clear hb3
        cases x
        · go_wp2
          exact ⟨⟨_,HR.out.more HI.out (HR.out.b.trans (HB4.out.mono HR.out.b.size)) HR3.out⟩,HR.out.less HR3.out (fun h => absurd (HX2.out.2 fun j hj => h j (by omega)) (by simp))⟩
        · go_wp2
          go_ret
          refine ⟨_,_,rfl,HR.out.b.trans (HB4.out.mono HR.out.b.size),HR3.out,HR.out.done HI.out fun j hj => HX2.out.1 (by simp) j (by omega)⟩
theorem img_cat (s : List UInt8) (n : Nd) (a b : Rx) (hop : n.op = 3) {A B C : Nat → Bool} (h1 : Img s a A B) (h2 : Img s b B C) : Img s (.two n a b) A C:=by
  intro j hj
  have hF : ∀ i,Fit s (.two n a b) i j ↔ ∃ k,Fit s a i k ∧ Fit s b k j:=fun i => by rw [Fit,if_pos hop]
  rw [h2 j hj]
  constructor
  · rintro ⟨k,hk,hb,hf⟩
    obtain ⟨i,hi,ha,hg⟩:=(h1 k hk).1 hb
    exact ⟨i,hi,ha,(hF i).2 ⟨k,hg,hf⟩⟩
  · rintro ⟨i,hi,ha,hf⟩
    obtain ⟨k,h3,h4⟩:=(hF i).1 hf
    have hk:=(fit_le s a i k h3).2
    exact ⟨k,hk,(h1 k hk).2 ⟨i,hi,ha,h3⟩,h4⟩
theorem img_or (s : List UInt8) (n : Nd) (a b : Rx) (hop : n.op = 4) {A B C : Nat → Bool} (h1 : Img s a A B) (h2 : Img s b A C) : Img s (.two n a b) A fun i => B i || C i:=by
  intro j hj
  have hF : ∀ i,Fit s (.two n a b) i j ↔ Fit s a i j ∨ Fit s b i j:=fun i => by rw [Fit,if_neg (by rw [hop]; decide)]
  simp only [Bool.or_eq_true]
  rw [h1 j hj,h2 j hj]
  constructor
  · rintro (⟨i,hi,ha,hf⟩ | ⟨i,hi,ha,hf⟩)
    · exact ⟨i,hi,ha,(hF i).2 (Or.inl hf)⟩
    · exact ⟨i,hi,ha,(hF i).2 (Or.inr hf)⟩
  · rintro ⟨i,hi,ha,hf⟩
    rcases (hF i).1 hf with h | h
    · exact Or.inl ⟨i,hi,ha,h⟩
    · exact Or.inr ⟨i,hi,ha,h⟩
theorem img_opt (s : List UInt8) (n : Nd) (a : Rx) (hop : n.op = 7) {A B : Nat → Bool} (h1 : Img s a A B) : Img s (.one n a) A fun i => A i || B i:=by
  intro j hj
  have hF : ∀ i,Fit s (.one n a) i j ↔ (i = j ∧ i ≤ s.length) ∨ Fit s a i j:=fun i => by rw [Fit,if_neg (by rw [hop]; decide),if_neg (by rw [hop]; decide)]
  simp only [Bool.or_eq_true]
  rw [h1 j hj]
  constructor
  · rintro (ha | ⟨i,hi,ha,hf⟩)
    · exact ⟨j,hj,ha,(hF j).2 (Or.inl ⟨rfl,hj⟩)⟩
    · exact ⟨i,hi,ha,(hF i).2 (Or.inr hf)⟩
  · rintro ⟨i,hi,ha,hf⟩
    rcases (hF i).1 hf with ⟨rfl,_⟩ | h
    · exact Or.inl ha
    · exact Or.inr ⟨i,hi,ha,h⟩
theorem img_star (s : List UInt8) (n : Nd) (a : Rx) (hop : n.op = 5) {A B : Nat → Bool} (h1 : ImgS s a A B) : Img s (.one n a) A B:=by
  intro j hj
  have hF : ∀ i,Fit s (.one n a) i j ↔ Str s.length (Fit s a) i j:=fun i => by rw [Fit,if_pos hop]
  rw [h1 j hj]
  constructor
  · rintro ⟨i,hi,ha,hf⟩; exact ⟨i,hi,ha,(hF i).2 hf⟩
  · rintro ⟨i,hi,ha,hf⟩; exact ⟨i,hi,ha,(hF i).1 hf⟩
theorem img_plus (s : List UInt8) (n : Nd) (a : Rx) (hop : n.op = 6) {A B C : Nat → Bool} (h1 : Img s a A B) (h2 : ImgS s a B C) : Img s (.one n a) A C:=by
  intro j hj
  have hF : ∀ i,Fit s (.one n a) i j ↔ ∃ k,Fit s a i k ∧ Str s.length (Fit s a) k j:=fun i => by rw [Fit,if_neg (by rw [hop]; decide),if_pos hop]
  rw [h2 j hj]
  constructor
  · rintro ⟨k,hk,hb,hf⟩
    obtain ⟨i,hi,ha,hg⟩:=(h1 k hk).1 hb
    exact ⟨i,hi,ha,(hF i).2 ⟨k,hg,hf⟩⟩
  · rintro ⟨i,hi,ha,hf⟩
    obtain ⟨k,h3,h4⟩:=(hF i).1 hf
    have hk:=(fit_le s a i k h3).2
    exact ⟨k,hk,(h1 k hk).2 ⟨i,hi,ha,h3⟩,h4⟩
def Two (w : World) (s : ByteArray) (n : Nd) (op : Int) : World:=(w.alloc (.cells (rowB s.size fun _ => false) 4)).alloc (.cells #[.int .i64 op,.int .u64 n.c.a,.int .u64 n.c.b,.int .u64 n.c.c,.int .u64 n.c.d] 106)
theorem two_below (w : World) (s : ByteArray) (n : Nd) (op : Int) : Below w.heap.size w (Two w s n op):=(new_one w _).trans ((new_one _ _).mono (by simp))
def EndAt (ns : List Nd) (b off cap i j : Nat) : Prop:=∀ w : World,NsAt w b off ns → Calls Tryz.prog 42 #[.slice (some ⟨b,off,none⟩) ns.length cap,.int .i64 i] w fun e w' => e = .returned (.int .i64 (j : Int)) ∧ w' = w
theorem reach_cat (ns : List Nd) (b off cap i j : Nat) (hl : ns.length ≤ 60) (n : Nd) (hn : ns[i]? = some n) (hop : n.op = 3) (hi1 : i + 1 < ns.length) (s : ByteArray) (hs : s.size ≤ 1000000) (a b' : Rx) (hA : RchOk ns b off cap (i + 1) s a) (hB : RchOk ns b off cap j s b') (hE : EndAt ns b off cap (i + 1) j) : RchOk ns b off cap i s (.two n a b'):=by
  intro A v w hlt hN hv
  obtain ⟨c0,c1,c2,c3,c4⟩:=(hN.below (new_one w (.cells (rowB s.size fun _ => false) 4)) hlt) i n hn
  rw [hop] at c0
  have hmk:=mkB s.size hs
  have i0 : (0 : Int) ≤ (i : Int):=by omega
  have i1 : (i : Int) < (ns.length : Int):=by omega
  have i2 : (i : Int) + 1 < (ns.length : Int):=by omega
  obtain ⟨b1,o1,d1,rfl⟩:=hv.form
  have HV:=hid (hv.below (two_below w s n 3))
  have HT:=hid (two_below w s n 3)
  have HOP:=hid hop
  have HA : Hid (∀ w1 C u,Below w.heap.size w w1 → BsIn w1 u s.size C → Calls Tryz.prog 89 #[.slice (some ⟨b,off,none⟩) ns.length cap,.int .i64 ((i : Int) + 1),.string s,u] w1 (RchP w1 s a C)):=fun w1 C u hb hu => hA C u w1 (Nat.lt_of_lt_of_le hlt hb.size) (hN.below hb hlt) hu
  have HB : Hid (∀ w1 C u,Below w.heap.size w w1 → BsIn w1 u s.size C → Calls Tryz.prog 89 #[.slice (some ⟨b,off,none⟩) ns.length cap,.int .i64 (j : Int),.string s,u] w1 (RchP w1 s b' C)):=fun w1 C u hb hu => hB C u w1 (Nat.lt_of_lt_of_le hlt hb.size) (hN.below hb hlt) hu
  have HE : Hid (∀ w1,Below w.heap.size w w1 → Calls Tryz.prog 42 #[.slice (some ⟨b,off,none⟩) ns.length cap,.int .i64 ((i : Int) + 1)] w1 fun e w' => e = .returned (.int .i64 (j : Int)) ∧ w' = w1):=fun w1 hb => hE w1 (hN.below hb hlt)
  clear hA hB hE hN hv hop hn
  go_enter Tryz.func89,Tryz.ntmps89
  go_wp2_with fail
  refine Calls.mono (HE.out _ HT.out) ?_
  rintro e w9 ⟨rfl,rfl⟩
  go_wp2_with fail
  refine Calls.mono (HA.out _ A _ HT.out HV.out) ?_
  rintro e w1 ⟨u1,B1,rfl,hb,hr,hi⟩
  have HB1:=hid (HT.out.trans (hb.mono HT.out.size))
  have HR1:=hid hr
  have HI1:=hid hi
  have HL1:=hid hb
  clear hb hr hi
  obtain ⟨bb1,oo1,dd1,rfl⟩:=HR1.out.form
  go_wp2_with fail
  refine Calls.mono (HB.out _ B1 _ HB1.out HR1.out) ?_
  rintro e w2 ⟨u2,B2,rfl,hb,hr,hi⟩
  have HB2:=hid (HB1.out.trans (hb.mono HB1.out.size))
  have HR2:=hid hr
  have HI2:=hid hi
  have HL2:=hid hb
  clear hb hr hi
  obtain ⟨bb2,oo2,dd2,rfl⟩:=HR2.out.form
  go_wp2_with fail
  go_ret
  exact ⟨_,_,rfl,HB2.out,HR2.out,img_cat _ n a b' HOP.out HI1.out HI2.out⟩
theorem reach_or (ns : List Nd) (b off cap i j : Nat) (hl : ns.length ≤ 60) (n : Nd) (hn : ns[i]? = some n) (hop : n.op = 4) (hi1 : i + 1 < ns.length) (s : ByteArray) (hs : s.size ≤ 1000000) (a b' : Rx) (hA : RchOk ns b off cap (i + 1) s a) (hB : RchOk ns b off cap j s b') (hE : EndAt ns b off cap (i + 1) j) : RchOk ns b off cap i s (.two n a b'):=by
  intro A v w hlt hN hv
  obtain ⟨c0,c1,c2,c3,c4⟩:=(hN.below (new_one w (.cells (rowB s.size fun _ => false) 4)) hlt) i n hn
  rw [hop] at c0
  have hmk:=mkB s.size hs
  have i0 : (0 : Int) ≤ (i : Int):=by omega
  have i1 : (i : Int) < (ns.length : Int):=by omega
  have i2 : (i : Int) + 1 < (ns.length : Int):=by omega
  obtain ⟨b1,o1,d1,rfl⟩:=hv.form
  have HV:=hid (hv.below (two_below w s n 4))
  have HT:=hid (two_below w s n 4)
  have HOP:=hid hop
  have HA : Hid (∀ w1 C u,Below w.heap.size w w1 → BsIn w1 u s.size C → Calls Tryz.prog 89 #[.slice (some ⟨b,off,none⟩) ns.length cap,.int .i64 ((i : Int) + 1),.string s,u] w1 (RchP w1 s a C)):=fun w1 C u hb hu => hA C u w1 (Nat.lt_of_lt_of_le hlt hb.size) (hN.below hb hlt) hu
  have HB : Hid (∀ w1 C u,Below w.heap.size w w1 → BsIn w1 u s.size C → Calls Tryz.prog 89 #[.slice (some ⟨b,off,none⟩) ns.length cap,.int .i64 (j : Int),.string s,u] w1 (RchP w1 s b' C)):=fun w1 C u hb hu => hB C u w1 (Nat.lt_of_lt_of_le hlt hb.size) (hN.below hb hlt) hu
  have HE : Hid (∀ w1,Below w.heap.size w w1 → Calls Tryz.prog 42 #[.slice (some ⟨b,off,none⟩) ns.length cap,.int .i64 ((i : Int) + 1)] w1 fun e w' => e = .returned (.int .i64 (j : Int)) ∧ w' = w1):=fun w1 hb => hE w1 (hN.below hb hlt)
  have HJ:=hid (joined_any s.size hs)
  clear hA hB hE hN hv hop hn
  go_enter Tryz.func89,Tryz.ntmps89
  go_wp2_with fail
  refine Calls.mono (HA.out _ A _ HT.out HV.out) ?_
  rintro e w1 ⟨u1,B1,rfl,hb,hr,hi⟩
  have HB1:=hid (HT.out.trans (hb.mono HT.out.size))
  have HR1:=hid hr
  have HI1:=hid hi
  have HL1:=hid hb
  clear hb hr hi
  obtain ⟨bb1,oo1,dd1,rfl⟩:=HR1.out.form
  go_wp2_with fail
  refine Calls.mono (HE.out _ HB1.out) ?_
  rintro e w9 ⟨rfl,rfl⟩
  go_wp2_with fail
  refine Calls.mono (HB.out _ A _ HB1.out (HV.out.below HL1.out)) ?_
  rintro e w2 ⟨u2,B2,rfl,hb,hr,hi⟩
  have HB2:=hid (HB1.out.trans (hb.mono HB1.out.size))
  have HR2:=hid hr
  have HI2:=hid hi
  have HL2:=hid hb
  clear hb hr hi
  obtain ⟨bb2,oo2,dd2,rfl⟩:=HR2.out.form
  go_wp2_with fail
  refine Calls.mono (HJ.out B1 B2 _ _ _ (HR1.out.below HL2.out) HR2.out) ?_
  rintro e w3 ⟨x,rfl,hb,hr⟩
  have HB3:=hid (HB2.out.trans (hb.mono HB2.out.size))
  have HR3:=hid hr
  clear hb hr
  go_wp2_with fail
  go_ret
  exact ⟨_,_,rfl,HB3.out,HR3.out,img_or _ n a b' HOP.out HI1.out HI2.out⟩
theorem reach_opt (ns : List Nd) (b off cap i : Nat) (hl : ns.length ≤ 60) (n : Nd) (hn : ns[i]? = some n) (hop : n.op = 7) (hi1 : i + 1 < ns.length) (s : ByteArray) (hs : s.size ≤ 1000000) (a : Rx) (hA : RchOk ns b off cap (i + 1) s a) : RchOk ns b off cap i s (.one n a):=by
  intro A v w hlt hN hv
  obtain ⟨c0,c1,c2,c3,c4⟩:=(hN.below (new_one w (.cells (rowB s.size fun _ => false) 4)) hlt) i n hn
  rw [hop] at c0
  have hmk:=mkB s.size hs
  have i0 : (0 : Int) ≤ (i : Int):=by omega
  have i1 : (i : Int) < (ns.length : Int):=by omega
  have i2 : (i : Int) + 1 < (ns.length : Int):=by omega
  obtain ⟨b1,o1,d1,rfl⟩:=hv.form
  have HV:=hid (hv.below (two_below w s n 7))
  have HT:=hid (two_below w s n 7)
  have HOP:=hid hop
  have HA : Hid (∀ w1 C u,Below w.heap.size w w1 → BsIn w1 u s.size C → Calls Tryz.prog 89 #[.slice (some ⟨b,off,none⟩) ns.length cap,.int .i64 ((i : Int) + 1),.string s,u] w1 (RchP w1 s a C)):=fun w1 C u hb hu => hA C u w1 (Nat.lt_of_lt_of_le hlt hb.size) (hN.below hb hlt) hu
  have HJ:=hid (joined_any s.size hs)
  clear hA hN hv hop hn
  go_enter Tryz.func89,Tryz.ntmps89
  go_wp2_with fail
  refine Calls.mono (HA.out _ A _ HT.out HV.out) ?_
  rintro e w1 ⟨u1,B1,rfl,hb,hr,hi⟩
  have HB1:=hid (HT.out.trans (hb.mono HT.out.size))
  have HR1:=hid hr
  have HI1:=hid hi
  have HL1:=hid hb
  clear hb hr hi
  obtain ⟨bb1,oo1,dd1,rfl⟩:=HR1.out.form
  go_wp2_with fail
  refine Calls.mono (HJ.out A B1 _ _ _ (HV.out.below HL1.out) HR1.out) ?_
  rintro e w3 ⟨x,rfl,hb,hr⟩
  have HB3:=hid (HB1.out.trans (hb.mono HB1.out.size))
  have HR3:=hid hr
  clear hb hr
  go_wp2_with fail
  go_ret
  exact ⟨_,_,rfl,HB3.out,HR3.out,img_opt _ n a HOP.out HI1.out⟩
theorem reach_star (ns : List Nd) (b off cap i : Nat) (hl : ns.length ≤ 60) (n : Nd) (hn : ns[i]? = some n) (hop : n.op = 5) (hi1 : i + 1 < ns.length) (s : ByteArray) (hs : s.size ≤ 1000000) (a : Rx) (hA : RchOk ns b off cap (i + 1) s a) : RchOk ns b off cap i s (.one n a):=by
  intro A v w hlt hN hv
  obtain ⟨c0,c1,c2,c3,c4⟩:=(hN.below (new_one w (.cells (rowB s.size fun _ => false) 4)) hlt) i n hn
  rw [hop] at c0
  have hmk:=mkB s.size hs
  have i0 : (0 : Int) ≤ (i : Int):=by omega
  have i1 : (i : Int) < (ns.length : Int):=by omega
  have i2 : (i : Int) + 1 < (ns.length : Int):=by omega
  obtain ⟨b1,o1,d1,rfl⟩:=hv.form
  have HV:=hid (hv.below (two_below w s n 5))
  have HT:=hid (two_below w s n 5)
  have HOP:=hid hop
  have HA : Hid (∀ w1 C u,Below w.heap.size w w1 → BsIn w1 u s.size C → Calls Tryz.prog 89 #[.slice (some ⟨b,off,none⟩) ns.length cap,.int .i64 ((i : Int) + 1),.string s,u] w1 (RchP w1 s a C)):=fun w1 C u hb hu => hA C u w1 (Nat.lt_of_lt_of_le hlt hb.size) (hN.below hb hlt) hu
  have HC : Hid (∀ w1 C u,Below w.heap.size w w1 → BsIn w1 u s.size C → Calls Tryz.prog 112 #[.slice (some ⟨b,off,none⟩) ns.length cap,.int .i64 ((i : Int) + 1),.string s,u] w1 (ClsP w1 s a C)):=fun w1 C u hb hu => closed_any ns b off cap (i + 1) hl s hs a hA C u w1 (Nat.lt_of_lt_of_le hlt hb.size) (hN.below hb hlt) hu
  clear hA hN hv hop hn
  go_enter Tryz.func89,Tryz.ntmps89
  go_wp2_with fail
  refine Calls.mono (HC.out _ A _ HT.out HV.out) ?_
  rintro e w1 ⟨u1,B1,rfl,hb,hr,hi⟩
  have HB1:=hid (HT.out.trans (hb.mono HT.out.size))
  have HR1:=hid hr
  have HI1:=hid hi
  have HL1:=hid hb
  clear hb hr hi
  obtain ⟨bb1,oo1,dd1,rfl⟩:=HR1.out.form
  go_wp2_with fail
  go_ret
  exact ⟨_,_,rfl,HB1.out,HR1.out,img_star _ n a HOP.out HI1.out⟩
theorem reach_plus (ns : List Nd) (b off cap i : Nat) (hl : ns.length ≤ 60) (n : Nd) (hn : ns[i]? = some n) (hop : n.op = 6) (hi1 : i + 1 < ns.length) (s : ByteArray) (hs : s.size ≤ 1000000) (a : Rx) (hA : RchOk ns b off cap (i + 1) s a) : RchOk ns b off cap i s (.one n a):=by
  intro A v w hlt hN hv
  obtain ⟨c0,c1,c2,c3,c4⟩:=(hN.below (new_one w (.cells (rowB s.size fun _ => false) 4)) hlt) i n hn
  rw [hop] at c0
  have hmk:=mkB s.size hs
  have i0 : (0 : Int) ≤ (i : Int):=by omega
  have i1 : (i : Int) < (ns.length : Int):=by omega
  have i2 : (i : Int) + 1 < (ns.length : Int):=by omega
  obtain ⟨b1,o1,d1,rfl⟩:=hv.form
  have HV:=hid (hv.below (two_below w s n 6))
  have HT:=hid (two_below w s n 6)
  have HOP:=hid hop
  have HA : Hid (∀ w1 C u,Below w.heap.size w w1 → BsIn w1 u s.size C → Calls Tryz.prog 89 #[.slice (some ⟨b,off,none⟩) ns.length cap,.int .i64 ((i : Int) + 1),.string s,u] w1 (RchP w1 s a C)):=fun w1 C u hb hu => hA C u w1 (Nat.lt_of_lt_of_le hlt hb.size) (hN.below hb hlt) hu
  have HC : Hid (∀ w1 C u,Below w.heap.size w w1 → BsIn w1 u s.size C → Calls Tryz.prog 112 #[.slice (some ⟨b,off,none⟩) ns.length cap,.int .i64 ((i : Int) + 1),.string s,u] w1 (ClsP w1 s a C)):=fun w1 C u hb hu => closed_any ns b off cap (i + 1) hl s hs a hA C u w1 (Nat.lt_of_lt_of_le hlt hb.size) (hN.below hb hlt) hu
  clear hA hN hv hop hn
  go_enter Tryz.func89,Tryz.ntmps89
  go_wp2_with fail
  refine Calls.mono (HA.out _ A _ HT.out HV.out) ?_
  rintro e w1 ⟨u1,B1,rfl,hb,hr,hi⟩
  have HB1:=hid (HT.out.trans (hb.mono HT.out.size))
  have HR1:=hid hr
  have HI1:=hid hi
  have HL1:=hid hb
  clear hb hr hi
  obtain ⟨bb1,oo1,dd1,rfl⟩:=HR1.out.form
  go_wp2_with fail
  refine Calls.mono (HC.out _ B1 _ HB1.out HR1.out) ?_
  rintro e w2 ⟨u2,B2,rfl,hb,hr,hi⟩
  have HB2:=hid (HB1.out.trans (hb.mono HB1.out.size))
  have HR2:=hid hr
  have HI2:=hid hi
  have HL2:=hid hb
  clear hb hr hi
  obtain ⟨bb2,oo2,dd2,rfl⟩:=HR2.out.form
  go_wp2_with fail
  go_ret
  exact ⟨_,_,rfl,HB2.out,HR2.out,img_plus _ n a HOP.out HI1.out HI2.out⟩
theorem rpos : ∀ (t : Rx) (p q : List Nd),(p ++ t.flat ++ q)[p.length]? = some t.top
  | .leaf n,p,q => by simp [Rx.flat,Rx.top]
  | .one n a,p,q => by simp [Rx.flat,Rx.top]
  | .two n a b,p,q => by simp [Rx.flat,Rx.top]
theorem rleaf_op {n : Nd} (h : prt n.op = 0) (hr : 1 ≤ n.op ∧ n.op ≤ 9) : n.op = 1 ∨ n.op = 2 ∨ n.op = 8 ∨ n.op = 9:=by
  have e3 : n.op ≠ 3:=by intro e; rw [e] at h; simp [prt] at h
  have e4 : n.op ≠ 4:=by intro e; rw [e] at h; simp [prt] at h
  have e5 : n.op ≠ 5:=by intro e; rw [e] at h; simp [prt] at h
  have e6 : n.op ≠ 6:=by intro e; rw [e] at h; simp [prt] at h
  have e7 : n.op ≠ 7:=by intro e; rw [e] at h; simp [prt] at h
  omega
theorem reach_tree (b off cap : Nat) (s : ByteArray) (hs : s.size ≤ 1000000) : ∀ (t : Rx),t.Ok → ∀ (p q : List Nd),(∀ n ∈ t.flat,(1 ≤ n.op ∧ n.op ≤ 9) ∧ n.c.ok) → (p ++ t.flat ++ q).length ≤ 60 → RchOk (p ++ t.flat ++ q) b off cap p.length s t
  | .leaf n,h,p,q,hr,hl => by
    have hg:=hr n (by simp [Rx.flat])
    have hat:=rpos (.leaf n) p q
    rcases rleaf_op h hg.1 with e | e | e | e
    · exact reach_byte _ b off cap _ hl n hat e hg.2 s hs
    · exact reach_empty _ b off cap _ hl n hat e s hs
    · exact reach_begin _ b off cap _ hl n hat e s hs
    · exact reach_end _ b off cap _ hl n hat e s hs
  | .one n a,h,p,q,hr,hl => by
    have hpos:=rpos (.one n a) p q
    have hap:=rpos a (p ++ [n]) q
    have ih:=reach_tree b off cap s hs a h.2 (p ++ [n]) q (fun m hm => hr m (by simp [Rx.flat,hm])) (by simpa [Rx.flat] using hl)
    have e : p ++ [n] ++ a.flat ++ q = p ++ (Rx.one n a).flat ++ q:=by simp [Rx.flat]
    have ep : (p ++ [n]).length = p.length + 1:=by simp
    rw [e,ep] at ih hap
    have hlt:=at_lt hap
    rcases (prt_one n.op).1 h.1 with e | e | e
    · exact reach_star _ b off cap _ hl n hpos e hlt s hs a ih
    · exact reach_plus _ b off cap _ hl n hpos e hlt s hs a ih
    · exact reach_opt _ b off cap _ hl n hpos e hlt s hs a ih
  | .two n a b',h,p,q,hr,hl => by
    have hpos:=rpos (.two n a b') p q
    have hap:=rpos a (p ++ [n]) (b'.flat ++ q)
    have ih:=reach_tree b off cap s hs a h.2.1 (p ++ [n]) (b'.flat ++ q) (fun m hm => hr m (by simp [Rx.flat,hm])) (by simpa [Rx.flat] using hl)
    have hend:=endE_mid a h.2.1 (p ++ [n]) (b'.flat ++ q)
    have e : p ++ [n] ++ a.flat ++ (b'.flat ++ q) = p ++ (Rx.two n a b').flat ++ q:=by simp [Rx.flat]
    have ep : (p ++ [n]).length = p.length + 1:=by simp
    rw [e,ep] at ih hap hend
    have ih2:=reach_tree b off cap s hs b' h.2.2 (p ++ [n] ++ a.flat) q (fun m hm => hr m (by simp [Rx.flat,hm])) (by simpa [Rx.flat] using hl)
    have e2 : p ++ [n] ++ a.flat ++ b'.flat ++ q = p ++ (Rx.two n a b').flat ++ q:=by simp [Rx.flat]
    have ep2 : (p ++ [n] ++ a.flat).length = p.length + 1 + a.flat.length:=by simp; omega
    rw [e2,ep2] at ih2
    have hlt:=at_lt hap
    have hE : EndAt (p ++ (Rx.two n a b').flat ++ q) b off cap (p.length + 1) (p.length + 1 + a.flat.length):=by
      intro w hN
      have:=endOf_at _ b off cap (by unfold maxLen; omega) w hN ((p ++ (Rx.two n a b').flat ++ q).length + 1) (p.length + 1) (by omega)
      rw [show endF (p ++ (Rx.two n a b').flat ++ q) ((p ++ (Rx.two n a b').flat ++ q).length + 1) (p.length + 1) = some (p.length + 1 + a.flat.length) from hend] at this
      exact this
    rcases (prt_two n.op).1 h.1 with e | e
    · exact reach_cat _ b off cap _ _ hl n hpos e hlt s hs a b' ih ih2 hE
    · exact reach_or _ b off cap _ _ hl n hpos e hlt s hs a b' ih ih2 hE
def plcs (A : Nat → Bool) (k : Nat) : List Nat:=(List.range k).filter A
theorem plcs_succ (A : Nat → Bool) (k : Nat) : plcs A (k + 1) = if A k then plcs A k ++ [k] else plcs A k:=by
  unfold plcs
  rw [List.range_succ,List.filter_append]
  cases h : A k <;> simp [h]
theorem plcs_len (A : Nat → Bool) (k : Nat) : (plcs A k).length ≤ k:=by
  have:=List.length_filter_le A (List.range k)
  simpa [plcs] using this
theorem ends_plcs {s : List UInt8} {t : Rx} {i : Nat} {l : List Nat} (h : EndsR s t i l) (hi : i ≤ s.length) {B : Nat → Bool} (hB : Img s t (upd (fun _ => false) i true) B) : plcs B (s.length + 1) = l:=by
  refine rise_eq _ _ (List.Pairwise.filter _ List.pairwise_lt_range) h.1 fun j => ?_
  rw [plcs,List.mem_filter,List.mem_range,h.2 j]
  constructor
  · rintro ⟨hj,hb⟩
    obtain ⟨k,hk,ha,hf⟩:=(hB j (by omega)).1 hb
    unfold upd at ha
    split at ha
    · rename_i e; subst e; exact hf
    · cases ha
  · intro hf
    have:=fit_le s t i j hf
    exact ⟨by omega,(hB j (by omega)).2 ⟨i,hi,by simp [upd],hf⟩⟩
theorem endsOf_any (t : Rx) (ht : t.Ok) (v : Value) (s : ByteArray) (hs : s.size ≤ 1000000) (i : Nat) (hi : i ≤ s.size) (l : List Nat) (hE : EndsR s.data.toList t i l) (w : World) (hN : NsIn w v t.flat) (hr : ∀ n ∈ t.flat,(1 ≤ n.op ∧ n.op ≤ 9) ∧ n.c.ok) (hl : t.flat.length ≤ 60) :
    Calls Tryz.prog 65 #[v,.string s,.int .i64 (i : Int)] w fun e w' => ∃ u,e = .returned u ∧ Below w.heap.size w w' ∧ IsIn w' u l:=by
  obtain ⟨a,cap,rfl,hm,h | ⟨b,off,rfl,hlt,hn⟩⟩:=hN
  · have:=t.flat_pos; rw [h] at this; simp at this
  have hR:=reach_tree b off cap s hs t ht [] [] hr (by simpa using hl)
  simp only [List.nil_append,List.append_nil,List.length_nil] at hR
  have hmk:=mkB s.size hs
  have HR : Hid (Calls Tryz.prog 89 #[.slice (some ⟨b,off,none⟩) t.flat.length cap,.int .i64 0,.string s,.slice (some ⟨w.heap.size,0,none⟩) (s.size + 1) (s.size + 1)] (w.alloc (.cells ((rowB s.size fun _ => false).setIfInBounds i (.bool true)) 4)) (RchP (w.alloc (.cells ((rowB s.size fun _ => false).setIfInBounds i (.bool true)) 4)) s t (upd (fun _ => false) i true))):=by
    show Calls _ _ _ _ _
    rw [rowB_set]
    exact hR _ _ _ (by simp; omega) (hn.below (new_one w _) hlt) ((BsRow.new' w s.size _).isIn _)
  have HEP : Hid (∀ B,Img s.data.toList t (upd (fun _ => false) i true) B → plcs B (s.size + 1) = l):=fun B hB => by
    have:=ends_plcs hE (by rw [sl]; exact hi) hB
    rw [sl] at this
    exact this
  have i0 : (0 : Int) ≤ (i : Int):=by omega
  have i1 : (i : Int) < (s.size : Int) + 1:=by omega
  have e1 : IntKind.i64.wrap ((s.size : Int) + 1) = (s.size : Int) + 1:=by rw [IntKind.wrap_i64]; omega
  have f0:=(BsRow.new' w s.size fun _ => false).free i
  have g0:=(BsRow.new' w s.size fun _ => false).at i hi
  rw [Nat.zero_add] at g0
  clear hR hE hn hr ht
  go_enter Tryz.func65,Tryz.ntmps65
  go_wp2_with fail
  refine Calls.mono HR.out ?_
  rintro e w1 ⟨u1,B,rfl,hb1,hr1,hi1⟩
  have HPL:=hid (HEP.out B hi1)
  have HB1:=hid ((new_one w _).trans (hb1.mono (by simp)))
  obtain ⟨b1,o1,d1,rfl,l1,hx⟩:=hr1
  have HL:=hid l1
  have HX:=hid hx
  clear hi1 hb1 HEP HR f0 g0 l1 hx hmk i0 i1 e1
  go_wp2_with fail
  go_loopw [9,10] (fun vo vi wr => ∃ k : Nat,k ≤ s.size + 1 ∧ vi = .int .i64 k ∧ IsOwn wr w1.heap.size vo (plcs B k) ∧ Below w1.heap.size w1 wr) (fun _ v _ => s.size + 1 - (intOf v).toNat)
  case atStart => exact ⟨0,by omega,rfl,IsOwn.nil _ _,Below.refl _ _⟩
  case round =>
    obtain ⟨k,hk,rfl,hO,hb⟩:=hrel
    obtain ⟨ao,co,rfl⟩:=hO.form
    have k0 : (0 : Int) ≤ (k : Int):=by omega
    have hpl:=plcs_len B k
    have HO:=hid hO
    have HB:=hid hb
    by_cases hkl : k < s.size + 1
    · have k1 : (k : Int) < (s.size : Int) + 1:=by omega
      have HKL:=hid (show k < s.size + 1 from hkl)
      have a0:=(HX.out.below hb HL.out) k (by omega)
      clear hO hb
      cases hx : B k
      · rw [hx] at a0
        have HP : Hid (plcs B (k + 1) = plcs B k):=by show _ = _; rw [plcs_succ,hx]; rfl
        clear hx
        go_wp2_with fail
        exact ⟨⟨k + 1,HKL.out,by go_num,by rw [HP.out]; exact HO.out,HB.out⟩,by simp [intOf]; have:=HKL.out; omega⟩
      · rw [hx] at a0
        have HP : Hid (plcs B (k + 1) = plcs B k ++ [k]):=by show _ = _; rw [plcs_succ,hx]; rfl
        clear hx
        have HOA:=hid (HO.out.kept (new_one wr (.cells #[.int .i64 (k : Int)] 3)))
        go_wp2_with (at_builtin; refine wpList_append_is rfl _ _ rfl w1.heap.size _ rfl (plcs B k) HOA.out wr.heap.size 1 k rfl (by rw [World.cell?_alloc_at (w:=wr) _ _ wr.heap.size 0 rfl]; rfl) (by omega) (by have:=HB.out.size; simp; omega) ?_)
        intro g cap2 w2 hO2 hg2 _ _
        have HO2:=hid hO2
        have HB2:=hid ((HB.out.trans ((new_one wr (.cells #[.int .i64 (k : Int)] 3)).mono HB.out.size)).trans (HOA.out.grown (by have:=HB.out.size; simp; omega) hg2))
        clear hO2 hg2 HOA
        go_wp2_with fail
        exact ⟨⟨k + 1,HKL.out,by go_num,by rw [HP.out]; simpa using HO2.out,HB2.out⟩,by simp [intOf]; have:=HKL.out; omega⟩
    · obtain rfl : k = s.size + 1:=by omega
      clear hO hb
      go_wp2
      go_ret
      refine ⟨_,rfl,HB1.out.trans (HB.out.mono HB1.out.size),?_⟩
      rw [← HPL.out]
      exact HO.out.isIn (by unfold maxLen; omega)
def spO : Option (Nat × Nat) → Nat × Nat
  | none => (0,0)
  | some x => x
theorem put2_heap {w : World} {B : Nat} {a b : Value} {t : TypeId} (h : w.heap[B]? = some (.cells #[a,b] t (0,0))) (x y : Value) : ((w.setCell ⟨B,0,none⟩ x).setCell ⟨B,1,none⟩ y).heap[B]? = some (.cells #[x,y] t (0,0)):=by
  simp [World.setCell,Array.getElem?_modify,h]
theorem findOf_any (t : Rx) (ht : t.Ok) (v : Value) (s : ByteArray) (hs : s.size ≤ 400) (i : Nat) (r : Option (Nat × Nat)) (hr : FndR s.data.toList t i r) (hi : i ≤ s.size + 1) (w : World) (hN : NsIn w v t.flat) (ho : ∀ n ∈ t.flat,(1 ≤ n.op ∧ n.op ≤ 9) ∧ n.c.ok) (hl : t.flat.length ≤ 60) :
    Calls Tryz.prog 43 #[v,.string s,.int .i64 (i : Int)] w fun e w' => e = .returned (.tuple #[spV (spO r),.bool r.isSome]) ∧ Below w.heap.size w w':=by
  obtain ⟨o,hod⟩ : ∃ o : Obj,o = .cells #[.int .i64 0,.int .i64 0] 54:=⟨_,rfl⟩
  have hB0 : Below w.heap.size w (w.alloc o):=(Below.refl _ _).alloc (Nat.le_refl _) _
  have HC : Hid (∀ w',Below (w.alloc o).heap.size (w.alloc o) w' → w'.heap[w.heap.size]? = some (.cells #[.int .i64 0,.int .i64 0] 54 (0,0))):=fun w' hb => by
    rw [hb.block w.heap.size (by simp),heap_new w o,hod]
  have HE : Hid (∀ (k : Nat) (l : List Nat),k ≤ s.size → EndsR s.data.toList t k l → ∀ w',Below w.heap.size w w' → _):=fun k l hk hE w' hb => endsOf_any t ht v s (by omega) k hk l hE w' (hN.below hb) ho hl
  have HT : Hid (∀ k,∃ l,EndsR s.data.toList t k l):=fun k => ends_total _ t k
  have HR:=hid hr
  have hlen : s.data.toList.length = s.size:=by simp
  obtain ⟨va,vc,rfl,vm⟩ : ∃ a c,v = .slice a t.flat.length c ∧ t.flat.length ≤ maxLen:=by
    obtain ⟨a,c,h1,h2,_⟩:=hN
    exact ⟨a,c,h1,h2⟩
  clear hN hr ho
  go_enter Tryz.func43,Tryz.ntmps43
  go_wp2_with fail
  rw [← hod]
  clear hod
  go_loopw [8] (fun v wr => ∃ k : Nat,i ≤ k ∧ k ≤ s.size + 1 ∧ v = .int .i64 (k : Int) ∧ Hid (FndR s.data.toList t k r) ∧ Hid (Below (w.alloc o).heap.size (w.alloc o) wr)) (fun v _ => s.size + 1 - (intOf v).toNat)
  case atStart => exact ⟨i,Nat.le_refl _,hi,rfl,HR,Below.refl _ _⟩
  case round =>
    obtain ⟨k,hik,hk,rfl,HF,HB⟩:=hrel
    by_cases hks : k ≤ s.size
    · have g1 : (k : Int) ≤ (s.size : Int):=by omega
      obtain ⟨l,hl1⟩:=HT.out k
      have HBw : Hid (Below w.heap.size w wr):=hB0.trans (HB.out.mono (by simp))
      have C:=hid (HE.out k l hks hl1 wr HBw.out)
      have HL:=hid hl1
      clear hl1
      go_wp2_with fail
      refine Calls.mono C.out ?_
      rintro e w1 ⟨u,rfl,hb1,hu⟩
      have HB1:=hid (HB.out.trans (hb1.mono HB.out.size))
      clear hb1 C
      cases hlast : l.getLast? with
      | none =>
        have e0 : l = []:=List.getLast?_eq_none_iff.1 hlast
        subst e0
        obtain ⟨ua,uc,rfl,_⟩:=isIn_form hu
        have HF2:=hid (HF.out.unstep HL.out.none)
        simp only [List.length_nil]
        clear hu hlast HL HF
        go_wp2
        exact ⟨⟨k + 1,by omega,by omega,by go_num,HF2,HB1⟩,by simp [intOf]; omega⟩
      | some b =>
        have hne : l ≠ []:=fun e => by rw [e] at hlast; cases hlast
        obtain ⟨ua,uc,rfl,um,hu0 | ⟨gb,go,rfl,glt,gat⟩⟩:=hu
        · exact absurd hu0 hne
        have hl0 : 0 < l.length:=List.length_pos_iff.2 hne
        have hg:=gat (l.length - 1) b (by rw [List.getLast?_eq_getElem?] at hlast; exact hlast)
        have e1 : (l.length : Int) - 1 = ((l.length - 1 : Nat) : Int):=by omega
        have e2 : (0 : Int) < (l.length : Int):=by omega
        have hll:=HL.out.len
        have e3 : ((l.length - 1 : Nat) : Int) < (l.length : Int):=by omega
        have hw1 : IntKind.i64.wrap ((l.length : Int) - 1) = ((l.length - 1 : Nat) : Int):=by rw [IntKind.wrap_i64]; omega
        have hrs : r = some (k,b):=HF.out.uniq (FndR.here HL.out hlast)
        have hz:=HC.out w1 HB1.out
        have z0 : w1.cell? ⟨w.heap.size,0,none⟩ = some (.int .i64 0):=(Lib.cell_of_heap hz 0).trans rfl
        have z1 : w1.cell? ⟨w.heap.size,1,none⟩ = some (.int .i64 0):=(Lib.cell_of_heap hz 1).trans rfl
        have f0:=Lib.frozen_of_heap hz 0
        have f1:=Lib.frozen_of_heap hz 1
        have HZ:=hid hz
        have HRS:=hid hrs
        clear hrs gat HL HF hlast hne hll hz e1
        go_wp2
        have hp:=put2_heap HZ.out (.int .i64 (k : Int)) (.int .i64 (b : Int))
        have p0:=(Lib.cell_of_heap hp 0).trans (show _ = some (.int .i64 (k : Int)) from rfl)
        have p1:=(Lib.cell_of_heap hp 1).trans (show _ = some (.int .i64 (b : Int)) from rfl)
        refine bodyPost_ret (v:=.tuple #[spV (k,b),.bool true]) (by simp [results,Tryz.results43,go_sem,p0,p1]) rfl ⟨by rw [HRS.out]; rfl,?_⟩
        exact ((hB0.trans (HB1.out.mono (by simp))).setCell (p:=⟨w.heap.size,0,none⟩) (Nat.le_refl _) _).setCell (p:=⟨w.heap.size,1,none⟩) (Nat.le_refl _) _
    · have hkk : k = s.size + 1:=by omega
      have g1 : ¬ (k : Int) ≤ (s.size : Int):=by omega
      have hrs : r = none:=HF.out.uniq (FndR.out (by omega))
      have hz:=HC.out wr HB.out
      have z0 : wr.cell? ⟨w.heap.size,0,none⟩ = some (.int .i64 0):=(Lib.cell_of_heap hz 0).trans rfl
      have z1 : wr.cell? ⟨w.heap.size,1,none⟩ = some (.int .i64 0):=(Lib.cell_of_heap hz 1).trans rfl
      have f0:=Lib.frozen_of_heap hz 0
      have f1:=Lib.frozen_of_heap hz 1
      have HZ:=hid hz
      have HRS:=hid hrs
      clear hrs hz HF
      go_wp2
      have hp:=put2_heap HZ.out (.int .i64 0) (.int .i64 0)
      have p0:=(Lib.cell_of_heap hp 0).trans (show _ = some (.int .i64 0) from rfl)
      have p1:=(Lib.cell_of_heap hp 1).trans (show _ = some (.int .i64 0) from rfl)
      refine bodyPost_ret (v:=.tuple #[spV (0,0),.bool false]) (by simp [results,Tryz.results43,go_sem,p0,p1]) rfl ⟨by rw [HRS.out]; rfl,?_⟩
      exact ((hB0.trans (HB.out.mono (by simp))).setCell (p:=⟨w.heap.size,0,none⟩) (Nat.le_refl _) _).setCell (p:=⟨w.heap.size,1,none⟩) (Nat.le_refl _) _
end Go.Proofs.YtcjghhedphmhkaaGreatDoor
