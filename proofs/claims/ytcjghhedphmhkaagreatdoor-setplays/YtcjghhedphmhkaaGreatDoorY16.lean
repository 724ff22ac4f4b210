/- Own texts. -/
import Derived.Test.YtcjghhedphmhkaaGreatDoorY15
set_option linter.unusedSimpArgs false
set_option linter.unusedVariables false
set_option maxRecDepth 100000
set_option maxHeartbeats 8000000
namespace Go.Proofs.YtcjghhedphmhkaaGreatDoor
open Go.RowKit
structure AlInv (w : World) (g : Nat) (s : ByteArray) (l : List UInt8) (R : Except Nat (List Rx × List UInt8)) (sv : Value) (wr : World) (svs : List Value) (ss : List Rx) (m : List UInt8) : Prop where
  al : AlS w g wr sv svs (ss.map Rx.flat)
  at_ : At wr g s m
  rem : AltRem R ss m
  sz : szL (ss.map Rx.flat) + ss.length + 2 * m.length ≤ 2 * l.length + 2
  len : m.length ≤ l.length
def InInv (w : World) (g : Nat) (s : ByteArray) (l m0 : List UInt8) (RS : Except Nat (List Rx × List UInt8)) (NB : Nat) (sv : Value) (svs : List Value) (snss : List (List Nd)) (av : Value) (wr : World) (avs : List Value) (anss : List (List Nd)) : Prop :=
  AtS w g NB wr sv svs snss av avs anss ∧ ((∃ xs m,anss = xs.map Rx.flat ∧ At wr g s m ∧ SeqRem RS xs m ∧ szL anss + anss.length + 2 * m.length ≤ 2 * m0.length ∧ m.length ≤ m0.length) ∨ (∃ k,RS = .error k ∧ Bad wr g s k l.length ∧ anss ≠ [] ∧ szL anss + anss.length ≤ 2 * m0.length + 2))
def AtomsC (g : Nat) (s : ByteArray) (l : List UInt8) : Prop:=∀ m : List UInt8,m.length ≤ l.length → (∀ p,Atom m (.ok p) → AtomOkC g s m p) ∧ (∀ k,Atom m (.error k) → AtomBadC g s m k)
def AllAns (w : World) (g : Nat) (s : ByteArray) (l : List UInt8) (R : Except Nat (List Rx × List UInt8)) (u : Value) (nss : List (List Nd)) (w' : World) : Prop :=
  NsOwn w' w.heap.size u (orL nss) ∧ ((∃ ss m,R = .ok (ss,m) ∧ nss = ss.map Rx.flat ∧ At w' g s m) ∨ (∃ k,R = .error k ∧ nss ≠ [] ∧ szL nss + nss.length ≤ 2 * l.length + 4 ∧ Bad w' g s k l.length ∧ 0 < (orL nss).length))
def AllPost (w : World) (g : Nat) (s : ByteArray) (l : List UInt8) (R : Except Nat (List Rx × List UInt8)) (e : Ending) (w' : World) : Prop:=w.grownBy w' (some g) ∧ ∃ u nss,e = .returned u ∧ AllAns w g s l R u nss w'
theorem own_alloc1 (w : World) (u : Value) : (w.alloc (.cells #[u] 60)).cell? ⟨w.heap.size,0,none⟩ = some u:=by
  have e : (w.alloc (.cells #[u] 60)).heap[w.heap.size]? = some (.cells #[u] 60 (0,0)):=by show (w.heap.push _)[w.heap.size]? = _; simp
  rw [Lib.cell_of_heap e]
  rfl
theorem NsOwn.form0 {w : World} {B : Nat} {v : Value} {ns : List Nd} (h : NsOwn w B v ns) : ∃ a cap,v = .slice a ns.length cap:=by
  rcases h.2 with ⟨hv,h0⟩ | ⟨b,cap,cur,hv,_⟩
  · have : ns.length = 0:=h0
    exact ⟨none,0,by rw [hv,this]⟩
  · exact ⟨_,cap,hv⟩
theorem ob_le {a b off n cap k : Nat} (h : (Value.slice (some ⟨a,off,none⟩) n cap).ownBlock = some k) (hab : b ≤ a) : b ≤ k:=by
  injection h with h
  simp only at h
  omega
theorem NsOwn.cast {w : World} {B n n' cap : Nat} {p : Option Addr} {xs : List Nd} (h : NsOwn w B (.slice p n cap) xs) (e : n = n') : NsOwn w B (.slice p n' cap) xs:=by rw [← e]; exact h
theorem szL_get : ∀ (xs : List (List Nd)) (j : Nat) (x : List Nd),xs[j]? = some x → x.length ≤ szL xs
  | [],j,x,h => by simp at h
  | a :: r,0,x,h => by simp at h; subst h; simp [szL]
  | a :: r,j + 1,x,h => by
    have:=szL_get r j x (by simpa using h)
    simp [szL]; omega
theorem all_walk (g : Nat) (s : ByteArray) (l : List UInt8) (hs : s.size ≤ 1000) (hC : AtomsC g s l) (R : Except Nat (List Rx × List UInt8)) (hR : Alt l R) (w : World) (hA : At w g s l) :
    Calls Tryz.prog 37 #[.pointer (some ⟨g,0,none⟩)] w fun e w' => AllPost w g s l R e w':=by
  have hgl:=hA.lt
  have hll:=hA.len
  have HC : Hid _:=hC
  have HI : Hid (AlInv w g s l R (.slice none 0 0) w [] [] l):=⟨⟨World.grownBy.refl _ _,hgl,VsOwn.nil _ _,trivial⟩,hA,AltRem.start hR,by simp [szL],Nat.le_refl _⟩
  clear hC hR
  obtain ⟨a1,ha1,hd1,hR1⟩:=hA
  obtain ⟨c0,c1,c2,f1,f2⟩:=hR1.all
  clear hd1 hR1
  go_enter Tryz.func37,Tryz.ntmps37
  go_wp2_with fail
  go_loopw [3] (fun sv wr => ∃ svs ss m,Hid (AlInv w g s l R sv wr svs ss m)) (fun _ wr => rdMeas wr g s.size)
  case atStart => exact ⟨_,_,_,HI⟩
  case round =>
    obtain ⟨svs,ss,m0,HV⟩:=hrel
    clear HI c0 c1 c2 f1 f2
    have MS : Hid (rdMeas wr g s.size = m0.length + 1):=HV.out.at_.meas
    obtain ⟨RS,hSeq,hNext⟩:=HV.out.rem.step
    have HN : Hid _:=hNext
    have hml:=HV.out.len
    obtain ⟨a1,ha1,hd1,hR1⟩:=HV.out.at_
    obtain ⟨c0,c1,c2,f1,f2⟩:=hR1.all
    obtain ⟨NB,hNB⟩ : ∃ NB : Nat,NB = wr.heap.size:=⟨_,rfl⟩
    have HJ : Hid (InInv w g s l m0 RS NB u3 svs (ss.map Rx.flat) (.slice none 0 0) wr [] []) :=
      ⟨by rw [hNB]; exact HV.out.al.open_,Or.inl ⟨[],m0,rfl,HV.out.at_,SeqRem.start hSeq,by simp [szL],Nat.le_refl _⟩⟩
    clear hd1 hR1 hNext hSeq
    go_wp2_with fail
    go_loopw [4] (fun av wx => ∃ avs anss,Hid (InInv w g s l m0 RS NB u3 svs (ss.map Rx.flat) av wx avs anss)) (fun _ wx => rdMeas wx g s.size)
    case atStart => exact ⟨_,_,HJ⟩
    case round =>
      obtain ⟨avs,anss,HW⟩:=hrel
      clear HJ c0 c1 c2 f1 f2
      obtain ⟨hS,⟨xs,m,hxs,hA,hrem,hsz,hmm⟩ | ⟨k,hRS,hBd,hne,hsz⟩⟩:=HW.out
      · have MS2 : Hid (rdMeas wr g s.size = m.length + 1):=hA.meas
        have HS : Hid _:=hS
        have HAt : Hid _:=hA
        have HRm : Hid _:=hrem
        have hal:=hS.apool.len
        obtain ⟨av0,acap,hav⟩:=hS.arow.form
        obtain ⟨a2,ha2,hd2,hR2⟩:=hA
        obtain ⟨c0,c1,c2,f1,f2⟩:=hR2.all
        cases m with
        | nil =>
          have hq : decide (a2 < s.size) = false:=by simp; simp at ha2; omega
          have HRS : Hid (RS = .ok (xs,[])):=SeqRem.stop HRm.out rfl
          rw [hal] at hav
          have HXS : Hid _:=hxs
          have hsz2 : szL anss + anss.length ≤ 2000:=by simp at hsz; omega
          subst hav
          clear hS hR2 hd2 hrem  hxs hal
          go_wp2_with fail
          go_quiet (fail)
          have HX : Hid _:=HS.out.below (below_drewN' wr nq)
          have HAX : Hid _:=At.below HAt.out (below_drewN' wr nq)
          clear c0 c1 c2 f1 f2 HS
          generalize wr.drewN nq = WS at *
          have HX0 : Hid _:=HX.out.toAlS
          go_wp2_with fail
          go_loopw [6,7] (fun x i wx => ∃ (j : Nat) (q : List Nd),j ≤ anss.length ∧ i = .int .i64 ((j : Int) - 1) ∧ Hid (NsOwn wx w.heap.size x q) ∧ Hid (q = if j = anss.length then [⟨2,z4⟩] else catL (anss.drop j)) ∧ (j < anss.length → 0 < q.length) ∧ Hid (Below WS.heap.size WS wx)) (fun _ i _ => (intOf i + 1).toNat)
          case atStart => exact ⟨anss.length,[⟨2,z4⟩],Nat.le_refl _,by go_num,(own_one WS ⟨2,z4⟩).down HX.out.gr.size,by rw [if_pos rfl]; exact (Eq.refl _),fun h => absurd h (Nat.lt_irrefl _),below_one _ _⟩
          case round =>
            obtain ⟨j,q,hj,rfl,HO,HQ,hq0,HBw⟩:=hrel
            have HXr : Hid _:=HX.out.below HBw.out
            cases j with
            | zero =>
              have HQ3 : Hid (q = catL anss):=by
                show _ = _
                rw [HQ.out]
                split
                · rename_i h
                  have : anss = []:=List.eq_nil_of_length_eq_zero h.symm
                  rw [this]; rfl
                · rw [List.drop_zero]
              have hq3 : 0 < q.length:=by
                rcases Nat.eq_zero_or_pos anss.length with h | h
                · rw [HQ.out,if_pos h.symm]; simp
                · exact hq0 h
              have HQL : Hid (q.length ≤ szL anss + anss.length + 1):=by show _ ≤ _; rw [HQ3.out]; exact catL_len anss
              obtain ⟨ua,ucap,hu⟩:=NsOwn.form0 HO.out
              have HS6 : Hid _:=HXr.out.toAlS.below (below_one wr (.cells #[.slice ua q.length ucap] 60))
              have HA6 : Hid _:=At.below (At.below HAX.out HBw.out) (below_one wr (.cells #[.slice ua q.length ucap] 60))
              have hsvl : svs.length ≤ 3000:=by
                have h1:=HV.out.al.pool.len
                have h2:=HV.out.sz
                simp at h1
                omega
              subst hu
              go_wp2_with (at_builtin; refine wpList_append_vs (by rfl) _ _ (by rfl) w.heap.size _ (by rfl) svs HS6.out.row wr.heap.size _ _ (.slice ua q.length ucap) (by rfl) (by rfl) (by rfl) (own_alloc1 _ _) (by omega) HS6.out.gr.size ?_; intro g7 cap7 w7 ho7 hg7 hb7; have O7 : Hid _:=ho7; have G7 : Hid _:=hg7; clear ho7 hg7 hb7)
              have HS7 : Hid _:=HS6.out.push (NsOwn.below HO.out (below_one _ _)) hq3 G7.out O7.out
              have HA7 : Hid _:=At.kept HA6.out G7.out HS6.out.ne
              clear HA6 O7 G7
              have C5 : Hid _:=sees_at g s ([] : List UInt8) 124 124 rfl hs w7 HA7.out
              rw [show decide (([] : List UInt8).head? = some 124) = false from rfl] at C5
              refine Calls.mono C5.out ?_
              rintro e w8 ⟨rfl,hb8⟩
              clear C5
              have HRF : Hid (R = .ok (ss ++ [cats xs],([] : List UInt8))):=by
                have h:=HN.out
                rw [HRS.out] at h
                rcases h with ⟨_,h⟩ | ⟨l2,h,_⟩
                · exact h
                · cases h
              have HX2 : Hid _:=HS7.out.below hb8
              have HAF : Hid _:=At.below HA7.out hb8
              obtain ⟨nss,hnss⟩ : ∃ nss : List (List Nd),nss = ss.map Rx.flat ++ [q]:=⟨_,rfl⟩
              rw [← hnss] at HX2
              have hpl : svs.length + 1 = nss.length:=by rw [hnss,List.length_append,HV.out.al.pool.len]; rfl
              rw [hpl] at HX2
              have HX0 : Hid _:=HX2.out
              have HNS : Hid (nss = (ss ++ [cats xs]).map Rx.flat):=by show _ = _; rw [hnss,List.map_append,HQ3.out,HXS.out]; simp [cats_flat]
              have hbnd : szL nss + nss.length ≤ 8000:=by
                have h1:=HV.out.sz
                have h2:=HQL.out
                rw [hnss]
                simp [szL_app,szL] at h1 h2 ⊢
                omega
              have hn1 : 0 < nss.length:=by omega
              have HNQ : Hid _:=hnss
              clear hb8 HS7 HA7 HX HAX HXr HO HQ HBw hq0 HS6
              rw [hpl]
              clear hnss hpl
              go_wp2_with fail
              go_loopw [10,11] (fun x i wx => ∃ (j : Nat) (q : List Nd),j ≤ nss.length ∧ i = .int .i64 ((j : Int) - 1) ∧ Hid (NsOwn wx w.heap.size x q) ∧ Hid (q = if j = nss.length then [] else orL (nss.drop j)) ∧ (j < nss.length → 0 < q.length) ∧ Hid (Below w8.heap.size w8 wx)) (fun _ i _ => (intOf i + 1).toNat)
              case atStart => exact ⟨nss.length,[],Nat.le_refl _,by go_num,⟨rfl,Or.inl ⟨rfl,rfl⟩⟩,by rw [if_pos rfl]; exact (Eq.refl _),fun h => absurd h (Nat.lt_irrefl _),Below.refl _ _⟩
              case round =>
                obtain ⟨j,q,hj,rfl,HO,HQ,hq0,HBw⟩:=hrel
                have HXr : Hid _:=HX2.out.below HBw.out
                cases j with
                | zero =>
                  have HOF : Hid (AllAns w g s l R u10 nss wr):=by
                    refine ⟨?_,Or.inl ⟨ss ++ [cats xs],([] : List UInt8),HRF.out,HNS.out,At.below HAF.out HBw.out⟩⟩
                    have h:=HO.out
                    rw [HQ.out,if_neg (by omega),List.drop_zero] at h
                    exact h
                  have HGF : Hid _:=HXr.out.gr
                  go_wp2
                  go_ret
                  exact ⟨HGF.out,_,nss,rfl,HOF.out⟩
                | succ j =>
                  obtain ⟨ns,hns⟩ : ∃ ns,nss[j]? = some ns:=⟨nss[j],List.getElem?_eq_getElem (by omega)⟩
                  obtain ⟨y,hy,hyo,hy0⟩:=HXr.out.pool.get j ns hns
                  obtain ⟨ab,acap2,hav2,hab,hcells⟩:=HXr.out.row.form1 (by have:=HXr.out.pool.len; omega)
                  have hcy:=hcells j y hy
                  injection hav2 with hav3 hav4 hav5
                  clear hav4 hav5
                  first
                    | subst hav3
                    | (injection hav3 with hav3; injection hav3 with hav3 _ _; subst hav3)
                  obtain ⟨gy,capy,hyv,_,hgy,hcy2⟩:=hyo.form hy0
                  have HYO : Hid _:=hyo
                  have HDr : Hid _:=orL_drop nss j ns hns
                  have hnsl:=szL_get nss j ns hns
                  subst hyv
                  clear hcells hy hns hyo
                  rw [show ((j + 1 : Nat) : Int) - 1 = (j : Int) from by omega]
                  have j0 : (0 : Int) ≤ (j : Int):=by omega
                  have j1 : (j : Int) < (nss.length : Int):=by omega
                  by_cases hjl : j + 1 = nss.length
                  · have hjb : ((j : Int) == (nss.length : Int) - 1) = true:=by rw [beq_iff_eq]; omega
                    clear hcy2
                    go_wp2
                    refine ⟨⟨j,ns,by omega,by go_num,HYO,?_,fun _ => hy0,HBw⟩,by simp [intOf]; try omega⟩
                    show _ = _
                    rw [if_neg (by omega),HDr.out,if_pos hjl]
                  · have hjb : ((j : Int) == (nss.length : Int) - 1) = false:=by rw [beq_eq_false_iff_ne]; omega
                    have hq1:=hq0 (by omega)
                    have HQ2 : Hid (q = orL (nss.drop (j + 1))):=by show _ = _; rw [HQ.out,if_neg hjl]
                    have hql : q.length ≤ 9000:=by
                      rw [HQ2.out]
                      have h1:=orL_len (nss.drop (j + 1))
                      have h2:=szL_drop nss (j + 1)
                      have h3 : (nss.drop (j + 1)).length ≤ nss.length:=by rw [List.length_drop]; omega
                      omega
                    obtain ⟨gq,capq,hqv,_,hgq,hcq⟩:=HO.out.form hq1
                    have J1 : Hid _:=own_one wr ⟨4,z4⟩
                    have JC1 : Hid (∀ (k : Nat) u,(nsCells ns)[k]? = some u → (wr.alloc (ndOb 4 z4)).cell? ⟨gy,k,none⟩ = some u):=fun k u hk => ((below_one wr _).cell (p:=⟨gy,k,none⟩) hgy).trans (hcy2 k u hk)
                    have JC2 : Hid (∀ (k : Nat) u,(nsCells q)[k]? = some u → wr.cell? ⟨gq,k,none⟩ = some u):=hcq
                    have HGQ : Hid _:=hgq
                    have hnl : ns.length ≤ 9000:=by omega
                    subst hqv
                    clear hcy2 hcq hgq
                    go_wp2_with (at_builtin; first
                      | (refine wpList_append_ns (by rfl) _ _ (by rfl) wr.heap.size _ (by rfl) _ J1.out gy _ _ ns (by rfl) (by rfl) JC1.out hy0 (by simp; omega) (by simp) ?_; intro g5 cap5 w5 ho5 hg5 hb5 hl5; have O5 : Hid _:=ho5; have B5 : Hid (Below wr.heap.size wr w5):=(below_one wr _).grown hg5 (below_one wr _).size (fun k hk => ob_le hk (Nat.le_refl _)); have HB5g : Hid _:=hb5; clear ho5 hg5 hb5 hl5)
                      | (refine wpList_append_ns (by rfl) _ _ (by rfl) wr.heap.size _ (by rfl) _ O5.out gq _ _ q (by rfl) (by rfl) (fun k u hk => (B5.out.cell (p:=⟨gq,k,none⟩) HGQ.out).trans (JC2.out k u hk)) hq1 (by simp; omega) B5.out.size ?_; intro g6 cap6 w6 ho6 hg6 hb6 hl6; have O6 : Hid (NsOwn w6 wr.heap.size (.slice (some ⟨g6,0,none⟩) (([(⟨4,z4⟩ : Nd)] ++ ns).length + q.length) cap6) ([(⟨4,z4⟩ : Nd)] ++ ns ++ q)):=ho6; have B6 : Hid (Below wr.heap.size wr w6):=B5.out.grown hg6 B5.out.size (fun k hk => ob_le hk HB5g.out); clear ho6 hg6 hb6 hl6))
                    have O7 : Hid (NsOwn w6 w.heap.size (.slice (some ⟨g6,0,none⟩) (ns.length + 1 + q.length) cap6) (⟨4,z4⟩ :: (ns ++ q))):=by
                      have h:=NsOwn.down (NsOwn.cast (n':=ns.length + 1 + q.length) O6.out (by simp)) (Nat.le_trans HX0.out.gr.size HBw.out.size)
                      have e : [(⟨4,z4⟩ : Nd)] ++ ns ++ q = ⟨4,z4⟩ :: (ns ++ q):=by simp
                      rw [e] at h
                      exact h
                    refine ⟨⟨j,⟨4,z4⟩ :: (ns ++ q),by omega,by go_num,O7,?_,fun _ => by simp,HBw.out.trans (B6.out.mono HBw.out.size)⟩,by simp [intOf]; try omega⟩
                    show _ = _
                    rw [if_neg (by omega),HDr.out,if_neg hjl,HQ2.out]
            | succ j =>
              obtain ⟨ns,hns⟩ : ∃ ns,anss[j]? = some ns:=⟨anss[j],List.getElem?_eq_getElem (by omega)⟩
              obtain ⟨y,hy,hyo,hy0⟩:=HXr.out.apool.get j ns hns
              obtain ⟨ab,acap2,hav2,hab,hcells⟩:=HXr.out.arow.form1 (by have:=HXr.out.apool.len; omega)
              have hcy:=hcells j y hy
              injection hav2 with hav3 hav4 hav5
              clear hav4 hav5
              first
                | subst hav3
                | (injection hav3 with hav3; injection hav3 with hav3 _ _; subst hav3)
              obtain ⟨gy,capy,hyv,_,hgy,hcy2⟩:=hyo.form hy0
              have HYO : Hid _:=hyo
              have HDr : Hid _:=catL_drop anss j ns hns
              have hnsl:=szL_get anss j ns hns
              subst hyv
              clear hcells hy hns hyo
              rw [show ((j + 1 : Nat) : Int) - 1 = (j : Int) from by omega]
              have j0 : (0 : Int) ≤ (j : Int):=by omega
              have j1 : (j : Int) < (anss.length : Int):=by omega
              by_cases hjl : j + 1 = anss.length
              · have hjb : ((j : Int) == (anss.length : Int) - 1) = true:=by rw [beq_iff_eq]; omega
                clear hcy2
                go_wp2
                refine ⟨⟨j,ns,by omega,by go_num,HYO,?_,fun _ => hy0,HBw⟩,by simp [intOf]; try omega⟩
                show _ = _
                rw [if_neg (by omega),HDr.out,if_pos hjl]
              · have hjb : ((j : Int) == (anss.length : Int) - 1) = false:=by rw [beq_eq_false_iff_ne]; omega
                have hq1:=hq0 (by omega)
                have HQ2 : Hid (q = catL (anss.drop (j + 1))):=by show _ = _; rw [HQ.out,if_neg hjl]
                have hql : q.length ≤ 9000:=by
                  rw [HQ2.out]
                  have h1:=catL_len (anss.drop (j + 1))
                  have h2:=szL_drop anss (j + 1)
                  have h3 : (anss.drop (j + 1)).length ≤ anss.length:=by rw [List.length_drop]; omega
                  omega
                obtain ⟨gq,capq,hqv,_,hgq,hcq⟩:=HO.out.form hq1
                have J1 : Hid _:=own_one wr ⟨3,z4⟩
                have JC1 : Hid (∀ (k : Nat) u,(nsCells ns)[k]? = some u → (wr.alloc (ndOb 3 z4)).cell? ⟨gy,k,none⟩ = some u):=fun k u hk => ((below_one wr _).cell (p:=⟨gy,k,none⟩) hgy).trans (hcy2 k u hk)
                have JC2 : Hid (∀ (k : Nat) u,(nsCells q)[k]? = some u → wr.cell? ⟨gq,k,none⟩ = some u):=hcq
                have HGQ : Hid _:=hgq
                have hnl : ns.length ≤ 9000:=by omega
                subst hqv
                clear hcy2 hcq hgq
                go_wp2_with (at_builtin; first
                  | (refine wpList_append_ns (by rfl) _ _ (by rfl) wr.heap.size _ (by rfl) _ J1.out gy _ _ ns (by rfl) (by rfl) JC1.out hy0 (by simp; omega) (by simp) ?_; intro g5 cap5 w5 ho5 hg5 hb5 hl5; have O5 : Hid _:=ho5; have B5 : Hid (Below wr.heap.size wr w5):=(below_one wr _).grown hg5 (below_one wr _).size (fun k hk => ob_le hk (Nat.le_refl _)); have HB5g : Hid _:=hb5; clear ho5 hg5 hb5 hl5)
                  | (refine wpList_append_ns (by rfl) _ _ (by rfl) wr.heap.size _ (by rfl) _ O5.out gq _ _ q (by rfl) (by rfl) (fun k u hk => (B5.out.cell (p:=⟨gq,k,none⟩) HGQ.out).trans (JC2.out k u hk)) hq1 (by simp; omega) B5.out.size ?_; intro g6 cap6 w6 ho6 hg6 hb6 hl6; have O6 : Hid (NsOwn w6 wr.heap.size (.slice (some ⟨g6,0,none⟩) (([(⟨3,z4⟩ : Nd)] ++ ns).length + q.length) cap6) ([(⟨3,z4⟩ : Nd)] ++ ns ++ q)):=ho6; have B6 : Hid (Below wr.heap.size wr w6):=B5.out.grown hg6 B5.out.size (fun k hk => ob_le hk HB5g.out); clear ho6 hg6 hb6 hl6))
                have O7 : Hid (NsOwn w6 w.heap.size (.slice (some ⟨g6,0,none⟩) (ns.length + 1 + q.length) cap6) (⟨3,z4⟩ :: (ns ++ q))):=by
                  have h:=NsOwn.down (NsOwn.cast (n':=ns.length + 1 + q.length) O6.out (by simp)) (Nat.le_trans HX0.out.gr.size HBw.out.size)
                  have e : [(⟨3,z4⟩ : Nd)] ++ ns ++ q = ⟨3,z4⟩ :: (ns ++ q):=by simp
                  rw [e] at h
                  exact h
                refine ⟨⟨j,⟨3,z4⟩ :: (ns ++ q),by omega,by go_num,O7,?_,fun _ => by simp,HBw.out.trans (B6.out.mono HBw.out.size)⟩,by simp [intOf]; try omega⟩
                show _ = _
                rw [if_neg (by omega),HDr.out,if_neg hjl,HQ2.out]
        | cons c r =>
          obtain ⟨x1,x2,x3⟩:=drop_cons _ _ _ _ hd2
          simp at ha2
          have hq : decide (a2 < s.size) = true:=by simp; omega
          have hi:=idx_at s a2 c x1
          by_cases h124 : c = 124
          · subst h124
            have hi : ∀ w,(Instr.index 9 (.string s) (.int .i64 (a2 : Int))).run Tryz.prog w = .ok (.int .u8 124) w:=idx_at s a2 124 x1
            have HRS : Hid (RS = .ok (xs,124 :: r)):=SeqRem.stop HRm.out rfl
            rw [hal] at hav
            have HXS : Hid _:=hxs
            have hsz2 : szL anss + anss.length ≤ 2000:=by simp at hsz; omega
            subst hav
            clear hS hR2 hd2 hrem x1 x2 x3 hxs hal
            go_wp2_with fail
            go_quiet (fail)
            have HX : Hid _:=HS.out.below (below_drewN' wr nq)
            have HAX : Hid _:=At.below HAt.out (below_drewN' wr nq)
            clear c0 c1 c2 f1 f2 HS
            generalize wr.drewN nq = WS at *
            have HX0 : Hid _:=HX.out.toAlS
            go_wp2_with fail
            go_loopw [6,7] (fun x i wx => ∃ (j : Nat) (q : List Nd),j ≤ anss.length ∧ i = .int .i64 ((j : Int) - 1) ∧ Hid (NsOwn wx w.heap.size x q) ∧ Hid (q = if j = anss.length then [⟨2,z4⟩] else catL (anss.drop j)) ∧ (j < anss.length → 0 < q.length) ∧ Hid (Below WS.heap.size WS wx)) (fun _ i _ => (intOf i + 1).toNat)
            case atStart => exact ⟨anss.length,[⟨2,z4⟩],Nat.le_refl _,by go_num,(own_one WS ⟨2,z4⟩).down HX.out.gr.size,by rw [if_pos rfl]; exact (Eq.refl _),fun h => absurd h (Nat.lt_irrefl _),below_one _ _⟩
            case round =>
              obtain ⟨j,q,hj,rfl,HO,HQ,hq0,HBw⟩:=hrel
              have HXr : Hid _:=HX.out.below HBw.out
              cases j with
              | zero =>
                have HQ3 : Hid (q = catL anss):=by
                  show _ = _
                  rw [HQ.out]
                  split
                  · rename_i h
                    have : anss = []:=List.eq_nil_of_length_eq_zero h.symm
                    rw [this]; rfl
                  · rw [List.drop_zero]
                have hq3 : 0 < q.length:=by
                  rcases Nat.eq_zero_or_pos anss.length with h | h
                  · rw [HQ.out,if_pos h.symm]; simp
                  · exact hq0 h
                have HQL : Hid (q.length ≤ szL anss + anss.length + 1):=by show _ ≤ _; rw [HQ3.out]; exact catL_len anss
                obtain ⟨ua,ucap,hu⟩:=NsOwn.form0 HO.out
                have HS6 : Hid _:=HXr.out.toAlS.below (below_one wr (.cells #[.slice ua q.length ucap] 60))
                have HA6 : Hid _:=At.below (At.below HAX.out HBw.out) (below_one wr (.cells #[.slice ua q.length ucap] 60))
                have hsvl : svs.length ≤ 3000:=by
                  have h1:=HV.out.al.pool.len
                  have h2:=HV.out.sz
                  simp at h1
                  omega
                subst hu
                go_wp2_with (at_builtin; refine wpList_append_vs (by rfl) _ _ (by rfl) w.heap.size _ (by rfl) svs HS6.out.row wr.heap.size _ _ (.slice ua q.length ucap) (by rfl) (by rfl) (by rfl) (own_alloc1 _ _) (by omega) HS6.out.gr.size ?_; intro g7 cap7 w7 ho7 hg7 hb7; have O7 : Hid _:=ho7; have G7 : Hid _:=hg7; clear ho7 hg7 hb7)
                have HS7 : Hid _:=HS6.out.push (NsOwn.below HO.out (below_one _ _)) hq3 G7.out O7.out
                have HA7 : Hid _:=At.kept HA6.out G7.out HS6.out.ne
                clear HA6 O7 G7
                have C5 : Hid _:=sees_at g s (124 :: r) 124 124 rfl hs w7 HA7.out
                rw [show decide ((124 :: r).head? = some 124) = true from rfl] at C5
                refine Calls.mono C5.out ?_
                rintro e w8 ⟨rfl,hb8⟩
                have hA8:=At.below HA7.out hb8
                have HS8 : Hid _:=HS7.out.below hb8
                obtain ⟨a8,hR8,ha8,hA9⟩:=hA8.step
                obtain ⟨c0,c1,c2,f1,f2⟩:=hR8.all
                have hrem9 : AltRem R (ss ++ [cats xs]) r:=by
                  have h:=HN.out
                  rw [HRS.out] at h
                  rcases h with ⟨h,_⟩ | ⟨l2,h,h2⟩
                  · exact absurd rfl h
                  · injection h with _ h
                    subst h
                    exact h2
                have hmp : (ss ++ [cats xs]).map Rx.flat = ss.map Rx.flat ++ [q]:=by rw [List.map_append,HQ3.out,HXS.out]; simp [cats_flat]
                have HE : Hid (AlInv w g s l R (.slice (some ⟨g7,0,none⟩) (svs.length + 1) cap7) (w8.setCell ⟨g,1,none⟩ (.int .i64 ((a8 : Int) + 1))) (svs ++ [.slice ua q.length ucap]) (ss ++ [cats xs]) r):=by
                  refine ⟨?_,hA9,hrem9,?_,by simp at hmm; omega⟩
                  · rw [hmp]; exact HS8.out.grown (grown_at _ _ _ _)
                  · rw [hmp]
                    have h1:=HV.out.sz
                    have h2:=HQL.out
                    have h3:=hsz
                    simp [szL_app,szL] at h1 h2 h3 ⊢
                    omega
                have MSE : Hid (rdMeas (w8.setCell ⟨g,1,none⟩ (.int .i64 ((a8 : Int) + 1))) g s.size = r.length + 1):=hA9.meas
                clear hA8 hR8 hA9 hb8 C5
                go_wp2
                exact ⟨⟨_,_,_,HE⟩,by rw [MSE.out,MS.out]; simp at hmm; omega⟩
              | succ j =>
                obtain ⟨ns,hns⟩ : ∃ ns,anss[j]? = some ns:=⟨anss[j],List.getElem?_eq_getElem (by omega)⟩
                obtain ⟨y,hy,hyo,hy0⟩:=HXr.out.apool.get j ns hns
                obtain ⟨ab,acap2,hav2,hab,hcells⟩:=HXr.out.arow.form1 (by have:=HXr.out.apool.len; omega)
                have hcy:=hcells j y hy
                injection hav2 with hav3 hav4 hav5
                clear hav4 hav5
                first
                  | subst hav3
                  | (injection hav3 with hav3; injection hav3 with hav3 _ _; subst hav3)
                obtain ⟨gy,capy,hyv,_,hgy,hcy2⟩:=hyo.form hy0
                have HYO : Hid _:=hyo
                have HDr : Hid _:=catL_drop anss j ns hns
                have hnsl:=szL_get anss j ns hns
                subst hyv
                clear hcells hy hns hyo
                rw [show ((j + 1 : Nat) : Int) - 1 = (j : Int) from by omega]
                have j0 : (0 : Int) ≤ (j : Int):=by omega
                have j1 : (j : Int) < (anss.length : Int):=by omega
                by_cases hjl : j + 1 = anss.length
                · have hjb : ((j : Int) == (anss.length : Int) - 1) = true:=by rw [beq_iff_eq]; omega
                  clear hcy2
                  go_wp2
                  refine ⟨⟨j,ns,by omega,by go_num,HYO,?_,fun _ => hy0,HBw⟩,by simp [intOf]; try omega⟩
                  show _ = _
                  rw [if_neg (by omega),HDr.out,if_pos hjl]
                · have hjb : ((j : Int) == (anss.length : Int) - 1) = false:=by rw [beq_eq_false_iff_ne]; omega
                  have hq1:=hq0 (by omega)
                  have HQ2 : Hid (q = catL (anss.drop (j + 1))):=by show _ = _; rw [HQ.out,if_neg hjl]
                  have hql : q.length ≤ 9000:=by
                    rw [HQ2.out]
                    have h1:=catL_len (anss.drop (j + 1))
                    have h2:=szL_drop anss (j + 1)
                    have h3 : (anss.drop (j + 1)).length ≤ anss.length:=by rw [List.length_drop]; omega
                    omega
                  obtain ⟨gq,capq,hqv,_,hgq,hcq⟩:=HO.out.form hq1
                  have J1 : Hid _:=own_one wr ⟨3,z4⟩
                  have JC1 : Hid (∀ (k : Nat) u,(nsCells ns)[k]? = some u → (wr.alloc (ndOb 3 z4)).cell? ⟨gy,k,none⟩ = some u):=fun k u hk => ((below_one wr _).cell (p:=⟨gy,k,none⟩) hgy).trans (hcy2 k u hk)
                  have JC2 : Hid (∀ (k : Nat) u,(nsCells q)[k]? = some u → wr.cell? ⟨gq,k,none⟩ = some u):=hcq
                  have HGQ : Hid _:=hgq
                  have hnl : ns.length ≤ 9000:=by omega
                  subst hqv
                  clear hcy2 hcq hgq
                  go_wp2_with (at_builtin; first
                    | (refine wpList_append_ns (by rfl) _ _ (by rfl) wr.heap.size _ (by rfl) _ J1.out gy _ _ ns (by rfl) (by rfl) JC1.out hy0 (by simp; omega) (by simp) ?_; intro g5 cap5 w5 ho5 hg5 hb5 hl5; have O5 : Hid _:=ho5; have B5 : Hid (Below wr.heap.size wr w5):=(below_one wr _).grown hg5 (below_one wr _).size (fun k hk => ob_le hk (Nat.le_refl _)); have HB5g : Hid _:=hb5; clear ho5 hg5 hb5 hl5)
                    | (refine wpList_append_ns (by rfl) _ _ (by rfl) wr.heap.size _ (by rfl) _ O5.out gq _ _ q (by rfl) (by rfl) (fun k u hk => (B5.out.cell (p:=⟨gq,k,none⟩) HGQ.out).trans (JC2.out k u hk)) hq1 (by simp; omega) B5.out.size ?_; intro g6 cap6 w6 ho6 hg6 hb6 hl6; have O6 : Hid (NsOwn w6 wr.heap.size (.slice (some ⟨g6,0,none⟩) (([(⟨3,z4⟩ : Nd)] ++ ns).length + q.length) cap6) ([(⟨3,z4⟩ : Nd)] ++ ns ++ q)):=ho6; have B6 : Hid (Below wr.heap.size wr w6):=B5.out.grown hg6 B5.out.size (fun k hk => ob_le hk HB5g.out); clear ho6 hg6 hb6 hl6))
                  have O7 : Hid (NsOwn w6 w.heap.size (.slice (some ⟨g6,0,none⟩) (ns.length + 1 + q.length) cap6) (⟨3,z4⟩ :: (ns ++ q))):=by
                    have h:=NsOwn.down (NsOwn.cast (n':=ns.length + 1 + q.length) O6.out (by simp)) (Nat.le_trans HX0.out.gr.size HBw.out.size)
                    have e : [(⟨3,z4⟩ : Nd)] ++ ns ++ q = ⟨3,z4⟩ :: (ns ++ q):=by simp
                    rw [e] at h
                    exact h
                  refine ⟨⟨j,⟨3,z4⟩ :: (ns ++ q),by omega,by go_num,O7,?_,fun _ => by simp,HBw.out.trans (B6.out.mono HBw.out.size)⟩,by simp [intOf]; try omega⟩
                  show _ = _
                  rw [if_neg (by omega),HDr.out,if_neg hjl,HQ2.out]
          · by_cases h41 : c = 41
            · subst h41
              have hi : ∀ w,(Instr.index 9 (.string s) (.int .i64 (a2 : Int))).run Tryz.prog w = .ok (.int .u8 41) w:=idx_at s a2 41 x1
              have HRS : Hid (RS = .ok (xs,41 :: r)):=SeqRem.stop HRm.out rfl
              rw [hal] at hav
              have HXS : Hid _:=hxs
              have hsz2 : szL anss + anss.length ≤ 2000:=by simp at hsz; omega
              subst hav
              clear hS hR2 hd2 hrem x1 x2 x3 hxs hal
              go_wp2_with fail
              go_quiet (fail)
              have HX : Hid _:=HS.out.below (below_drewN' wr nq)
              have HAX : Hid _:=At.below HAt.out (below_drewN' wr nq)
              clear c0 c1 c2 f1 f2 HS
              generalize wr.drewN nq = WS at *
              have HX0 : Hid _:=HX.out.toAlS
              go_wp2_with fail
              go_loopw [6,7] (fun x i wx => ∃ (j : Nat) (q : List Nd),j ≤ anss.length ∧ i = .int .i64 ((j : Int) - 1) ∧ Hid (NsOwn wx w.heap.size x q) ∧ Hid (q = if j = anss.length then [⟨2,z4⟩] else catL (anss.drop j)) ∧ (j < anss.length → 0 < q.length) ∧ Hid (Below WS.heap.size WS wx)) (fun _ i _ => (intOf i + 1).toNat)
              case atStart => exact ⟨anss.length,[⟨2,z4⟩],Nat.le_refl _,by go_num,(own_one WS ⟨2,z4⟩).down HX.out.gr.size,by rw [if_pos rfl]; exact (Eq.refl _),fun h => absurd h (Nat.lt_irrefl _),below_one _ _⟩
              case round =>
                obtain ⟨j,q,hj,rfl,HO,HQ,hq0,HBw⟩:=hrel
                have HXr : Hid _:=HX.out.below HBw.out
                cases j with
                | zero =>
                  have HQ3 : Hid (q = catL anss):=by
                    show _ = _
                    rw [HQ.out]
                    split
                    · rename_i h
                      have : anss = []:=List.eq_nil_of_length_eq_zero h.symm
                      rw [this]; rfl
                    · rw [List.drop_zero]
                  have hq3 : 0 < q.length:=by
                    rcases Nat.eq_zero_or_pos anss.length with h | h
                    · rw [HQ.out,if_pos h.symm]; simp
                    · exact hq0 h
                  have HQL : Hid (q.length ≤ szL anss + anss.length + 1):=by show _ ≤ _; rw [HQ3.out]; exact catL_len anss
                  obtain ⟨ua,ucap,hu⟩:=NsOwn.form0 HO.out
                  have HS6 : Hid _:=HXr.out.toAlS.below (below_one wr (.cells #[.slice ua q.length ucap] 60))
                  have HA6 : Hid _:=At.below (At.below HAX.out HBw.out) (below_one wr (.cells #[.slice ua q.length ucap] 60))
                  have hsvl : svs.length ≤ 3000:=by
                    have h1:=HV.out.al.pool.len
                    have h2:=HV.out.sz
                    simp at h1
                    omega
                  subst hu
                  go_wp2_with (at_builtin; refine wpList_append_vs (by rfl) _ _ (by rfl) w.heap.size _ (by rfl) svs HS6.out.row wr.heap.size _ _ (.slice ua q.length ucap) (by rfl) (by rfl) (by rfl) (own_alloc1 _ _) (by omega) HS6.out.gr.size ?_; intro g7 cap7 w7 ho7 hg7 hb7; have O7 : Hid _:=ho7; have G7 : Hid _:=hg7; clear ho7 hg7 hb7)
                  have HS7 : Hid _:=HS6.out.push (NsOwn.below HO.out (below_one _ _)) hq3 G7.out O7.out
                  have HA7 : Hid _:=At.kept HA6.out G7.out HS6.out.ne
                  clear HA6 O7 G7
                  have C5 : Hid _:=sees_at g s (41 :: r) 124 124 rfl hs w7 HA7.out
                  rw [show decide ((41 :: r).head? = some 124) = false from rfl] at C5
                  refine Calls.mono C5.out ?_
                  rintro e w8 ⟨rfl,hb8⟩
                  clear C5
                  have HRF : Hid (R = .ok (ss ++ [cats xs],(41 :: r))):=by
                    have h:=HN.out
                    rw [HRS.out] at h
                    rcases h with ⟨_,h⟩ | ⟨l2,h,_⟩
                    · exact h
                    · cases h
                  have HX2 : Hid _:=HS7.out.below hb8
                  have HAF : Hid _:=At.below HA7.out hb8
                  obtain ⟨nss,hnss⟩ : ∃ nss : List (List Nd),nss = ss.map Rx.flat ++ [q]:=⟨_,rfl⟩
                  rw [← hnss] at HX2
                  have hpl : svs.length + 1 = nss.length:=by rw [hnss,List.length_append,HV.out.al.pool.len]; rfl
                  rw [hpl] at HX2
                  have HX0 : Hid _:=HX2.out
                  have HNS : Hid (nss = (ss ++ [cats xs]).map Rx.flat):=by show _ = _; rw [hnss,List.map_append,HQ3.out,HXS.out]; simp [cats_flat]
                  have hbnd : szL nss + nss.length ≤ 8000:=by
                    have h1:=HV.out.sz
                    have h2:=HQL.out
                    rw [hnss]
                    simp [szL_app,szL] at h1 h2 ⊢
                    omega
                  have hn1 : 0 < nss.length:=by omega
                  have HNQ : Hid _:=hnss
                  clear hb8 HS7 HA7 HX HAX HXr HO HQ HBw hq0 HS6
                  rw [hpl]
                  clear hnss hpl
                  go_wp2_with fail
                  go_loopw [10,11] (fun x i wx => ∃ (j : Nat) (q : List Nd),j ≤ nss.length ∧ i = .int .i64 ((j : Int) - 1) ∧ Hid (NsOwn wx w.heap.size x q) ∧ Hid (q = if j = nss.length then [] else orL (nss.drop j)) ∧ (j < nss.length → 0 < q.length) ∧ Hid (Below w8.heap.size w8 wx)) (fun _ i _ => (intOf i + 1).toNat)
                  case atStart => exact ⟨nss.length,[],Nat.le_refl _,by go_num,⟨rfl,Or.inl ⟨rfl,rfl⟩⟩,by rw [if_pos rfl]; exact (Eq.refl _),fun h => absurd h (Nat.lt_irrefl _),Below.refl _ _⟩
                  case round =>
                    obtain ⟨j,q,hj,rfl,HO,HQ,hq0,HBw⟩:=hrel
                    have HXr : Hid _:=HX2.out.below HBw.out
                    cases j with
                    | zero =>
                      have HOF : Hid (AllAns w g s l R u10 nss wr):=by
                        refine ⟨?_,Or.inl ⟨ss ++ [cats xs],(41 :: r),HRF.out,HNS.out,At.below HAF.out HBw.out⟩⟩
                        have h:=HO.out
                        rw [HQ.out,if_neg (by omega),List.drop_zero] at h
                        exact h
                      have HGF : Hid _:=HXr.out.gr
                      go_wp2
                      go_ret
                      exact ⟨HGF.out,_,nss,rfl,HOF.out⟩
                    | succ j =>
                      obtain ⟨ns,hns⟩ : ∃ ns,nss[j]? = some ns:=⟨nss[j],List.getElem?_eq_getElem (by omega)⟩
                      obtain ⟨y,hy,hyo,hy0⟩:=HXr.out.pool.get j ns hns
                      obtain ⟨ab,acap2,hav2,hab,hcells⟩:=HXr.out.row.form1 (by have:=HXr.out.pool.len; omega)
                      have hcy:=hcells j y hy
                      injection hav2 with hav3 hav4 hav5
                      clear hav4 hav5
                      first
                        | subst hav3
                        | (injection hav3 with hav3; injection hav3 with hav3 _ _; subst hav3)
                      obtain ⟨gy,capy,hyv,_,hgy,hcy2⟩:=hyo.form hy0
                      have HYO : Hid _:=hyo
                      have HDr : Hid _:=orL_drop nss j ns hns
                      have hnsl:=szL_get nss j ns hns
                      subst hyv
                      clear hcells hy hns hyo
                      rw [show ((j + 1 : Nat) : Int) - 1 = (j : Int) from by omega]
                      have j0 : (0 : Int) ≤ (j : Int):=by omega
                      have j1 : (j : Int) < (nss.length : Int):=by omega
                      by_cases hjl : j + 1 = nss.length
                      · have hjb : ((j : Int) == (nss.length : Int) - 1) = true:=by rw [beq_iff_eq]; omega
                        clear hcy2
                        go_wp2
                        refine ⟨⟨j,ns,by omega,by go_num,HYO,?_,fun _ => hy0,HBw⟩,by simp [intOf]; try omega⟩
                        show _ = _
                        rw [if_neg (by omega),HDr.out,if_pos hjl]
                      · have hjb : ((j : Int) == (nss.length : Int) - 1) = false:=by rw [beq_eq_false_iff_ne]; omega
                        have hq1:=hq0 (by omega)
                        have HQ2 : Hid (q = orL (nss.drop (j + 1))):=by show _ = _; rw [HQ.out,if_neg hjl]
                        have hql : q.length ≤ 9000:=by
                          rw [HQ2.out]
                          have h1:=orL_len (nss.drop (j + 1))
                          have h2:=szL_drop nss (j + 1)
                          have h3 : (nss.drop (j + 1)).length ≤ nss.length:=by rw [List.length_drop]; omega
                          omega
                        obtain ⟨gq,capq,hqv,_,hgq,hcq⟩:=HO.out.form hq1
                        have J1 : Hid _:=own_one wr ⟨4,z4⟩
                        have JC1 : Hid (∀ (k : Nat) u,(nsCells ns)[k]? = some u → (wr.alloc (ndOb 4 z4)).cell? ⟨gy,k,none⟩ = some u):=fun k u hk => ((below_one wr _).cell (p:=⟨gy,k,none⟩) hgy).trans (hcy2 k u hk)
                        have JC2 : Hid (∀ (k : Nat) u,(nsCells q)[k]? = some u → wr.cell? ⟨gq,k,none⟩ = some u):=hcq
                        have HGQ : Hid _:=hgq
                        have hnl : ns.length ≤ 9000:=by omega
                        subst hqv
                        clear hcy2 hcq hgq
                        go_wp2_with (at_builtin; first
                          | (refine wpList_append_ns (by rfl) _ _ (by rfl) wr.heap.size _ (by rfl) _ J1.out gy _ _ ns (by rfl) (by rfl) JC1.out hy0 (by simp; omega) (by simp) ?_; intro g5 cap5 w5 ho5 hg5 hb5 hl5; have O5 : Hid _:=ho5; have B5 : Hid (Below wr.heap.size wr w5):=(below_one wr _).grown hg5 (below_one wr _).size (fun k hk => ob_le hk (Nat.le_refl _)); have HB5g : Hid _:=hb5; clear ho5 hg5 hb5 hl5)
                          | (refine wpList_append_ns (by rfl) _ _ (by rfl) wr.heap.size _ (by rfl) _ O5.out gq _ _ q (by rfl) (by rfl) (fun k u hk => (B5.out.cell (p:=⟨gq,k,none⟩) HGQ.out).trans (JC2.out k u hk)) hq1 (by simp; omega) B5.out.size ?_; intro g6 cap6 w6 ho6 hg6 hb6 hl6; have O6 : Hid (NsOwn w6 wr.heap.size (.slice (some ⟨g6,0,none⟩) (([(⟨4,z4⟩ : Nd)] ++ ns).length + q.length) cap6) ([(⟨4,z4⟩ : Nd)] ++ ns ++ q)):=ho6; have B6 : Hid (Below wr.heap.size wr w6):=B5.out.grown hg6 B5.out.size (fun k hk => ob_le hk HB5g.out); clear ho6 hg6 hb6 hl6))
                        have O7 : Hid (NsOwn w6 w.heap.size (.slice (some ⟨g6,0,none⟩) (ns.length + 1 + q.length) cap6) (⟨4,z4⟩ :: (ns ++ q))):=by
                          have h:=NsOwn.down (NsOwn.cast (n':=ns.length + 1 + q.length) O6.out (by simp)) (Nat.le_trans HX0.out.gr.size HBw.out.size)
                          have e : [(⟨4,z4⟩ : Nd)] ++ ns ++ q = ⟨4,z4⟩ :: (ns ++ q):=by simp
                          rw [e] at h
                          exact h
                        refine ⟨⟨j,⟨4,z4⟩ :: (ns ++ q),by omega,by go_num,O7,?_,fun _ => by simp,HBw.out.trans (B6.out.mono HBw.out.size)⟩,by simp [intOf]; try omega⟩
                        show _ = _
                        rw [if_neg (by omega),HDr.out,if_neg hjl,HQ2.out]
                | succ j =>
                  obtain ⟨ns,hns⟩ : ∃ ns,anss[j]? = some ns:=⟨anss[j],List.getElem?_eq_getElem (by omega)⟩
                  obtain ⟨y,hy,hyo,hy0⟩:=HXr.out.apool.get j ns hns
                  obtain ⟨ab,acap2,hav2,hab,hcells⟩:=HXr.out.arow.form1 (by have:=HXr.out.apool.len; omega)
                  have hcy:=hcells j y hy
                  injection hav2 with hav3 hav4 hav5
                  clear hav4 hav5
                  first
                    | subst hav3
                    | (injection hav3 with hav3; injection hav3 with hav3 _ _; subst hav3)
                  obtain ⟨gy,capy,hyv,_,hgy,hcy2⟩:=hyo.form hy0
                  have HYO : Hid _:=hyo
                  have HDr : Hid _:=catL_drop anss j ns hns
                  have hnsl:=szL_get anss j ns hns
                  subst hyv
                  clear hcells hy hns hyo
                  rw [show ((j + 1 : Nat) : Int) - 1 = (j : Int) from by omega]
                  have j0 : (0 : Int) ≤ (j : Int):=by omega
                  have j1 : (j : Int) < (anss.length : Int):=by omega
                  by_cases hjl : j + 1 = anss.length
                  · have hjb : ((j : Int) == (anss.length : Int) - 1) = true:=by rw [beq_iff_eq]; omega
                    clear hcy2
                    go_wp2
                    refine ⟨⟨j,ns,by omega,by go_num,HYO,?_,fun _ => hy0,HBw⟩,by simp [intOf]; try omega⟩
                    show _ = _
                    rw [if_neg (by omega),HDr.out,if_pos hjl]
                  · have hjb : ((j : Int) == (anss.length : Int) - 1) = false:=by rw [beq_eq_false_iff_ne]; omega
                    have hq1:=hq0 (by omega)
                    have HQ2 : Hid (q = catL (anss.drop (j + 1))):=by show _ = _; rw [HQ.out,if_neg hjl]
                    have hql : q.length ≤ 9000:=by
                      rw [HQ2.out]
                      have h1:=catL_len (anss.drop (j + 1))
                      have h2:=szL_drop anss (j + 1)
                      have h3 : (anss.drop (j + 1)).length ≤ anss.length:=by rw [List.length_drop]; omega
                      omega
                    obtain ⟨gq,capq,hqv,_,hgq,hcq⟩:=HO.out.form hq1
                    have J1 : Hid _:=own_one wr ⟨3,z4⟩
                    have JC1 : Hid (∀ (k : Nat) u,(nsCells ns)[k]? = some u → (wr.alloc (ndOb 3 z4)).cell? ⟨gy,k,none⟩ = some u):=fun k u hk => ((below_one wr _).cell (p:=⟨gy,k,none⟩) hgy).trans (hcy2 k u hk)
                    have JC2 : Hid (∀ (k : Nat) u,(nsCells q)[k]? = some u → wr.cell? ⟨gq,k,none⟩ = some u):=hcq
                    have HGQ : Hid _:=hgq
                    have hnl : ns.length ≤ 9000:=by omega
                    subst hqv
                    clear hcy2 hcq hgq
                    go_wp2_with (at_builtin; first
                      | (refine wpList_append_ns (by rfl) _ _ (by rfl) wr.heap.size _ (by rfl) _ J1.out gy _ _ ns (by rfl) (by rfl) JC1.out hy0 (by simp; omega) (by simp) ?_; intro g5 cap5 w5 ho5 hg5 hb5 hl5; have O5 : Hid _:=ho5; have B5 : Hid (Below wr.heap.size wr w5):=(below_one wr _).grown hg5 (below_one wr _).size (fun k hk => ob_le hk (Nat.le_refl _)); have HB5g : Hid _:=hb5; clear ho5 hg5 hb5 hl5)
                      | (refine wpList_append_ns (by rfl) _ _ (by rfl) wr.heap.size _ (by rfl) _ O5.out gq _ _ q (by rfl) (by rfl) (fun k u hk => (B5.out.cell (p:=⟨gq,k,none⟩) HGQ.out).trans (JC2.out k u hk)) hq1 (by simp; omega) B5.out.size ?_; intro g6 cap6 w6 ho6 hg6 hb6 hl6; have O6 : Hid (NsOwn w6 wr.heap.size (.slice (some ⟨g6,0,none⟩) (([(⟨3,z4⟩ : Nd)] ++ ns).length + q.length) cap6) ([(⟨3,z4⟩ : Nd)] ++ ns ++ q)):=ho6; have B6 : Hid (Below wr.heap.size wr w6):=B5.out.grown hg6 B5.out.size (fun k hk => ob_le hk HB5g.out); clear ho6 hg6 hb6 hl6))
                    have O7 : Hid (NsOwn w6 w.heap.size (.slice (some ⟨g6,0,none⟩) (ns.length + 1 + q.length) cap6) (⟨3,z4⟩ :: (ns ++ q))):=by
                      have h:=NsOwn.down (NsOwn.cast (n':=ns.length + 1 + q.length) O6.out (by simp)) (Nat.le_trans HX0.out.gr.size HBw.out.size)
                      have e : [(⟨3,z4⟩ : Nd)] ++ ns ++ q = ⟨3,z4⟩ :: (ns ++ q):=by simp
                      rw [e] at h
                      exact h
                    refine ⟨⟨j,⟨3,z4⟩ :: (ns ++ q),by omega,by go_num,O7,?_,fun _ => by simp,HBw.out.trans (B6.out.mono HBw.out.size)⟩,by simp [intOf]; try omega⟩
                    show _ = _
                    rw [if_neg (by omega),HDr.out,if_neg hjl,HQ2.out]
            · have hn1 : ((c.toNat : Int) != 124) = true:=by
                rw [bne_iff_ne]
                intro e
                exact h124 (UInt8.toNat_inj.1 (by show c.toNat = 124; omega))
              have hn2 : ((c.toNat : Int) != 41) = true:=by
                rw [bne_iff_ne]
                intro e
                exact h41 (UInt8.toNat_inj.1 (by show c.toNat = 41; omega))
              have hstp : stp (c :: r) = false:=by
                simp only [stp,Bool.or_eq_false_iff,beq_eq_false_iff_ne]
                exact ⟨h124,h41⟩
              have hmb : (c :: r).length ≤ l.length:=by simp at hmm ⊢; omega
              have HAL : Hid _:=hal
              have HXS : Hid _:=hxs
              clear hal hav hxs
              rcases SeqRem.step HRm.out hstp with ⟨k,hk,hat⟩ | ⟨x,l1,hat,hrem2⟩
              · have CA : Hid _:=(HC.out (c :: r) hmb).2 k hat
                clear hS hR2 hd2 hrem x1 x2 x3 h124 h41 hat
                go_wp2_with fail
                go_quiet (fail)
                go_wp2_with fail
                refine Calls.mono (CA.out (wr.drewN nq) (At.below HAt.out (below_drewN' _ _))) ?_
                rintro e w5 ⟨hg5,u,ms,rfl,ho5,hms,hB5⟩
                have HS5 : Hid _:=(HS.out.below (below_drewN' wr nq)).grown hg5
                have HO5 : Hid (NsOwn w5 w.heap.size u ms):=ho5.down (by have:=HS.out.gr.size; exact this)
                have HB5 : Hid _:=hB5
                obtain ⟨ua,ucap,hu⟩:=NsOwn.form0 ho5
                subst hu
                clear hg5 ho5 hB5 c0 c1 c2 f1 f2
                have HS6 : Hid _:=HS5.out.below (below_one w5 (.cells #[.slice ua ms.length ucap] 60))
                go_wp2_with (at_builtin; refine wpList_append_vs (by rfl) _ _ (by rfl) NB _ (by rfl) avs HS6.out.arow w5.heap.size _ _ (.slice ua ms.length ucap) (by rfl) (by rfl) (by rfl) (own_alloc1 _ _) (by have:=HAL.out; omega) HS6.out.nb.2 ?_; intro g7 cap7 w7 ho7 hg7 hb7; have O7 : Hid _:=ho7; have G7 : Hid _:=hg7; clear ho7 hg7 hb7)
                have HS7 : Hid _:=HS6.out.push (NsOwn.below HO5.out (below_one _ _)) hms.1 G7.out O7.out
                have hB7 : Bad w7 g s k l.length:=((Bad.below HB5.out (below_one _ _)).kept G7.out HS6.out.ne).more hmb
                have HE : Hid (InInv w g s l m0 RS NB u3 svs (ss.map Rx.flat) (.slice (some ⟨g7,0,none⟩) (avs.length + 1) cap7) w7 (avs ++ [.slice ua ms.length ucap]) (anss ++ [ms])) :=
                  ⟨HS7.out,Or.inr ⟨k,hk,hB7,by simp,by have:=hms.2; simp [szL_app,szL] at hsz this ⊢; omega⟩⟩
                have MSE : Hid (rdMeas w7 g s.size = 0):=hB7.meas
                exact ⟨⟨_,_,HE⟩,by rw [MSE.out,MS2.out]; omega⟩
              · have CA : Hid _:=(HC.out (c :: r) hmb).1 (x,l1) hat
                have hszx:=(sizes _ (c :: r) (Nat.le_refl _)).1 x l1 hat
                have hx0:=x.flat_pos
                clear hS hR2 hd2 hrem x1 x2 x3 h124 h41 hat
                go_wp2_with fail
                go_quiet (fail)
                go_wp2_with fail
                refine Calls.mono (CA.out (wr.drewN nq) (At.below HAt.out (below_drewN' _ _))) ?_
                rintro e w5 ⟨hg5,u,rfl,ho5,hA5⟩
                have HS5 : Hid _:=(HS.out.below (below_drewN' wr nq)).grown hg5
                have HO5 : Hid (NsOwn w5 w.heap.size u x.flat):=ho5.down (by have:=HS.out.gr.size; exact this)
                have HA5 : Hid _:=hA5
                obtain ⟨ua,ucap,hu⟩:=NsOwn.form0 ho5
                subst hu
                clear hg5 ho5 hA5 c0 c1 c2 f1 f2
                have HS6 : Hid _:=HS5.out.below (below_one w5 (.cells #[.slice ua x.flat.length ucap] 60))
                go_wp2_with (at_builtin; refine wpList_append_vs (by rfl) _ _ (by rfl) NB _ (by rfl) avs HS6.out.arow w5.heap.size _ _ (.slice ua x.flat.length ucap) (by rfl) (by rfl) (by rfl) (own_alloc1 _ _) (by have:=HAL.out; omega) HS6.out.nb.2 ?_; intro g7 cap7 w7 ho7 hg7 hb7; have O7 : Hid _:=ho7; have G7 : Hid _:=hg7; clear ho7 hg7 hb7)
                have HS7 : Hid _:=HS6.out.push (NsOwn.below HO5.out (below_one _ _)) hx0 G7.out O7.out
                have hA7 : At w7 g s l1:=(At.below HA5.out (below_one _ _)).kept G7.out HS6.out.ne
                have HE : Hid (InInv w g s l m0 RS NB u3 svs (ss.map Rx.flat) (.slice (some ⟨g7,0,none⟩) (avs.length + 1) cap7) w7 (avs ++ [.slice ua x.flat.length ucap]) (anss ++ [x.flat])) :=
                  ⟨HS7.out,Or.inl ⟨xs ++ [x],l1,by rw [HXS.out]; simp,hA7,hrem2,by simp [szL_app,szL] at hsz hszx ⊢; omega,by simp at hmm hszx; omega⟩⟩
                have MSE : Hid (rdMeas w7 g s.size = l1.length + 1):=hA7.meas
                exact ⟨⟨_,_,HE⟩,by rw [MSE.out,MS2.out]; simp at hszx ⊢; omega⟩
      · have HS : Hid _:=hS
        have HBd : Hid _:=hBd
        have hal:=hS.apool.len
        obtain ⟨av0,acap,hav⟩:=hS.arow.form
        obtain ⟨a2,bd2,ha2,hd2,hR2⟩:=hBd
        obtain ⟨c0,c1,c2,f1,f2⟩:=hR2.all
        have HRS : Hid _:=hRS
        rw [hal] at hav
        have hsz2 : szL anss + anss.length ≤ 3000:=by omega
        have hbq : decide ((bd2 : Int) < 0) = false:=by simp
        subst hav
        clear hS hR2 hRS hal
        go_wp2_with fail
        go_quiet (fail)
        have HX : Hid _:=HS.out.below (below_drewN' wr nq)
        have HAX : Hid _:=Bad.below HBd.out (below_drewN' wr nq)
        clear c0 c1 c2 f1 f2 HS
        generalize wr.drewN nq = WS at *
        have HX0 : Hid _:=HX.out.toAlS
        go_wp2_with fail
        go_loopw [6,7] (fun x i wx => ∃ (j : Nat) (q : List Nd),j ≤ anss.length ∧ i = .int .i64 ((j : Int) - 1) ∧ Hid (NsOwn wx w.heap.size x q) ∧ Hid (q = if j = anss.length then [⟨2,z4⟩] else catL (anss.drop j)) ∧ (j < anss.length → 0 < q.length) ∧ Hid (Below WS.heap.size WS wx)) (fun _ i _ => (intOf i + 1).toNat)
        case atStart => exact ⟨anss.length,[⟨2,z4⟩],Nat.le_refl _,by go_num,(own_one WS ⟨2,z4⟩).down HX.out.gr.size,by rw [if_pos rfl]; exact (Eq.refl _),fun h => absurd h (Nat.lt_irrefl _),below_one _ _⟩
        case round =>
          obtain ⟨j,q,hj,rfl,HO,HQ,hq0,HBw⟩:=hrel
          have HXr : Hid _:=HX.out.below HBw.out
          cases j with
          | zero =>
            have HQ3 : Hid (q = catL anss):=by
              show _ = _
              rw [HQ.out]
              split
              · rename_i h
                have : anss = []:=List.eq_nil_of_length_eq_zero h.symm
                rw [this]; rfl
              · rw [List.drop_zero]
            have hq3 : 0 < q.length:=by
              rcases Nat.eq_zero_or_pos anss.length with h | h
              · rw [HQ.out,if_pos h.symm]; simp
              · exact hq0 h
            have HQL : Hid (q.length + 1 ≤ szL anss + anss.length):=by show _ ≤ _; rw [HQ3.out]; exact catL_len1 anss hne
            obtain ⟨ua,ucap,hu⟩:=NsOwn.form0 HO.out
            have HS6 : Hid _:=HXr.out.toAlS.below (below_one wr (.cells #[.slice ua q.length ucap] 60))
            have HA6 : Hid _:=Bad.below (Bad.below HAX.out HBw.out) (below_one wr (.cells #[.slice ua q.length ucap] 60))
            have hsvl : svs.length ≤ 3000:=by
              have h1:=HV.out.al.pool.len
              have h2:=HV.out.sz
              simp at h1
              omega
            subst hu
            go_wp2_with (at_builtin; refine wpList_append_vs (by rfl) _ _ (by rfl) w.heap.size _ (by rfl) svs HS6.out.row wr.heap.size _ _ (.slice ua q.length ucap) (by rfl) (by rfl) (by rfl) (own_alloc1 _ _) (by omega) HS6.out.gr.size ?_; intro g7 cap7 w7 ho7 hg7 hb7; have O7 : Hid _:=ho7; have G7 : Hid _:=hg7; clear ho7 hg7 hb7)
            have HS7 : Hid _:=HS6.out.push (NsOwn.below HO.out (below_one _ _)) hq3 G7.out O7.out
            have HA7 : Hid _:=Bad.kept HA6.out G7.out HS6.out.ne
            clear HA6 O7 G7
            have C5 : Hid _:=sees_no g s k l.length 124 w7 HA7.out
            refine Calls.mono C5.out ?_
            rintro e w8 ⟨rfl,hb8⟩
            clear C5
            have HRF : Hid (R = .error k):=by
              have h:=HN.out
              rw [HRS.out] at h
              exact h
            have HX2 : Hid _:=HS7.out.below hb8
            have HAF : Hid _:=Bad.below HA7.out hb8
            obtain ⟨nss,hnss⟩ : ∃ nss : List (List Nd),nss = ss.map Rx.flat ++ [q]:=⟨_,rfl⟩
            rw [← hnss] at HX2
            have hpl : svs.length + 1 = nss.length:=by rw [hnss,List.length_append,HV.out.al.pool.len]; rfl
            rw [hpl] at HX2
            have HX0 : Hid _:=HX2.out
            have hbnd : szL nss + nss.length ≤ 8000:=by
              have h1:=HV.out.sz
              have h2:=HQL.out
              rw [hnss]
              simp [szL_app,szL] at h1 h2 ⊢
              omega
            have hn1 : 0 < nss.length:=by omega
            have HNQ : Hid _:=hnss
            clear hb8 HS7 HA7 HX HAX HXr HO HQ HBw hq0 HS6
            rw [hpl]
            clear hnss hpl
            go_wp2_with fail
            go_loopw [10,11] (fun x i wx => ∃ (j : Nat) (q : List Nd),j ≤ nss.length ∧ i = .int .i64 ((j : Int) - 1) ∧ Hid (NsOwn wx w.heap.size x q) ∧ Hid (q = if j = nss.length then [] else orL (nss.drop j)) ∧ (j < nss.length → 0 < q.length) ∧ Hid (Below w8.heap.size w8 wx)) (fun _ i _ => (intOf i + 1).toNat)
            case atStart => exact ⟨nss.length,[],Nat.le_refl _,by go_num,⟨rfl,Or.inl ⟨rfl,rfl⟩⟩,by rw [if_pos rfl]; exact (Eq.refl _),fun h => absurd h (Nat.lt_irrefl _),Below.refl _ _⟩
            case round =>
              obtain ⟨j,q,hj,rfl,HO,HQ,hq0,HBw⟩:=hrel
              have HXr : Hid _:=HX2.out.below HBw.out
              cases j with
              | zero =>
                have HOF : Hid (AllAns w g s l R u10 nss wr):=by
                  refine ⟨?_,Or.inr ⟨k,HRF.out,by rw [HNQ.out]; simp,by have h1:=HV.out.sz; have h2:=HQL.out; have h3:=hsz; rw [HNQ.out]; simp [szL_app,szL] at h1 h2 h3 ⊢; omega,Bad.below HAF.out HBw.out,by have h:=hq0 hn1; rw [HQ.out,if_neg (by omega),List.drop_zero] at h; exact h⟩⟩
                  have h:=HO.out
                  rw [HQ.out,if_neg (by omega),List.drop_zero] at h
                  exact h
                have HGF : Hid _:=HXr.out.gr
                go_wp2
                go_ret
                exact ⟨HGF.out,_,nss,rfl,HOF.out⟩
              | succ j =>
                obtain ⟨ns,hns⟩ : ∃ ns,nss[j]? = some ns:=⟨nss[j],List.getElem?_eq_getElem (by omega)⟩
                obtain ⟨y,hy,hyo,hy0⟩:=HXr.out.pool.get j ns hns
                obtain ⟨ab,acap2,hav2,hab,hcells⟩:=HXr.out.row.form1 (by have:=HXr.out.pool.len; omega)
                have hcy:=hcells j y hy
                injection hav2 with hav3 hav4 hav5
                clear hav4 hav5
                first
                  | subst hav3
                  | (injection hav3 with hav3; injection hav3 with hav3 _ _; subst hav3)
                obtain ⟨gy,capy,hyv,_,hgy,hcy2⟩:=hyo.form hy0
                have HYO : Hid _:=hyo
                have HDr : Hid _:=orL_drop nss j ns hns
                have hnsl:=szL_get nss j ns hns
                subst hyv
                clear hcells hy hns hyo
                rw [show ((j + 1 : Nat) : Int) - 1 = (j : Int) from by omega]
                have j0 : (0 : Int) ≤ (j : Int):=by omega
                have j1 : (j : Int) < (nss.length : Int):=by omega
                by_cases hjl : j + 1 = nss.length
                · have hjb : ((j : Int) == (nss.length : Int) - 1) = true:=by rw [beq_iff_eq]; omega
                  clear hcy2
                  go_wp2
                  refine ⟨⟨j,ns,by omega,by go_num,HYO,?_,fun _ => hy0,HBw⟩,by simp [intOf]; try omega⟩
                  show _ = _
                  rw [if_neg (by omega),HDr.out,if_pos hjl]
                · have hjb : ((j : Int) == (nss.length : Int) - 1) = false:=by rw [beq_eq_false_iff_ne]; omega
                  have hq1:=hq0 (by omega)
                  have HQ2 : Hid (q = orL (nss.drop (j + 1))):=by show _ = _; rw [HQ.out,if_neg hjl]
                  have hql : q.length ≤ 9000:=by
                    rw [HQ2.out]
                    have h1:=orL_len (nss.drop (j + 1))
                    have h2:=szL_drop nss (j + 1)
                    have h3 : (nss.drop (j + 1)).length ≤ nss.length:=by rw [List.length_drop]; omega
                    omega
                  obtain ⟨gq,capq,hqv,_,hgq,hcq⟩:=HO.out.form hq1
                  have J1 : Hid _:=own_one wr ⟨4,z4⟩
                  have JC1 : Hid (∀ (k : Nat) u,(nsCells ns)[k]? = some u → (wr.alloc (ndOb 4 z4)).cell? ⟨gy,k,none⟩ = some u):=fun k u hk => ((below_one wr _).cell (p:=⟨gy,k,none⟩) hgy).trans (hcy2 k u hk)
                  have JC2 : Hid (∀ (k : Nat) u,(nsCells q)[k]? = some u → wr.cell? ⟨gq,k,none⟩ = some u):=hcq
                  have HGQ : Hid _:=hgq
                  have hnl : ns.length ≤ 9000:=by omega
                  subst hqv
                  clear hcy2 hcq hgq
                  go_wp2_with (at_builtin; first
                    | (refine wpList_append_ns (by rfl) _ _ (by rfl) wr.heap.size _ (by rfl) _ J1.out gy _ _ ns (by rfl) (by rfl) JC1.out hy0 (by simp; omega) (by simp) ?_; intro g5 cap5 w5 ho5 hg5 hb5 hl5; have O5 : Hid _:=ho5; have B5 : Hid (Below wr.heap.size wr w5):=(below_one wr _).grown hg5 (below_one wr _).size (fun k hk => ob_le hk (Nat.le_refl _)); have HB5g : Hid _:=hb5; clear ho5 hg5 hb5 hl5)
                    | (refine wpList_append_ns (by rfl) _ _ (by rfl) wr.heap.size _ (by rfl) _ O5.out gq _ _ q (by rfl) (by rfl) (fun k u hk => (B5.out.cell (p:=⟨gq,k,none⟩) HGQ.out).trans (JC2.out k u hk)) hq1 (by simp; omega) B5.out.size ?_; intro g6 cap6 w6 ho6 hg6 hb6 hl6; have O6 : Hid (NsOwn w6 wr.heap.size (.slice (some ⟨g6,0,none⟩) (([(⟨4,z4⟩ : Nd)] ++ ns).length + q.length) cap6) ([(⟨4,z4⟩ : Nd)] ++ ns ++ q)):=ho6; have B6 : Hid (Below wr.heap.size wr w6):=B5.out.grown hg6 B5.out.size (fun k hk => ob_le hk HB5g.out); clear ho6 hg6 hb6 hl6))
                  have O7 : Hid (NsOwn w6 w.heap.size (.slice (some ⟨g6,0,none⟩) (ns.length + 1 + q.length) cap6) (⟨4,z4⟩ :: (ns ++ q))):=by
                    have h:=NsOwn.down (NsOwn.cast (n':=ns.length + 1 + q.length) O6.out (by simp)) (Nat.le_trans HX0.out.gr.size HBw.out.size)
                    have e : [(⟨4,z4⟩ : Nd)] ++ ns ++ q = ⟨4,z4⟩ :: (ns ++ q):=by simp
                    rw [e] at h
                    exact h
                  refine ⟨⟨j,⟨4,z4⟩ :: (ns ++ q),by omega,by go_num,O7,?_,fun _ => by simp,HBw.out.trans (B6.out.mono HBw.out.size)⟩,by simp [intOf]; try omega⟩
                  show _ = _
                  rw [if_neg (by omega),HDr.out,if_neg hjl,HQ2.out]
          | succ j =>
            obtain ⟨ns,hns⟩ : ∃ ns,anss[j]? = some ns:=⟨anss[j],List.getElem?_eq_getElem (by omega)⟩
            obtain ⟨y,hy,hyo,hy0⟩:=HXr.out.apool.get j ns hns
            obtain ⟨ab,acap2,hav2,hab,hcells⟩:=HXr.out.arow.form1 (by have:=HXr.out.apool.len; omega)
            have hcy:=hcells j y hy
            injection hav2 with hav3 hav4 hav5
            clear hav4 hav5
            first
              | subst hav3
              | (injection hav3 with hav3; injection hav3 with hav3 _ _; subst hav3)
            obtain ⟨gy,capy,hyv,_,hgy,hcy2⟩:=hyo.form hy0
            have HYO : Hid _:=hyo
            have HDr : Hid _:=catL_drop anss j ns hns
            have hnsl:=szL_get anss j ns hns
            subst hyv
            clear hcells hy hns hyo
            rw [show ((j + 1 : Nat) : Int) - 1 = (j : Int) from by omega]
            have j0 : (0 : Int) ≤ (j : Int):=by omega
            have j1 : (j : Int) < (anss.length : Int):=by omega
            by_cases hjl : j + 1 = anss.length
            · have hjb : ((j : Int) == (anss.length : Int) - 1) = true:=by rw [beq_iff_eq]; omega
              clear hcy2
              go_wp2
              refine ⟨⟨j,ns,by omega,by go_num,HYO,?_,fun _ => hy0,HBw⟩,by simp [intOf]; try omega⟩
              show _ = _
              rw [if_neg (by omega),HDr.out,if_pos hjl]
            · have hjb : ((j : Int) == (anss.length : Int) - 1) = false:=by rw [beq_eq_false_iff_ne]; omega
              have hq1:=hq0 (by omega)
              have HQ2 : Hid (q = catL (anss.drop (j + 1))):=by show _ = _; rw [HQ.out,if_neg hjl]
              have hql : q.length ≤ 9000:=by
                rw [HQ2.out]
                have h1:=catL_len (anss.drop (j + 1))
                have h2:=szL_drop anss (j + 1)
                have h3 : (anss.drop (j + 1)).length ≤ anss.length:=by rw [List.length_drop]; omega
                omega
              obtain ⟨gq,capq,hqv,_,hgq,hcq⟩:=HO.out.form hq1
              have J1 : Hid _:=own_one wr ⟨3,z4⟩
              have JC1 : Hid (∀ (k : Nat) u,(nsCells ns)[k]? = some u → (wr.alloc (ndOb 3 z4)).cell? ⟨gy,k,none⟩ = some u):=fun k u hk => ((below_one wr _).cell (p:=⟨gy,k,none⟩) hgy).trans (hcy2 k u hk)
              have JC2 : Hid (∀ (k : Nat) u,(nsCells q)[k]? = some u → wr.cell? ⟨gq,k,none⟩ = some u):=hcq
              have HGQ : Hid _:=hgq
              have hnl : ns.length ≤ 9000:=by omega
              subst hqv
              clear hcy2 hcq hgq
              go_wp2_with (at_builtin; first
                | (refine wpList_append_ns (by rfl) _ _ (by rfl) wr.heap.size _ (by rfl) _ J1.out gy _ _ ns (by rfl) (by rfl) JC1.out hy0 (by simp; omega) (by simp) ?_; intro g5 cap5 w5 ho5 hg5 hb5 hl5; have O5 : Hid _:=ho5; have B5 : Hid (Below wr.heap.size wr w5):=(below_one wr _).grown hg5 (below_one wr _).size (fun k hk => ob_le hk (Nat.le_refl _)); have HB5g : Hid _:=hb5; clear ho5 hg5 hb5 hl5)
                | (refine wpList_append_ns (by rfl) _ _ (by rfl) wr.heap.size _ (by rfl) _ O5.out gq _ _ q (by rfl) (by rfl) (fun k u hk => (B5.out.cell (p:=⟨gq,k,none⟩) HGQ.out).trans (JC2.out k u hk)) hq1 (by simp; omega) B5.out.size ?_; intro g6 cap6 w6 ho6 hg6 hb6 hl6; have O6 : Hid (NsOwn w6 wr.heap.size (.slice (some ⟨g6,0,none⟩) (([(⟨3,z4⟩ : Nd)] ++ ns).length + q.length) cap6) ([(⟨3,z4⟩ : Nd)] ++ ns ++ q)):=ho6; have B6 : Hid (Below wr.heap.size wr w6):=B5.out.grown hg6 B5.out.size (fun k hk => ob_le hk HB5g.out); clear ho6 hg6 hb6 hl6))
              have O7 : Hid (NsOwn w6 w.heap.size (.slice (some ⟨g6,0,none⟩) (ns.length + 1 + q.length) cap6) (⟨3,z4⟩ :: (ns ++ q))):=by
                have h:=NsOwn.down (NsOwn.cast (n':=ns.length + 1 + q.length) O6.out (by simp)) (Nat.le_trans HX0.out.gr.size HBw.out.size)
                have e : [(⟨3,z4⟩ : Nd)] ++ ns ++ q = ⟨3,z4⟩ :: (ns ++ q):=by simp
                rw [e] at h
                exact h
              refine ⟨⟨j,⟨3,z4⟩ :: (ns ++ q),by omega,by go_num,O7,?_,fun _ => by simp,HBw.out.trans (B6.out.mono HBw.out.size)⟩,by simp [intOf]; try omega⟩
              show _ = _
              rw [if_neg (by omega),HDr.out,if_neg hjl,HQ2.out]
theorem all_ok (g : Nat) (s : ByteArray) (l : List UInt8) (hs : s.size ≤ 1000) (hC : AtomsC g s l) (ss : List Rx) (l1 : List UInt8) (h : Alt l (.ok (ss,l1))) : AllOkC g s l ss l1:=by
  intro w hA
  refine (all_walk g s l hs hC _ h w hA).mono ?_
  rintro e w' ⟨hg,u,nss,rfl,ho,⟨ss',m,h1,h2,h3⟩ | ⟨k,h1,_⟩⟩
  · injection h1 with h1
    injection h1 with h4 h5
    subst h4; subst h5
    refine ⟨hg,u,rfl,?_,h3⟩
    rw [ors_flat ss (alt_ne _ _ _ h),← h2]
    exact ho
  · cases h1
theorem all_bad (g : Nat) (s : ByteArray) (l : List UInt8) (hs : s.size ≤ 1000) (hC : AtomsC g s l) (k : Nat) (h : Alt l (.error k)) : AllBadC g s l k:=by
  intro w hA
  refine (all_walk g s l hs hC _ h w hA).mono ?_
  rintro e w' ⟨hg,u,nss,rfl,ho,⟨ss',m,h1,h2,h3⟩ | ⟨k',h1,hne,hsz,hB,hpos⟩⟩
  · cases h1
  · injection h1 with h1
    subst h1
    have:=orL_len1 nss hne
    exact ⟨hg,u,orL nss,rfl,ho,⟨hpos,by omega⟩,hB⟩
theorem base_ok (l : List UInt8) (n : Nd) (l1 : List UInt8) (h : base l = .ok (n,l1)) : (l.head? = some 91 ∧ ∃ c,bracket l.tail = .ok (c,l1) ∧ n = ⟨1,c⟩) ∨ (l.head? = some 46 ∧ n = ⟨1,dotC⟩ ∧ l1 = l.tail) ∨ (l.head? = some 94 ∧ n = ⟨8,z4⟩ ∧ l1 = l.tail) ∨ (l.head? = some 36 ∧ n = ⟨9,z4⟩ ∧ l1 = l.tail) ∨ (¬ l.head? = some 91 ∧ ¬ l.head? = some 46 ∧ ¬ l.head? = some 94 ∧ ¬ l.head? = some 36 ∧ ∃ b,rd1 l = .ok (b,l1) ∧ n = ⟨1,z4.add ((b : Nat) : Int)⟩):=by
  unfold base at h
  split at h
  · rename_i h0
    cases h1 : bracket l.tail with
    | error e => rw [h1] at h; simp at h
    | ok p =>
      obtain ⟨c,r⟩:=p
      rw [h1] at h
      injection h with h
      injection h with h2 h3
      subst h3
      exact Or.inl ⟨h0,c,rfl,h2.symm⟩
  · rename_i h91
    split at h
    · rename_i h0
      injection h with h
      injection h with h2 h3
      exact Or.inr (Or.inl ⟨h0,h2.symm,h3.symm⟩)
    · rename_i h46
      split at h
      · rename_i h0
        injection h with h
        injection h with h2 h3
        exact Or.inr (Or.inr (Or.inl ⟨h0,h2.symm,h3.symm⟩))
      · rename_i h94
        split at h
        · rename_i h0
          injection h with h
          injection h with h2 h3
          exact Or.inr (Or.inr (Or.inr (Or.inl ⟨h0,h2.symm,h3.symm⟩)))
        · rename_i h36
          cases h1 : rd1 l with
          | error e => rw [h1] at h; simp at h
          | ok p =>
            obtain ⟨b,r⟩:=p
            rw [h1] at h
            injection h with h
            injection h with h2 h3
            subst h3
            exact Or.inr (Or.inr (Or.inr (Or.inr ⟨h91,h46,h94,h36,b,rfl,h2.symm⟩)))
theorem base_bad (l : List UInt8) (k : Nat) (h : base l = .error k) : (l.head? = some 91 ∧ bracket l.tail = .error k) ∨ (¬ l.head? = some 91 ∧ ¬ l.head? = some 46 ∧ ¬ l.head? = some 94 ∧ ¬ l.head? = some 36 ∧ rd1 l = .error k):=by
  unfold base at h
  split at h
  · rename_i h0
    cases h1 : bracket l.tail with
    | error e => rw [h1] at h; injection h with h; subst h; exact Or.inl ⟨h0,rfl⟩
    | ok p => rw [h1] at h; cases h
  · rename_i h91
    split at h
    · cases h
    · rename_i h46
      split at h
      · cases h
      · rename_i h94
        split at h
        · cases h
        · rename_i h36
          cases h1 : rd1 l with
          | error e => rw [h1] at h; injection h with h; subst h; exact Or.inr ⟨h91,h46,h94,h36,rfl⟩
          | ok p => rw [h1] at h; cases h
theorem atom_both (g : Nat) (s : ByteArray) (hs : s.size ≤ 1000) : ∀ (n : Nat),n ≤ 1000 → ∀ m : List UInt8,m.length ≤ n → (∀ p,Atom m (.ok p) → AtomOkC g s m p) ∧ (∀ k,Atom m (.error k) → AtomBadC g s m k):=by
  intro n
  induction n with
  | zero =>
    intro _ m hm
    have hm0 : m = []:=List.eq_nil_of_length_eq_zero (by omega)
    subst hm0
    constructor
    · intro p h
      cases h with
      | ok _ nd l1 h40 hb => simp [base,rd1] at hb
    · intro k h
      cases h with
      | bad _ _ h40 hb =>
        rcases base_bad _ _ hb with ⟨h1,_⟩ | ⟨h91,h46,h94,h36,h1⟩
        · cases h1
        · exact atom_one_bad g s [] hs h40 h91 h46 h94 h36 k h1
  | succ n ih =>
    intro hn m hm
    have hatoms : ∀ l' : List UInt8,l'.length ≤ n → AtomsC g s l':=fun l' hl' m' hm' => ih (by omega) m' (by omega)
    constructor
    · intro p h
      cases h with
      | ok _ nd l1 h40 hb =>
        rcases base_ok _ _ _ hb with ⟨h0,c,h1,rfl⟩ | ⟨h0,rfl,rfl⟩ | ⟨h0,rfl,rfl⟩ | ⟨h0,rfl,rfl⟩ | ⟨h91,h46,h94,h36,b,h1,rfl⟩
        · exact atom_class g s m hs h0 c l1 h1
        · exact atom_dot g s m hs h0
        · exact atom_begin g s m hs h0
        · exact atom_end g s m hs h0
        · exact atom_one g s m hs h40 h91 h46 h94 h36 b l1 h1 _ rfl
      | inOk l' ss l1 h1 =>
        simp at hm
        have hz:=(sizes _ l' (Nat.le_refl _)).2.2 ss _ h1
        have ho:=orL_len (ss.map Rx.flat)
        rw [← ors_flat ss (alt_ne _ _ _ h1)] at ho
        simp at hz ho
        exact atom_inOk g s l' hs ss l1 (all_ok g s l' hs (hatoms l' (by omega)) ss _ h1) (by omega)
    · intro k h
      cases h with
      | bad _ _ h40 hb =>
        rcases base_bad _ _ hb with ⟨h0,h1⟩ | ⟨h91,h46,h94,h36,h1⟩
        · exact atom_class_bad g s m hs h0 k h1
        · exact atom_one_bad g s m hs h40 h91 h46 h94 h36 k h1
      | inBad l' _ h1 =>
        simp at hm
        exact atom_inBad g s l' hs k (all_bad g s l' hs (hatoms l' (by omega)) k h1)
      | inOpen l' ss l1 h1 h2 =>
        simp at hm
        have hz:=(sizes _ l' (Nat.le_refl _)).2.2 ss _ h1
        have ho:=orL_len (ss.map Rx.flat)
        rw [← ors_flat ss (alt_ne _ _ _ h1)] at ho
        simp at hz ho
        exact atom_inOpen g s l' hs ss l1 (all_ok g s l' hs (hatoms l' (by omega)) ss _ h1) h2 (by omega)
theorem atomsC_any (g : Nat) (s : ByteArray) (hs : s.size ≤ 1000) (l : List UInt8) (hl : l.length ≤ 1000) : AtomsC g s l:=fun m hm => atom_both g s hs 1000 (Nat.le_refl _) m (by omega)
theorem parseOf_full (s : ByteArray) (w : World) (h : 200 < s.size) (hm : s.size ≤ maxLen) :
    Calls Tryz.prog 22 #[.string s] w fun e w' => e = .returned (.tuple #[.slice none 0 0,.int .i64 0,.int .i64 3]) ∧ w' = w:=by
  unfold maxLen at hm
  have h1 : (200 : Int) < (s.size : Int):=by omega
  go_enter Tryz.func22,Tryz.ntmps22
  go_wp2
  go_ret3
  exact ⟨rfl,rfl⟩
theorem at_begin (s : ByteArray) (w : World) (hg : Nat) (hh : hg = w.heap.size) : At (w.alloc (.cells #[.string s,.int .i64 0,.int .i64 (-1)] 93)) hg s s.data.toList:=by
  subst hh
  refine ⟨0,by rw [len_str]; omega,rfl,?_⟩
  show (w.heap.push _)[w.heap.size]? = _
  simp
theorem below_all {w w' : World} {o : Obj} (hg : (w.alloc o).grownBy w' (some w.heap.size)) : Below w.heap.size w w':=by
  have h1:=below_one w o
  refine ⟨hg.os.trans h1.os,hg.tape.trans h1.tape,hg.output.trans h1.output,Nat.le_trans h1.size hg.size,fun k hk => ?_⟩
  exact (hg.block k (by simp; omega) (by intro e; injection e with e; omega)).trans (h1.block k hk)
theorem parseOf_bad (s : ByteArray) (w : World) (h : s.size ≤ 200) (k : Nat) (hW : Whole s.data.toList (.error k)) :
    Calls Tryz.prog 22 #[.string s] w fun e w' => e = .returned (.tuple #[.slice none 0 0,.int .i64 ((s.size : Int) - (k : Int)),.int .i64 5]) ∧ Below w.heap.size w w':=by
  have h1 : ¬ (200 : Int) < (s.size : Int):=by omega
  have hA:=at_begin s w _ rfl
  have hll:=len_str s
  have hat:=atomsC_any w.heap.size s (by omega) s.data.toList (by omega)
  cases hW with
  | bad _ h2 =>
    have CA : Hid _:=all_bad _ s _ (by omega) hat k h2 _ hA
    clear hA hat
    go_enter Tryz.func22,Tryz.ntmps22
    go_wp2_with fail
    refine Calls.mono CA.out ?_
    rintro e w1 ⟨hg1,u,ms,rfl,ho,hms,hB⟩
    have HBel : Hid _:=below_all hg1
    obtain ⟨ua,ucap,hu⟩:=NsOwn.form0 ho
    obtain ⟨a,bd,ha,hbd,hR⟩:=hB
    obtain ⟨c0,c1,c2,f1,f2⟩:=hR.all
    have hbq : decide ((bd : Int) < 0) = false:=by simp
    have HV : Hid ((s.size : Int) - (k : Int) = (bd : Int)):=by show _ = _; omega
    clear hg1 ho hR CA
    go_wp2_with fail
    go_quiet (fail)
    go_wp2
    go_ret3
    exact ⟨by rw [HV.out]; rfl,HBel.out.trans ((below_drewN' _ _).mono HBel.out.size)⟩
  | more ss l1 h2 h3 =>
    have CA : Hid _:=all_ok _ s _ (by omega) hat ss l1 h2 _ hA
    clear hA hat
    go_enter Tryz.func22,Tryz.ntmps22
    go_wp2_with fail
    refine Calls.mono CA.out ?_
    rintro e w1 ⟨hg1,u,rfl,ho,hA1⟩
    have HG : Hid _:=hg1
    obtain ⟨ua,ucap,hu⟩:=NsOwn.form0 ho
    obtain ⟨a,ha,hd,hR⟩:=hA1
    have hl1 : 0 < l1.length:=List.length_pos_iff.2 h3
    obtain ⟨c0,c1,c2,f1,f2⟩:=hR.all
    have ia : (a : Int) < (s.size : Int):=by omega
    have ib : decide (a < s.size) = true:=by simp; omega
    have CF : Hid _:=fail_first w.heap.size s a (-1) a w1 hR (by omega)
    have HV : Hid ((s.size : Int) - (l1.length : Int) = (a : Int)):=by show _ = _; omega
    clear hg1 ho hR hd CA
    go_wp2_with fail
    refine Calls.mono CF.out ?_
    rintro e w2 ⟨rfl,hR2,hg2⟩
    clear c0 c1 c2 f1 f2
    obtain ⟨c0,c1,c2,f1,f2⟩:=hR2.all
    have HBel : Hid _:=below_all (HG.out.trans hg2)
    clear hR2 hg2 CF
    go_wp2_with fail
    go_quiet (fail)
    go_wp2
    go_ret3
    exact ⟨by rw [HV.out]; rfl,HBel.out.trans ((below_drewN' _ _).mono HBel.out.size)⟩
theorem parseOf_ok (s : ByteArray) (w : World) (h : s.size ≤ 200) (t : Rx) (hW : Whole s.data.toList (.ok t)) :
    Calls Tryz.prog 22 #[.string s] w fun e w' => ∃ u,e = .returned (.tuple #[u,.int .i64 0,.int .i64 (if 60 < t.flat.length then 3 else 0)]) ∧ Below w.heap.size w w' ∧ NsIn w' u (if 60 < t.flat.length then [] else t.flat):=by
  have h1 : ¬ (200 : Int) < (s.size : Int):=by omega
  have hA:=at_begin s w _ rfl
  have hll:=len_str s
  have hat:=atomsC_any w.heap.size s (by omega) s.data.toList (by omega)
  cases hW with
  | ok ss h2 =>
    have hz:=(sizes _ _ (Nat.le_refl _)).2.2 ss _ h2
    have hol:=orL_len (ss.map Rx.flat)
    rw [← ors_flat ss (alt_ne _ _ _ h2)] at hol
    simp at hz hol
    have CA : Hid _:=all_ok _ s _ (by omega) hat ss [] h2 _ hA
    clear hA hat
    go_enter Tryz.func22,Tryz.ntmps22
    go_wp2_with fail
    refine Calls.mono CA.out ?_
    rintro e w1 ⟨hg1,u,rfl,ho,hA1⟩
    have HBel : Hid _:=below_all hg1
    have HO : Hid _:=ho.isIn (by unfold maxLen; omega)
    obtain ⟨ua,ucap,hu⟩:=NsOwn.form0 ho
    obtain ⟨a,ha,hd,hR⟩:=hA1
    obtain ⟨c0,c1,c2,f1,f2⟩:=hR.all
    simp at ha
    have ib : decide (a < s.size) = false:=by simp; omega
    clear hg1 ho hR hd CA
    by_cases h60 : 60 < (ors ss).flat.length
    · have h6 : (60 : Int) < ((ors ss).flat.length : Int):=by omega
      have H60 : Hid _:=h60
      subst hu
      clear h60
      go_wp2
      go_ret3
      exact ⟨.slice none 0 0,by first | rfl | (rw [if_pos H60.out]; rfl),HBel.out,by first | exact ⟨none,0,rfl,by simp,Or.inl rfl⟩ | (rw [if_pos H60.out]; exact ⟨none,0,rfl,by simp,Or.inl rfl⟩)⟩
    · have h6 : ¬ (60 : Int) < ((ors ss).flat.length : Int):=by omega
      have H60 : Hid _:=h60
      subst hu
      clear h60
      go_wp2
      go_ret3
      exact ⟨.slice ua (ors ss).flat.length ucap,by first | rfl | (rw [if_neg H60.out]; rfl),HBel.out,by first | exact HO.out | (rw [if_neg H60.out]; exact HO.out)⟩
theorem parseOf_own (s : ByteArray) (w : World) (h : s.size ≤ 200) (t : Rx) (hW : Whole s.data.toList (.ok t)) (h60 : ¬ 60 < t.flat.length) :
    Calls Tryz.prog 22 #[.string s] w fun e w' => ∃ a cap,e = .returned (.tuple #[.slice a t.flat.length cap,.int .i64 0,.int .i64 0]) ∧ Below w.heap.size w w' ∧ NsOwn w' w.heap.size (.slice a t.flat.length cap) t.flat:=by
  have h1 : ¬ (200 : Int) < (s.size : Int):=by omega
  have hA:=at_begin s w _ rfl
  have hll:=len_str s
  have hat:=atomsC_any w.heap.size s (by omega) s.data.toList (by omega)
  cases hW with
  | ok ss h2 =>
    have hz:=(sizes _ _ (Nat.le_refl _)).2.2 ss _ h2
    have hol:=orL_len (ss.map Rx.flat)
    rw [← ors_flat ss (alt_ne _ _ _ h2)] at hol
    simp at hz hol
    have CA : Hid _:=all_ok _ s _ (by omega) hat ss [] h2 _ hA
    clear hA hat
    go_enter Tryz.func22,Tryz.ntmps22
    go_wp2_with fail
    refine Calls.mono CA.out ?_
    rintro e w1 ⟨hg1,u,rfl,ho,hA1⟩
    have HBel : Hid _:=below_all hg1
    obtain ⟨ua,ucap,hu⟩:=NsOwn.form0 ho
    have HO : Hid (NsOwn w1 w.heap.size u (ors ss).flat):=ho.down (by simp)
    obtain ⟨a,ha,hd,hR⟩:=hA1
    obtain ⟨c0,c1,c2,f1,f2⟩:=hR.all
    simp at ha
    have ib : decide (a < s.size) = false:=by simp; omega
    clear hg1 ho hR hd CA
    have h6 : ¬ (60 : Int) < ((ors ss).flat.length : Int):=by omega
    subst hu
    clear h60
    go_wp2
    go_ret3
    exact ⟨ua,ucap,rfl,HBel.out,HO.out⟩
theorem parseOf_err (s : ByteArray) (hm : s.size ≤ maxLen) (ms : List Nd) (k e : Int) (h : PsR s ms k e) (he : ¬ e = 0) (w : World) :
    Calls Tryz.prog 22 #[.string s] w fun x w' => ∃ a cap,x = .returned (.tuple #[.slice a 0 cap,.int .i64 k,.int .i64 e]) ∧ Below w.heap.size w w':=by
  cases h with
  | full h1 =>
    refine (parseOf_full s w h1 hm).mono ?_
    rintro x w' ⟨rfl,rfl⟩
    exact ⟨none,0,rfl,Below.refl _ _⟩
  | bad k h1 h2 =>
    refine (parseOf_bad s w h1 k h2).mono ?_
    rintro x w' ⟨rfl,hb⟩
    exact ⟨none,0,rfl,hb⟩
  | many t h1 h2 h3 =>
    refine (parseOf_ok s w h1 t h2).mono ?_
    rintro x w' ⟨u,rfl,hb,hN⟩
    rw [if_pos h3] at hN ⊢
    obtain ⟨a,cap,hu,_⟩:=hN
    exact ⟨a,cap,by rw [hu]; rfl,hb⟩
  | ok => exact absurd rfl he
end Go.Proofs.YtcjghhedphmhkaaGreatDoor
