/- Own texts. -/
import Derived.Test.YtcjghhedphmhkaaGreatDoorY05
import Derived.Deep.LoopGhost
set_option linter.unusedSimpArgs false
set_option linter.unusedVariables false
set_option maxRecDepth 100000
set_option maxHeartbeats 8000000
namespace Go.Proofs.YtcjghhedphmhkaaGreatDoor
open Go.RowKit
def HA (n : Nat) : Prop:=∀ l : List UInt8,l.length ≤ n → ∀ R,Atom l R → Fits 93 l R
def catR : Except Nat (List Rx × List UInt8) → Except Nat (Rx × List UInt8)
  | .ok (xs,r) => .ok (cats xs,r)
  | .error k => .error k
def orR : Except Nat (List Rx × List UInt8) → Except Nat (Rx × List UInt8)
  | .ok (xs,r) => .ok (ors xs,r)
  | .error k => .error k
def Rest (J : List Rx → Rx) (ns P : List Nd) (y : Rx) (R : Except Nat (Rx × List UInt8)) : Except Nat (List Rx × List UInt8) → Prop
  | .ok (xs,r) => ∃ t,R = .ok (t,r) ∧ ns ++ t.flat = P ++ (J (y :: xs)).flat
  | .error k => R = .error k
def ChR (n : Nat) (w : World) (g : Nat) (s : ByteArray) (ns : List Nd) (R : Except Nat (Rx × List UInt8)) (from' : Value) (wr : World) : Prop :=
  ∃ (P : List Nd) (y : Rx) (l : List UInt8) (R' : Except Nat (List Rx × List UInt8)),from' = .int .i64 (P.length : Int) ∧ PAt wr g s l (P ++ y.flat) ∧ Below g w wr ∧ Seq l R' ∧ l.length ≤ n ∧ P.length + y.flat.length + 2 * l.length ≤ 899 ∧ Rest cats ns P y R R'
theorem atom_size {l : List UInt8} {x : Rx} {l1 : List UInt8} (h : Atom l (.ok (x,l1))) : x.flat.length + 1 + 2 * l1.length ≤ 2 * l.length:=(sizes l.length l (Nat.le_refl _)).1 x l1 h
theorem chain_any (n : Nat) (hA : HA n) (l : List UInt8) (hl : l.length ≤ n) (R0 : Except Nat (List Rx × List UInt8)) (hS : Seq l R0) : Fits 67 l (catR R0):=by
  intro g s ns w hm hp
  have hlt:=hp.lt
  have HP:=hid hp
  have HE:=hid (chainEnds_any g s l ns w hp)
  have HM:=hid hm
  have HAn:=hid hA
  clear hp hm hA
  cases hst : stp l with
  | true =>
    have hR : R0 = .ok ([],l):=by
      cases hS with
      | stop _ h => rfl
      | bad _ k h => rw [hst] at h; cases h
      | more _ x l1 xs l2 h => rw [hst] at h; cases h
      | moreBad _ x l1 k h => rw [hst] at h; cases h
    subst hR
    rw [hst] at HE
    clear hS hl hst
    go_enter Tryz.func67,Tryz.ntmps67
    go_wp2_with fail
    refine Calls.mono HE.out ?_
    rintro e w1 ⟨rfl,hb1⟩
    go_wp2_with fail
    refine Calls.mono (putA g s l ns ⟨2,z4⟩ _ (HP.out.below hb1) (by have:=HM.out; omega)) ?_
    rintro e w2 ⟨rfl,hp2,hb2⟩
    go_wp2_with fail
    refine bodyPost_ret (results_none rfl _ _ _) rfl ?_
    exact ⟨rfl,hp2,(hb1.mono (Nat.le_of_lt hlt)).trans hb2⟩
  | false =>
    rw [hst] at HE
    have hcs : (∃ k,R0 = .error k ∧ Atom l (.error k)) ∨ (∃ x l1 R',Atom l (.ok (x,l1)) ∧ Seq l1 R' ∧ Rest cats ns ns x (catR R0) R'):=by
      cases hS with
      | stop _ h => rw [hst] at h; cases h
      | bad _ k h ha => exact Or.inl ⟨k,rfl,ha⟩
      | more _ x l1 xs l2 h ha hs => exact Or.inr ⟨x,l1,_,ha,hs,⟨_,rfl,rfl⟩⟩
      | moreBad _ x l1 k h ha hs => exact Or.inr ⟨x,l1,_,ha,hs,rfl⟩
    clear hS hst
    obtain ⟨R,hR⟩ : ∃ R,R = catR R0:=⟨_,rfl⟩
    rcases hcs with ⟨k,rfl,ha⟩ | ⟨x,l1,R',ha,hs,hrest⟩
    · clear hR
      have HF : Hid (∀ w1,Below w.heap.size w w1 → Calls Tryz.prog 93 #[.pointer (some ⟨g,0,none⟩)] w1 (TrP w1 g s ns (.error k))):=fun w1 hb => HAn.out l hl _ ha g s ns w1 HM.out (HP.out.below hb)
      have HLN : Hid (∀ w1,Below w.heap.size w w1 → ∃ v,w1.cell? ⟨g,2,none⟩ = some v ∧ ∃ a c,v = .slice a ns.length c):=fun w1 hb => (HP.out.below hb).len
      clear ha
      go_enter Tryz.func67,Tryz.ntmps67
      go_wp2_with fail
      refine Calls.mono HE.out ?_
      rintro e w1 ⟨rfl,hb1⟩
      obtain ⟨v,hv,a0,c0,rfl⟩:=HLN.out w1 hb1
      go_wp2_with fail
      refine Calls.mono (HF.out w1 hb1) ?_
      rintro e w2 ⟨rfl,hs,hb2⟩
      exact ⟨rfl,rfl,hs,(hb1.mono (Nat.le_of_lt hlt)).trans hb2⟩
    · rw [← hR] at hrest ⊢
      clear hR
      have HF : Hid (∀ w1,Below w.heap.size w w1 → Calls Tryz.prog 93 #[.pointer (some ⟨g,0,none⟩)] w1 (TrP w1 g s ns (.ok (x,l1)))):=fun w1 hb => HAn.out l hl _ ha g s ns w1 HM.out (HP.out.below hb)
      have HSZ:=hid (atom_size ha)
      have HX:=hid (And.intro hs hrest)
      clear ha hs hrest
      have HLN : Hid (∀ w1,Below w.heap.size w w1 → ∃ v,w1.cell? ⟨g,2,none⟩ = some v ∧ ∃ a c,v = .slice a ns.length c):=fun w1 hb => (HP.out.below hb).len
      go_enter Tryz.func67,Tryz.ntmps67
      go_wp2_with fail
      refine Calls.mono HE.out ?_
      rintro e w1 ⟨rfl,hb1⟩
      obtain ⟨v,hv,a0,c0,rfl⟩:=HLN.out w1 hb1
      go_wp2_with fail
      refine Calls.mono (HF.out w1 hb1) ?_
      rintro e w2 ⟨rfl,hp2,hb2⟩
      have HST : Hid (ChR n w g s ns R (.int .i64 (ns.length : Int)) w2):=by
        have h3:=HSZ.out
        have h4:=HM.out
        exact ⟨ns,x,l1,R',rfl,hp2,(hb1.mono (Nat.le_of_lt hlt)).trans hb2,HX.out.1,by have:=flat_pos x; omega,by omega,HX.out.2⟩
      clear hb1 hp2 hb2 HF HLN HE HX
      go_wp2_with fail
      go_loopw [2] (fun from' wr => ChR n w g s ns R from' wr) (fun _ wr => s.size - plc wr g)
      case atStart => exact HST.out
      case round =>
        clear HST hv
        obtain ⟨P,y,l',R2,rfl,hp,hb,hs,hln,hz,hrest⟩:=hrel
        have HP':=hid hp
        have HB':=hid hb
        have HE':=hid (chainEnds_any g s l' _ wr hp)
        have hlt':=hp.lt
        have HZ:=hid hz
        have HPL:=hid (show plc wr g + l'.length = s.size from hp.plc_le)
        clear hp hb hz
        cases hst : stp l' with
        | true =>
          have hR2 : R2 = .ok ([],l'):=by
            cases hs with
            | stop _ h => rfl
            | bad _ k h => rw [hst] at h; cases h
            | more _ x l1 xs l2 h => rw [hst] at h; cases h
            | moreBad _ x l1 k h => rw [hst] at h; cases h
          subst hR2
          obtain ⟨t,hRt,htf⟩:=hrest
          have HRT:=hid hRt
          have HTF:=hid htf
          rw [hst] at HE'
          clear hs hRt htf hst
          go_wp2_with fail
          refine Calls.mono HE'.out ?_
          rintro e w3 ⟨rfl,hb3⟩
          go_wp2_with fail
          go_end0
          rw [HRT.out]
          refine ⟨rfl,?_,HB'.out.trans (hb3.mono (Nat.le_of_lt hlt'))⟩
          rw [HTF.out]
          exact HP'.out.below hb3
        | false =>
          rw [hst] at HE'
          have hcs : (∃ k,R = .error k ∧ Atom l' (.error k)) ∨ (∃ x l1 R',Atom l' (.ok (x,l1)) ∧ Seq l1 R' ∧ Rest cats ns (P ++ ⟨3,z4⟩ :: y.flat) x R R'):=by
            cases hs with
            | stop _ h => rw [hst] at h; cases h
            | bad _ k h ha => exact Or.inl ⟨k,hrest,ha⟩
            | more _ x l1 xs l2 h ha hs =>
              obtain ⟨t,hRt,htf⟩:=hrest
              refine Or.inr ⟨x,l1,_,ha,hs,⟨t,hRt,?_⟩⟩
              rw [htf]
              simp [cats,Rx.flat]
            | moreBad _ x l1 k h ha hs => exact Or.inr ⟨x,l1,_,ha,hs,hrest⟩
          clear hs hrest hst
          have HW : Hid (∀ w3,Below wr.heap.size wr w3 → Calls Tryz.prog 69 #[.pointer (some ⟨g,0,none⟩),.int .i64 (P.length : Int),.int .i64 3] w3 fun e w' => e = .returned (.tuple #[]) ∧ PAt w' g s l' (P ++ ⟨3,z4⟩ :: y.flat) ∧ Below g w3 w'):=fun w3 hb => wrapA g s l' P y.flat 3 w3 (HP'.out.below hb) (by have:=HZ.out; simp; omega) (flat_pos y)
          have HPz : Hid ((P ++ ⟨3,z4⟩ :: y.flat).length + 2 * l'.length ≤ 900):=by
            have:=HZ.out
            show _ ≤ _
            simp
            omega
          obtain ⟨P2,hP2⟩ : ∃ P2,P2 = P ++ ⟨3,z4⟩ :: y.flat:=⟨_,rfl⟩
          rw [← hP2] at hcs HW HPz
          have HL2 : Hid (P2.length = P.length + 1 + y.flat.length):=by
            show _ = _
            rw [hP2]
            simp
            omega
          clear hP2
          have HRP : Hid (∀ (w5 : World) Ra,PAt w5 g s l' P2 → Atom l' Ra → Calls Tryz.prog 93 #[.pointer (some ⟨g,0,none⟩)] w5 (TrP w5 g s P2 Ra)):=fun w5 Ra hp5 ha => HAn.out l' hln _ ha g s P2 w5 HPz.out hp5
          have HLN0:=hid hln
          clear hln
          go_wp2_with fail
          refine Calls.mono HE'.out ?_
          rintro e w3 ⟨rfl,hb3⟩
          go_wp2_with fail
          refine Calls.mono (HW.out w3 hb3) ?_
          rintro e w4 ⟨rfl,hp4,hb4⟩
          obtain ⟨v4,hv4,a4,c4,rfl⟩:=hp4.len
          have HB4:=hid (HB'.out.trans ((hb3.mono (Nat.le_of_lt hlt')).trans hb4))
          clear HW hb3 hb4 HE'
          rcases hcs with ⟨k,hRk,ha⟩ | ⟨x',l1',R',ha,hs,hrest⟩
          · have HRk:=hid hRk
            have HC:=hid (HRP.out w4 _ hp4 ha)
            clear hRk ha hp4
            go_wp2_with fail
            refine Calls.mono HC.out ?_
            rintro e w5 ⟨rfl,hs,hb5⟩
            refine ⟨rfl,?_⟩
            rw [HRk.out]
            exact ⟨rfl,hs,HB4.out.trans hb5⟩
          · have HC:=hid (HRP.out w4 _ hp4 ha)
            have HX:=hid (And.intro hs hrest)
            have HSZ2:=hid (atom_size ha)
            clear ha hp4 hs hrest
            go_wp2_with fail
            refine Calls.mono HC.out ?_
            rintro e w5 ⟨rfl,hp5,hb5⟩
            have HE5 : Hid (ChR n w g s ns R (.int .i64 (P2.length : Int)) w5 ∧ s.size - plc w5 g < s.size - plc wr g):=by
              have h1:=HSZ2.out
              have h2:=HPz.out
              have h3:=HPL.out
              have h4:=hp5.plc_le
              have h5:=HL2.out
              have h6:=HZ.out
              have h7:=flat_pos x'
              have h8:=HLN0.out
              refine ⟨⟨P2,x',l1',R',rfl,hp5,HB4.out.trans hb5,HX.out.1,?_,?_,HX.out.2⟩,?_⟩
              · omega
              · omega
              · omega
            clear hp5 hb5 HC HX
            go_wp2_with fail
            exact HE5.out
def HCh (n : Nat) : Prop:=∀ l : List UInt8,l.length ≤ n → ∀ R,Seq l R → Fits 67 l (catR R)
def conR (x : Rx) : Except Nat (List Rx × List UInt8) → Except Nat (List Rx × List UInt8)
  | .ok (ss,r) => .ok (x :: ss,r)
  | .error k => .error k
theorem alt_cases {l : List UInt8} {R0 : Except Nat (List Rx × List UInt8)} (h : Alt l R0) :
    (∃ k,Seq l (.error k) ∧ R0 = .error k) ∨ (∃ xs l1,Seq l (.ok (xs,l1)) ∧ ((l1.head? ≠ some 124 ∧ R0 = .ok ([cats xs],l1)) ∨ (∃ l2 R',l1 = 124 :: l2 ∧ Alt l2 R' ∧ R0 = conR (cats xs) R'))):=by
  cases h with
  | bad _ k h => exact Or.inl ⟨k,h,rfl⟩
  | last _ xs l1 h hh => exact Or.inr ⟨xs,l1,h,Or.inl ⟨hh,rfl⟩⟩
  | more _ xs l1 ss l2 h ha => exact Or.inr ⟨xs,_,h,Or.inr ⟨l1,_,rfl,ha,rfl⟩⟩
  | moreBad _ xs l1 k h ha => exact Or.inr ⟨xs,_,h,Or.inr ⟨l1,_,rfl,ha,rfl⟩⟩
theorem seq_size {l : List UInt8} {xs : List Rx} {l1 : List UInt8} (h : Seq l (.ok (xs,l1))) : (cats xs).flat.length + 2 * l1.length ≤ 2 * l.length + 1 ∧ l1.length ≤ l.length:=by
  have h1:=(sizes l.length l (Nat.le_refl _)).2.1 xs l1 h
  have h2:=catL_len (xs.map Rx.flat)
  rw [cats_flat]
  simp only [List.length_map] at h2
  omega
def ChO (n : Nat) (w : World) (g : Nat) (s : ByteArray) (ns : List Nd) (R : Except Nat (Rx × List UInt8)) (from' : Value) (wr : World) : Prop :=
  ∃ (P : List Nd) (y : Rx) (l : List UInt8),from' = .int .i64 (P.length : Int) ∧ PAt wr g s l (P ++ y.flat) ∧ Below g w wr ∧ l.length ≤ n ∧ P.length + y.flat.length + 2 * l.length ≤ 901 ∧
    ((l.head? ≠ some 124 ∧ ∃ t,R = .ok (t,l) ∧ ns ++ t.flat = P ++ y.flat) ∨ (∃ l2 R',l = 124 :: l2 ∧ Alt l2 R' ∧ Rest ors ns P y R R'))
theorem rest_next {ns P : List Nd} {y z : Rx} {R : Except Nat (Rx × List UInt8)} {R' : Except Nat (List Rx × List UInt8)} (h : Rest ors ns P y R (conR z R')) : Rest ors ns (P ++ ⟨4,z4⟩ :: y.flat) z R R':=by
  cases R' with
  | error k => exact h
  | ok p =>
    obtain ⟨ss,r⟩:=p
    obtain ⟨t,hR,hf⟩:=h
    refine ⟨t,hR,?_⟩
    rw [hf]
    simp [ors,Rx.flat]
theorem rest_first (ns : List Nd) (z : Rx) (R' : Except Nat (List Rx × List UInt8)) : Rest ors ns ns z (orR (conR z R')) R':=by
  cases R' with
  | error k => rfl
  | ok p => obtain ⟨ss,r⟩:=p; exact ⟨_,rfl,rfl⟩
theorem choice_any (n : Nat) (hC : HCh n) (l : List UInt8) (hl : l.length ≤ n) (R0 : Except Nat (List Rx × List UInt8)) (hS : Alt l R0) : Fits 46 l (orR R0):=by
  intro g s ns w hm hp
  have hlt:=hp.lt
  have HP:=hid hp
  have HM:=hid hm
  have HCn:=hid hC
  obtain ⟨v,hv,a0,c0,rfl⟩:=hp.len
  clear hp hm hC
  rcases alt_cases hS with ⟨k,hs,rfl⟩ | ⟨xs,l1,hs,hcs⟩
  · have HF:=hid (HCn.out l hl _ hs g s ns w HM.out HP.out)
    clear hs hS
    go_enter Tryz.func46,Tryz.ntmps46
    go_wp2_with fail
    refine Calls.mono HF.out ?_
    rintro e w2 ⟨rfl,hs,hb2⟩
    exact ⟨rfl,rfl,hs,hb2⟩
  · have HF:=hid (HCn.out l hl _ hs g s ns w HM.out HP.out)
    have HSZ:=hid (seq_size hs)
    obtain ⟨R,hR⟩ : ∃ R,R = orR R0:=⟨_,rfl⟩
    have hcs2 : (l1.head? ≠ some 124 ∧ ∃ t,R = .ok (t,l1) ∧ ns ++ t.flat = ns ++ (cats xs).flat) ∨ (∃ l2 R',l1 = 124 :: l2 ∧ Alt l2 R' ∧ Rest ors ns ns (cats xs) R R'):=by
      rcases hcs with ⟨hh,rfl⟩ | ⟨l2,R',h1,h2,rfl⟩
      · exact Or.inl ⟨hh,_,hR,rfl⟩
      · refine Or.inr ⟨l2,R',h1,h2,?_⟩
        rw [hR]
        exact rest_first ns _ R'
    rw [← hR]
    have HX:=hid hcs2
    have HLl:=hid hl
    clear hs hcs hcs2 hS hR hl
    go_enter Tryz.func46,Tryz.ntmps46
    go_wp2_with fail
    refine Calls.mono HF.out ?_
    rintro e w2 ⟨rfl,hp2,hb2⟩
    have HST : Hid (ChO n w g s ns R (.int .i64 (ns.length : Int)) w2):=by
      have h3:=HSZ.out
      have h4:=HM.out
      have h5:=HLl.out
      exact ⟨ns,cats xs,l1,rfl,hp2,hb2,by omega,by omega,HX.out⟩
    clear hp2 hb2 HF HX
    go_wp2_with fail
    go_loopw [2] (fun from' wr => ChO n w g s ns R from' wr) (fun _ wr => s.size - plc wr g)
    case atStart => exact HST.out
    case round =>
      clear HST hv
      obtain ⟨P,y,l',rfl,hp,hb,hln,hz,hor⟩:=hrel
      have HP':=hid hp
      have HB':=hid hb
      have hlt':=hp.lt
      have HZ:=hid hz
      have HPL:=hid (show plc wr g + l'.length = s.size from hp.plc_le)
      have HLN0:=hid hln
      clear hp hb hz hln
      rcases hor with ⟨hh,t,hRt,htf⟩ | ⟨l2,R',rfl,ha,hrest⟩
      · have HRT:=hid hRt
        have HTF:=hid htf
        clear hRt htf
        go_wp2_with fail
        refine Calls.mono (skipN g s l' _ 124 _ rfl _ HP'.out hh) ?_
        rintro e w3 ⟨rfl,hp3,hb3⟩
        go_wp2_with fail
        go_end0
        rw [HRT.out]
        refine ⟨rfl,?_,HB'.out.trans (hb3.mono (Nat.le_of_lt hlt'))⟩
        rw [HTF.out]
        exact hp3
      · have HAL:=hid (And.intro ha hrest)
        clear ha hrest
        go_wp2_with fail
        refine Calls.mono (skipY g s l2 _ 124 _ rfl _ HP'.out) ?_
        rintro e w3 ⟨rfl,hp3,hb3⟩
        have HW:=hid (wrapA g s l2 P y.flat 4 w3 hp3 (by have:=HZ.out; simp; omega) (flat_pos y))
        have HB3:=hid (HB'.out.trans hb3)
        clear hp3 hb3
        have HPz : Hid ((P ++ ⟨4,z4⟩ :: y.flat).length + 2 * l2.length ≤ 900):=by
          have:=HZ.out
          show _ ≤ _
          simp at this ⊢
          omega
        have HRN:=hid (fun (z : Rx) (R2 : Except Nat (List Rx × List UInt8)) (h : Rest ors ns P y R (conR z R2)) => rest_next h)
        have HR1 : Hid (∀ (z : Rx) (r : List UInt8),Rest ors ns P y R (.ok ([z],r)) → ∃ t,R = .ok (t,r) ∧ ns ++ t.flat = (P ++ ⟨4,z4⟩ :: y.flat) ++ z.flat):=by
          rintro z r ⟨t,h1,h2⟩
          refine ⟨t,h1,?_⟩
          rw [h2]
          simp [ors,Rx.flat]
        obtain ⟨P2,hP2⟩ : ∃ P2,P2 = P ++ ⟨4,z4⟩ :: y.flat:=⟨_,rfl⟩
        rw [← hP2] at HW HPz HRN HR1
        have HL2 : Hid (P2.length = P.length + 1 + y.flat.length):=by
          show _ = _
          rw [hP2]
          simp
          omega
        clear hP2
        go_wp2_with fail
        refine Calls.mono HW.out ?_
        rintro e w4 ⟨rfl,hp4,hb4⟩
        obtain ⟨v4,hv4,a4,c4,rfl⟩:=hp4.len
        have HB4:=hid (HB3.out.trans hb4)
        have HLl2 : Hid (l2.length ≤ n):=by have:=HLN0.out; show _ ≤ _; simp at this; omega
        clear HW hb4
        rcases alt_cases HAL.out.1 with ⟨k,hs,hRk⟩ | ⟨xs',l1',hs,hcs⟩
        · have HC:=hid (HCn.out l2 HLl2.out _ hs g s P2 w4 HPz.out hp4)
          have HRk : Hid (R = .error k):=by
            have h:=HAL.out.2
            rw [hRk] at h
            exact h
          clear hs hRk hp4
          go_wp2_with fail
          refine Calls.mono HC.out ?_
          rintro e w5 ⟨rfl,hs,hb5⟩
          refine ⟨rfl,?_⟩
          rw [HRk.out]
          exact ⟨rfl,hs,HB4.out.trans hb5⟩
        · have HC:=hid (HCn.out l2 HLl2.out _ hs g s P2 w4 HPz.out hp4)
          have HSZ2:=hid (seq_size hs)
          have HX : Hid ((l1'.head? ≠ some 124 ∧ ∃ t,R = .ok (t,l1') ∧ ns ++ t.flat = P2 ++ (cats xs').flat) ∨ (∃ l3 R2,l1' = 124 :: l3 ∧ Alt l3 R2 ∧ Rest ors ns P2 (cats xs') R R2)):=by
            have h:=HAL.out.2
            rcases hcs with ⟨hh,rfl⟩ | ⟨l3,R2,h1,h2,rfl⟩
            · exact Or.inl ⟨hh,HR1.out _ _ h⟩
            · exact Or.inr ⟨l3,R2,h1,h2,HRN.out _ _ h⟩
          clear hs hcs hp4
          go_wp2_with fail
          refine Calls.mono HC.out ?_
          rintro e w5 ⟨rfl,hp5,hb5⟩
          have HE5 : Hid (ChO n w g s ns R (.int .i64 (P2.length : Int)) w5 ∧ s.size - plc w5 g < s.size - plc wr g):=by
            have h1:=HSZ2.out
            have h2:=HPz.out
            have h3:=HPL.out
            have h4:=hp5.plc_le
            have h5:=HL2.out
            have h6:=HZ.out
            have h8:=HLl2.out
            simp at h3 h6
            refine ⟨⟨P2,cats xs',l1',rfl,hp5,HB4.out.trans hb5,?_,?_,HX.out⟩,?_⟩
            · omega
            · omega
            · omega
          clear hp5 hb5 HC HX
          go_wp2_with fail
          exact HE5.out
def grR : Except Nat (List Rx × List UInt8) → Except Nat (Rx × List UInt8)
  | .ok (ss,r) => if r.head? = some 41 then .ok (ors ss,r.tail) else .error r.length
  | .error k => .error k
theorem group_any (l : List UInt8) (R0 : Except Nat (List Rx × List UInt8)) (h : Fits 46 l (orR R0)) : Fits 133 l (grR R0):=by
  intro g s ns w hm hp
  have hlt:=hp.lt
  have HF:=hid (h g s ns w hm hp)
  clear h hp hm
  cases R0 with
  | error k =>
    go_enter_defers Tryz.func133,Tryz.ntmps133
    go_wp2_with fail
    refine Calls.mono HF.out ?_
    rintro e w2 ⟨rfl,hs,hb2⟩
    refine door_stuck _ _ _ _ _ g _ hs ?_
    intro w6 hb6
    exact ⟨rfl,hs.below hb6,hb2.trans (hb6.mono (Nat.le_trans (Nat.le_of_lt hlt) hb2.size))⟩
  | ok p =>
    obtain ⟨ss,r⟩:=p
    by_cases hr : r.head? = some 41
    · have HR : Hid (grR (.ok (ss,r)) = .ok (ors ss,r.tail)):=by show _ = _; rw [grR,if_pos hr]
      have HT:=hid (tail_len r _ hr).1
      rw [HR.out]
      clear hr
      go_enter_defers Tryz.func133,Tryz.ntmps133
      go_wp2_with fail
      refine Calls.mono HF.out ?_
      rintro e w2 ⟨rfl,hp2,hb2⟩
      obtain ⟨a2,v2,hp2,hO2⟩:=hp2
      go_wp2_with fail
      rw [HT.out] at hp2
      refine door_yes _ _ _ 41 g s a2 v2 r.tail _ hp2 ?_
      intro w4 hp4 hg4
      exact ⟨_,results_none rfl _ _ _,rfl,⟨_,v2,hp4,hO2.keptG hg4 (Nat.lt_succ_self g)⟩,hb2.trans (below_of_grown hg4 (Nat.le_refl _) (Nat.le_of_lt hp2.lt))⟩
    · have HR : Hid (grR (.ok (ss,r)) = .error r.length):=by show _ = _; rw [grR,if_neg hr]
      rw [HR.out]
      go_enter_defers Tryz.func133,Tryz.ntmps133
      go_wp2_with fail
      refine Calls.mono HF.out ?_
      rintro e w2 ⟨rfl,hp2,hb2⟩
      obtain ⟨a2,v2,hp2,hO2⟩:=hp2
      go_wp2_with fail
      refine door_no _ _ _ 41 g s a2 v2 r _ hp2 hr ?_
      intro w4 hs hg4
      exact ⟨rfl,hs,hb2.trans (below_of_grown hg4 (Nat.le_refl _) (Nat.le_of_lt hp2.lt))⟩
theorem single_group (r : List UInt8) (R : Except Nat (Rx × List UInt8)) (h : Fits 133 r R) : Fits 117 (40 :: r) R:=by
  intro g s ns w hm hp
  have hlt:=hp.lt
  have HP:=hid hp
  have HB:=hid (Below.refl g w)
  have HF : Hid (∀ w5,PAt w5 g s r ns → Calls Tryz.prog 133 #[.pointer (some ⟨g,0,none⟩)] w5 (TrP w5 g s ns R)):=fun w5 hp5 => h g s ns w5 (by simp at hm; omega) hp5
  clear h hp hm
  go_enter Tryz.func117,Tryz.ntmps117
  go_wp2_with fail
  refine Calls.mono (skipN g s _ ns 94 _ rfl _ HP.out (by simp)) ?_
  rintro e w1 ⟨rfl,hp,hb⟩
  replace HP:=hid hp
  replace HB:=hid (HB.out.trans (hb.mono (Nat.le_trans (Nat.le_of_lt hlt) HB.out.size)))
  clear hp hb
  go_wp2_with fail
  refine Calls.mono (skipN g s _ ns 36 _ rfl _ HP.out (by simp)) ?_
  rintro e w2 ⟨rfl,hp,hb⟩
  replace HP:=hid hp
  replace HB:=hid (HB.out.trans (hb.mono (Nat.le_trans (Nat.le_of_lt hlt) HB.out.size)))
  clear hp hb
  go_wp2_with fail
  refine Calls.mono (skipN g s _ ns 46 _ rfl _ HP.out (by simp)) ?_
  rintro e w3 ⟨rfl,hp,hb⟩
  replace HP:=hid hp
  replace HB:=hid (HB.out.trans (hb.mono (Nat.le_trans (Nat.le_of_lt hlt) HB.out.size)))
  clear hp hb
  go_wp2_with fail
  refine Calls.mono (skipN g s _ ns 91 _ rfl _ HP.out (by simp)) ?_
  rintro e w4 ⟨rfl,hp,hb⟩
  replace HP:=hid hp
  replace HB:=hid (HB.out.trans (hb.mono (Nat.le_trans (Nat.le_of_lt hlt) HB.out.size)))
  clear hp hb
  go_wp2_with fail
  refine Calls.mono (skipY g s r ns 40 _ rfl _ HP.out) ?_
  rintro e w5 ⟨rfl,hp,hb⟩
  replace HP:=hid hp
  replace HB:=hid (HB.out.trans hb)
  clear hp hb
  go_wp2_with fail
  refine Calls.mono (HF.out _ HP.out) ?_
  intro e w6 h6
  cases R with
  | error k =>
    obtain ⟨rfl,hs,hb6⟩:=h6
    exact ⟨rfl,rfl,hs,HB.out.trans hb6⟩
  | ok p =>
    obtain ⟨t,r2⟩:=p
    obtain ⟨rfl,hp6,hb6⟩:=h6
    go_wp2
    go_end0
    exact ⟨rfl,hp6,HB.out.trans hb6⟩
theorem single_fits (l : List UInt8) (h40 : l.head? ≠ some 40) : Fits 117 l (match base l with | .ok (n,r) => .ok (.leaf n,r) | .error k => .error k):=by
  intro g s ns w hm hp
  have h:=single_any g s l ns (by omega) h40 w hp
  cases hb : base l with
  | error k => rw [hb] at h; exact h
  | ok p => obtain ⟨n,r⟩:=p; rw [hb] at h; exact h
theorem read_all : ∀ n,HA n ∧ HCh n ∧ (∀ l : List UInt8,l.length ≤ n → ∀ R,Alt l R → Fits 46 l (orR R)):=by
  intro n
  induction n with
  | zero =>
    have hA : HA 0:=by
      intro l hl R hR
      have : l = []:=List.eq_nil_of_length_eq_zero (by omega)
      subst this
      cases hR with
      | bad _ k h hb =>
        have hf:=single_fits [] h
        rw [hb] at hf
        exact repeated_bad [] k hf
      | ok _ m l1 h hb =>
        have:=base_len _ _ _ hb
        simp at this
    have hC : HCh 0:=fun l hl R hR => chain_any 0 hA l hl R hR
    exact ⟨hA,hC,fun l hl R hR => choice_any 0 hC l hl R hR⟩
  | succ n ih =>
    have hA : HA (n + 1):=by
      intro l hl R hR
      cases hR with
      | bad _ k h hb =>
        have hf:=single_fits l h
        rw [hb] at hf
        exact repeated_bad l k hf
      | ok _ m l1 h hb =>
        have hf:=single_fits l h
        rw [hb] at hf
        refine repeated_ok l (.leaf m) l1 hf ?_
        have:=base_len _ _ _ hb
        simp [Rx.flat]
        omega
      | inBad l0 k ha =>
        have hc:=ih.2.2 l0 (by simp at hl; omega) _ ha
        exact repeated_bad _ k (single_group l0 _ (group_any l0 _ hc))
      | inOpen l0 ss l1 ha hh =>
        have hc:=ih.2.2 l0 (by simp at hl; omega) _ ha
        have hg:=group_any l0 _ hc
        rw [grR,if_neg hh] at hg
        exact repeated_bad _ _ (single_group l0 _ hg)
      | inOk l0 ss l1 ha =>
        have hc:=ih.2.2 l0 (by simp at hl; omega) _ ha
        have hg:=group_any l0 _ hc
        rw [grR,if_pos (show (41 :: l1).head? = some 41 from rfl)] at hg
        refine repeated_ok _ (ors ss) l1 (single_group l0 _ hg) ?_
        have h1:=(sizes l0.length l0 (Nat.le_refl _)).2.2 ss _ ha
        have h2:=orL_len (ss.map Rx.flat)
        rw [ors_flat ss (alt_ne l0 ss _ ha)]
        simp only [List.length_map,List.length_cons] at h1 h2 ⊢
        omega
    have hC : HCh (n + 1):=fun l hl R hR => chain_any (n + 1) hA l hl R hR
    exact ⟨hA,hC,fun l hl R hR => choice_any (n + 1) hC l hl R hR⟩
theorem catch_idle (p q t : Addr) (w : World) :
    CallsD Tryz.prog 45 #[.pointer (some p),.pointer (some q),.pointer (some t)] .returning w fun e u' w' => e = .returned (.tuple #[]) ∧ u' = .returning ∧ w' = w:=by
  refine callsD_of_wpS Tryz.func45 rfl fun c₀ cs hu => ?_
  apply wpS_seq
  apply wpS_region
  simp [wpOpsS,go_sem,recoverD,hu,Tryz.ntmps45,Exit.thenS]
  refine wpS_of_wp ?_
  generalize hQ : (fun (e : Exit) (a' : Act) (w' : World) => bodyPostS Tryz.prog _ c₀ cs _ e a' (c₀ :: cs) w') = Q
  change Code.wp _ _ Q { tmps:=#[.pointer (some p),.pointer (some q),.pointer (some t),.nilIface,undef,undef,.nilIface,undef,undef,undef,undef,undef,undef,undef,undef,undef,undef,undef,undef,undef],defers:=[] } w
  have HQ:=hid hQ
  clear hQ
  go_wp2
  rw [← HQ.out]
  refine ⟨rfl,.returning,?_,.tuple #[],results_none rfl _ _ _,rfl,rfl,rfl⟩
  cases c₀
  simp only at hu
  subst hu
  rfl
theorem catch_mis (b0 b1 b2 : Nat) (z : Int) (u0 : Value) (u1 : Int) (u2 : Value) (w : World) (h0 : w.cell? ⟨b0,0,none⟩ = some u0) (h1 : w.cell? ⟨b1,0,none⟩ = some (.int .i64 u1)) (h2 : w.cell? ⟨b2,0,none⟩ = some u2)
    (f0 : w.frozen? ⟨b0,0,none⟩ = false) (f1 : w.frozen? ⟨b1,0,none⟩ = false) (f2 : w.frozen? ⟨b2,0,none⟩ = false) (n01 : ¬ b0 = b1) (n02 : ¬ b0 = b2) (n12 : ¬ b1 = b2) :
    CallsD Tryz.prog 45 #[.pointer (some ⟨b0,0,none⟩),.pointer (some ⟨b1,0,none⟩),.pointer (some ⟨b2,0,none⟩)] (.panicking (mis z)) w fun e u' w' => e = .returned (.tuple #[]) ∧ u' = .panicking [{ v:=.iface 113 (.agg #[.int .i64 z]),recovered:=true }] ∧ w' = ((((w.setCell ⟨b0,0,none⟩ (.slice none 0 0)).setCell ⟨b1,0,none⟩ (.int .i64 z)).setCell ⟨b2,0,none⟩ (.iface 32 (.int .i64 5))).alloc (.cells #[.int .i64 z] 113)).drew:=by
  have l0:=block_lt_of_cell h0
  have l1:=block_lt_of_cell h1
  have l2:=block_lt_of_cell h2
  simp only at l0 l1 l2
  have m0 : ¬ b0 = w.heap.size:=by omega
  have m1 : ¬ b1 = w.heap.size:=by omega
  have m2 : ¬ b2 = w.heap.size:=by omega
  have m0' : ¬ w.heap.size = b0:=by omega
  have m1' : ¬ w.heap.size = b1:=by omega
  have m2' : ¬ w.heap.size = b2:=by omega
  have n10 : ¬ b1 = b0:=fun e => n01 e.symm
  have n20 : ¬ b2 = b0:=fun e => n02 e.symm
  have n21 : ¬ b2 = b1:=fun e => n12 e.symm
  have k0 : ∀ o,(w.alloc o).cell? ⟨b0,0,none⟩ = some u0:=fun o => by rw [World.cell?_alloc_past (w:=w) _ b0 0 l0]; exact h0
  have k1 : ∀ o,(w.alloc o).cell? ⟨b1,0,none⟩ = some (.int .i64 u1):=fun o => by rw [World.cell?_alloc_past (w:=w) _ b1 0 l1]; exact h1
  have k2 : ∀ o,(w.alloc o).cell? ⟨b2,0,none⟩ = some u2:=fun o => by rw [World.cell?_alloc_past (w:=w) _ b2 0 l2]; exact h2
  have z0 : ∀ o,(w.alloc o).frozen? ⟨b0,0,none⟩ = false:=fun o => (World.frozen?_of_block (a:=⟨b0,0,none⟩) (Below.heap_alloc w o b0 l0)).trans f0
  have z1 : ∀ o,(w.alloc o).frozen? ⟨b1,0,none⟩ = false:=fun o => (World.frozen?_of_block (a:=⟨b1,0,none⟩) (Below.heap_alloc w o b1 l1)).trans f1
  have z2 : ∀ o,(w.alloc o).frozen? ⟨b2,0,none⟩ = false:=fun o => (World.frozen?_of_block (a:=⟨b2,0,none⟩) (Below.heap_alloc w o b2 l2)).trans f2
  refine callsD_of_wpS Tryz.func45 rfl fun c₀ cs hu => ?_
  apply wpS_seq
  apply wpS_region
  simp [wpOpsS,go_sem,recoverD,hu,mis,Tryz.ntmps45,Exit.thenS]
  refine wpS_of_wp ?_
  generalize hQ : (fun (e : Exit) (a' : Act) (w' : World) => bodyPostS Tryz.prog _ c₀ cs _ e a' _ w') = Q
  change Code.wp _ _ Q { tmps:=#[.pointer (some ⟨b0,0,none⟩),.pointer (some ⟨b1,0,none⟩),.pointer (some ⟨b2,0,none⟩),.iface 113 (.agg #[.int .i64 z]),undef,undef,.iface 113 (.agg #[.int .i64 z]),undef,undef,undef,undef,undef,undef,undef,undef,undef,undef,undef,undef,undef],defers:=[] } w
  have HQ:=hid hQ
  clear hQ
  have hta : ∀ w : World,(Instr.typeAssert (.iface 113 (.agg #[.int .i64 z])) 20 113 true).run Tryz.prog w = .ok (.tuple #[.agg #[.int .i64 z],.bool true]) w:=fun _ => by kernel_rfl
  go_wp2
  go_region
  rw [← HQ.out]
  exact ⟨rfl,.panicking [{ v:=.iface 113 (.agg #[.int .i64 z]),recovered:=true }],rfl,.tuple #[],results_none rfl _ _ _,rfl,rfl,rfl⟩
theorem PAt.start (w : World) (s : ByteArray) (hs : s.size ≤ 200) : PAt (w.alloc (.cells #[.string s,.int .i64 0,.slice none 0 0,.bool false] 116)) w.heap.size s s.data.toList []:=by
  refine ⟨0,.slice none 0 0,⟨heap_alloc_new w _,by simp,?_,hs⟩,World.ownsRow_nil _ _ _ _⟩
  rw [str_len]
  omega
def three (w : World) : World:=((w.alloc (.cells #[.slice none 0 0] 60)).alloc (.cells #[.int .i64 0] 3)).alloc (.cells #[.nilIface] 36)
theorem three_size (w : World) : (three w).heap.size = w.heap.size + 1 + 1 + 1:=by simp [three]
theorem three_below (w : World) : Below w.heap.size w (three w):=(((Below.refl _ _).alloc (Nat.le_refl _) _).alloc (by simp) _).alloc (by simp; omega) _
structure Vars (h : Nat) (W : World) (v0 v1 v2 : Value) : Prop where
  b0 : W.heap[h]? = some (.cells #[v0] 60 (0,0))
  b1 : W.heap[h + 1]? = some (.cells #[v1] 3 (0,0))
  b2 : W.heap[h + 1 + 1]? = some (.cells #[v2] 36 (0,0))
theorem Vars.three (w : World) : Vars w.heap.size (three w) (.slice none 0 0) (.int .i64 0) .nilIface:=by
  refine ⟨?_,?_,?_⟩
  · refine (Below.heap_alloc _ _ _ (by simp; omega)).trans ((Below.heap_alloc _ _ _ (by simp)).trans (heap_alloc_new w _))
  · refine (Below.heap_alloc _ _ _ (by simp)).trans ?_
    have h:=heap_alloc_new (w.alloc (.cells #[.slice none 0 0] 60)) (.cells #[.int .i64 0] 3)
    rw [show (w.alloc (.cells #[.slice none 0 0] 60)).heap.size = w.heap.size + 1 from by simp] at h
    exact h
  · have h:=heap_alloc_new ((w.alloc (.cells #[.slice none 0 0] 60)).alloc (.cells #[.int .i64 0] 3)) (.cells #[.nilIface] 36)
    rw [show ((w.alloc (.cells #[.slice none 0 0] 60)).alloc (.cells #[.int .i64 0] 3)).heap.size = w.heap.size + 1 + 1 from by simp] at h
    exact h
theorem Vars.below {h B : Nat} {W W' : World} {v0 v1 v2 : Value} (x : Vars h W v0 v1 v2) (hb : Below B W W') (hB : h + 1 + 1 < B) : Vars h W' v0 v1 v2 :=
  ⟨(hb.block _ (by omega)).trans x.b0,(hb.block _ (by omega)).trans x.b1,(hb.block _ (by omega)).trans x.b2⟩
theorem Vars.cells {h : Nat} {W : World} {v0 v1 v2 : Value} (x : Vars h W v0 v1 v2) : W.cell? ⟨h,0,none⟩ = some v0 ∧ W.cell? ⟨h + 1,0,none⟩ = some v1 ∧ W.cell? ⟨h + 1 + 1,0,none⟩ = some v2 ∧ W.frozen? ⟨h,0,none⟩ = false ∧ W.frozen? ⟨h + 1,0,none⟩ = false ∧ W.frozen? ⟨h + 1 + 1,0,none⟩ = false:=by
  refine ⟨?_,?_,?_,Lib.frozen_of_heap x.b0 0,Lib.frozen_of_heap x.b1 0,Lib.frozen_of_heap x.b2 0⟩
  · rw [Lib.cell_of_heap x.b0]; rfl
  · rw [Lib.cell_of_heap x.b1]; rfl
  · rw [Lib.cell_of_heap x.b2]; rfl
def dcatch (h : Nat) : Deferred:={ target:=.fn (.func 45) #[.pointer (some ⟨h,0,none⟩),.pointer (some ⟨h + 1,0,none⟩),.pointer (some ⟨h + 1 + 1,0,none⟩)],args:=#[] }
theorem door_mis (tmps : Array Value) (R : Ending → World → Prop) (h : Nat) (z : Int) (W w : World) (x : Vars h W (.slice none 0 0) (.int .i64 0) .nilIface) (hw : Below h w W)
    (ht2 : tmps[2]? = some (.pointer (some ⟨h,0,none⟩))) (ht3 : tmps[3]? = some (.pointer (some ⟨h + 1,0,none⟩))) (ht4 : tmps[4]? = some (.pointer (some ⟨h + 1 + 1,0,none⟩)))
    (hR : ∀ W',Below h w W' → R (.returned (.tuple #[.slice none 0 0,.int .i64 z,.iface 32 (.int .i64 5)])) W') :
    Leaves Tryz.prog Tryz.f34 tmps R [dcatch h] (.panicking (mis z)) W:=by
  obtain ⟨c0,c1,c2,f0,f1,f2⟩:=x.cells
  refine leaves_cons (f:=45) (args:=#[.pointer (some ⟨h,0,none⟩),.pointer (some ⟨h + 1,0,none⟩),.pointer (some ⟨h + 1 + 1,0,none⟩)]) (by simp) (by simp [go_sem]) ?_
  refine (catch_mis h (h + 1) (h + 1 + 1) z _ _ _ W c0 c1 c2 f0 f1 f2 (by omega) (by omega) (by omega)).mono ?_
  rintro e u' w'' ⟨rfl,rfl,rfl⟩
  have hb : Below h w ((((W.setCell ⟨h,0,none⟩ (.slice none 0 0)).setCell ⟨h + 1,0,none⟩ (.int .i64 z)).setCell ⟨h + 1 + 1,0,none⟩ (.iface 32 (.int .i64 5))).alloc (.cells #[.int .i64 z] 113)).drew:=((((hw.setCell (Nat.le_refl _) _).setCell (by simp) _).setCell (by simp; omega) _).alloc (by
      have:=block_lt_of_cell c0
      simp at this ⊢
      omega) _).drew
  have hlt : h + 1 + 1 < W.heap.size:=by
    have:=block_lt_of_cell c2
    simpa using this
  have s1 : (W.setCell ⟨h,0,none⟩ (.slice none 0 0)).heap[h]? = some (.cells #[.slice none 0 0] 60 (0,0)):=by simp [World.setCell,Array.getElem?_modify,x.b0]
  have s2 : ((W.setCell ⟨h,0,none⟩ (.slice none 0 0)).setCell ⟨h + 1,0,none⟩ (.int .i64 z)).heap[h + 1]? = some (.cells #[.int .i64 z] 3 (0,0)):=by
    have h1 : (W.setCell ⟨h,0,none⟩ (.slice none 0 0)).heap[h + 1]? = some (.cells #[.int .i64 0] 3 (0,0)):=(Below.heap_setCell W _ _ (h + 1) (by simp)).trans x.b1
    generalize W.setCell ⟨h,0,none⟩ (.slice none 0 0) = W1 at h1 ⊢
    simp [World.setCell,Array.getElem?_modify,h1]
  have s3 : (((W.setCell ⟨h,0,none⟩ (.slice none 0 0)).setCell ⟨h + 1,0,none⟩ (.int .i64 z)).setCell ⟨h + 1 + 1,0,none⟩ (.iface 32 (.int .i64 5))).heap[h + 1 + 1]? = some (.cells #[.iface 32 (.int .i64 5)] 36 (0,0)):=by
    have h1 : ((W.setCell ⟨h,0,none⟩ (.slice none 0 0)).setCell ⟨h + 1,0,none⟩ (.int .i64 z)).heap[h + 1 + 1]? = some (.cells #[.nilIface] 36 (0,0)):=(Below.heap_setCell _ _ _ (h + 1 + 1) (by simp)).trans ((Below.heap_setCell W _ _ (h + 1 + 1) (by simp; omega)).trans x.b2)
    generalize (W.setCell ⟨h,0,none⟩ (.slice none 0 0)).setCell ⟨h + 1,0,none⟩ (.int .i64 z) = W1 at h1 ⊢
    simp [World.setCell,Array.getElem?_modify,h1]
  have s2':=(Below.heap_setCell _ ⟨h + 1 + 1,0,none⟩ (.iface 32 (.int .i64 5)) (h + 1) (by simp)).trans s2
  have s1':=(Below.heap_setCell _ ⟨h + 1 + 1,0,none⟩ (.iface 32 (.int .i64 5)) h (by simp; omega)).trans ((Below.heap_setCell _ ⟨h + 1,0,none⟩ (.int .i64 z) h (by simp)).trans s1)
  generalize ((W.setCell ⟨h,0,none⟩ (.slice none 0 0)).setCell ⟨h + 1,0,none⟩ (.int .i64 z)).setCell ⟨h + 1 + 1,0,none⟩ (.iface 32 (.int .i64 5)) = W3 at *
  have lt : ∀ k o,W3.heap[k]? = some o → k < W3.heap.size:=fun k o hk => by
    rcases Nat.lt_or_ge k W3.heap.size with h' | h'
    · exact h'
    · rw [Array.getElem?_eq_none h'] at hk; cases hk
  have y : Vars h (W3.alloc (.cells #[.int .i64 z] 113)).drew (.slice none 0 0) (.int .i64 z) (.iface 32 (.int .i64 5)) :=
    ⟨(Below.heap_alloc W3 _ h (lt _ _ s1')).trans s1',(Below.heap_alloc W3 _ (h + 1) (lt _ _ s2')).trans s2',(Below.heap_alloc W3 _ (h + 1 + 1) (lt _ _ s3)).trans s3⟩
  obtain ⟨e0,e1,e2,_,_,_⟩:=y.cells
  refine ⟨_,?_,hR _ hb⟩
  simp [results,Tryz.results34,go_sem,ht2,ht3,ht4,e0,e1,e2]
theorem door_idle (tmps : Array Value) (R : Ending → World → Prop) (h : Nat) (v0 v1 v2 : Value) (W : World) (x : Vars h W v0 v1 v2)
    (ht2 : tmps[2]? = some (.pointer (some ⟨h,0,none⟩))) (ht3 : tmps[3]? = some (.pointer (some ⟨h + 1,0,none⟩))) (ht4 : tmps[4]? = some (.pointer (some ⟨h + 1 + 1,0,none⟩)))
    (hR : R (.returned (.tuple #[v0,v1,v2])) W) :
    Leaves Tryz.prog Tryz.f34 tmps R [dcatch h] .returning W:=by
  refine leaves_cons (f:=45) (args:=#[.pointer (some ⟨h,0,none⟩),.pointer (some ⟨h + 1,0,none⟩),.pointer (some ⟨h + 1 + 1,0,none⟩)]) (by simp) (by simp [go_sem]) ?_
  refine (catch_idle _ _ _ W).mono ?_
  rintro e u' w'' ⟨rfl,rfl,rfl⟩
  obtain ⟨e0,e1,e2,_,_,_⟩:=x.cells
  refine ⟨_,?_,hR⟩
  simp [results,Tryz.results34,go_sem,ht2,ht3,ht4,e0,e1,e2]
theorem read_bad1 (s : ByteArray) (hs : s.size ≤ 200) (k : Nat) (h : Alt s.data.toList (.error k)) (w : World) :
    Calls Tryz.prog 34 #[.string s] w fun e w' => e = .returned (.tuple #[.slice none 0 0,.int .i64 ((s.size : Int) - (k : Int)),.iface 32 (.int .i64 5)]) ∧ Below w.heap.size w w':=by
  have hmf : ∀ (fn : Fn) (first cap : Array Value) (w : World),(Instr.makeFunc fn first cap).run Tryz.prog w = .ok (.func fn first cap) w:=fun _ _ _ _ => rfl
  have hf:=(read_all s.data.toList.length).2.2 s.data.toList (Nat.le_refl _) _ h (three w).heap.size s [] _ (by have:=str_len s; simp at this ⊢; omega) (PAt.start (three w) s hs)
  rw [three_size] at hf
  have HF:=hid hf
  clear h hf
  go_enter_defers Tryz.func34,Tryz.ntmps34
  go_wp2_with fail
  refine Calls.mono HF.out ?_
  rintro e w2 ⟨rfl,hst,hb2⟩
  have hb3:=((Below.refl (w.heap.size + 1 + 1 + 1) (three w)).alloc (by rw [three_size]; exact Nat.le_refl _) (.cells #[.string s,.int .i64 0,.slice none 0 0,.bool false] 116)).trans hb2
  refine door_mis _ _ w.heap.size _ _ w ((Vars.three w).below hb3 (by omega)) ((three_below w).trans (hb3.mono (by omega))) rfl rfl rfl ?_
  intro W' hW'
  exact ⟨rfl,hW'⟩
structure SynR : Prop where
  parse : ∀ (s : ByteArray) (w : World) ms k e,s.size ≤ maxLen → PsR s ms k e → Calls Tryz.prog 20 #[.string s] w fun x w' => ∃ u,x = .returned (.tuple #[u,.int .i64 k,errV e]) ∧ Below w.heap.size w w' ∧ NsIn w' u ms
theorem Vars.set {h : Nat} {W : World} {v0 v1 v2 : Value} (x : Vars h W v0 v1 v2) (u0 u1 u2 : Value) : Vars h (((W.setCell ⟨h,0,none⟩ u0).setCell ⟨h + 1,0,none⟩ u1).setCell ⟨h + 1 + 1,0,none⟩ u2) u0 u1 u2:=by
  have s1 : (W.setCell ⟨h,0,none⟩ u0).heap[h]? = some (.cells #[u0] 60 (0,0)):=by simp [World.setCell,Array.getElem?_modify,x.b0]
  have s2 : ((W.setCell ⟨h,0,none⟩ u0).setCell ⟨h + 1,0,none⟩ u1).heap[h + 1]? = some (.cells #[u1] 3 (0,0)):=by
    have h1 : (W.setCell ⟨h,0,none⟩ u0).heap[h + 1]? = some (.cells #[v1] 3 (0,0)):=(Below.heap_setCell W _ _ (h + 1) (by simp)).trans x.b1
    generalize W.setCell ⟨h,0,none⟩ u0 = W1 at h1 ⊢
    simp [World.setCell,Array.getElem?_modify,h1]
  have s3 : (((W.setCell ⟨h,0,none⟩ u0).setCell ⟨h + 1,0,none⟩ u1).setCell ⟨h + 1 + 1,0,none⟩ u2).heap[h + 1 + 1]? = some (.cells #[u2] 36 (0,0)):=by
    have h1 : ((W.setCell ⟨h,0,none⟩ u0).setCell ⟨h + 1,0,none⟩ u1).heap[h + 1 + 1]? = some (.cells #[v2] 36 (0,0)):=(Below.heap_setCell _ _ _ (h + 1 + 1) (by simp)).trans ((Below.heap_setCell W _ _ (h + 1 + 1) (by simp; omega)).trans x.b2)
    generalize (W.setCell ⟨h,0,none⟩ u0).setCell ⟨h + 1,0,none⟩ u1 = W1 at h1 ⊢
    simp [World.setCell,Array.getElem?_modify,h1]
  exact ⟨(Below.heap_setCell _ ⟨h + 1 + 1,0,none⟩ u2 h (by simp; omega)).trans ((Below.heap_setCell _ ⟨h + 1,0,none⟩ u1 h (by simp)).trans s1),(Below.heap_setCell _ ⟨h + 1 + 1,0,none⟩ u2 (h + 1) (by simp)).trans s2,s3⟩
theorem read_bad2 (s : ByteArray) (hs : s.size ≤ 200) (ss : List Rx) (l1 : List UInt8) (hl1 : l1 ≠ []) (h : Alt s.data.toList (.ok (ss,l1))) (w : World) :
    Calls Tryz.prog 34 #[.string s] w fun e w' => e = .returned (.tuple #[.slice none 0 0,.int .i64 ((s.size : Int) - (l1.length : Int)),.iface 32 (.int .i64 5)]) ∧ Below w.heap.size w w':=by
  have hmf : ∀ (fn : Fn) (first cap : Array Value) (w : World),(Instr.makeFunc fn first cap).run Tryz.prog w = .ok (.func fn first cap) w:=fun _ _ _ _ => rfl
  have hf:=(read_all s.data.toList.length).2.2 s.data.toList (Nat.le_refl _) _ h (three w).heap.size s [] _ (by have:=str_len s; simp at this ⊢; omega) (PAt.start (three w) s hs)
  rw [three_size] at hf
  have HF:=hid hf
  clear h hf
  go_enter_defers Tryz.func34,Tryz.ntmps34
  go_wp2_with fail
  refine Calls.mono HF.out ?_
  rintro e w2 ⟨rfl,hp2,hb2⟩
  obtain ⟨a2,v2,hp2,hO2⟩:=hp2
  have HB3:=hid (((Below.refl (w.heap.size + 1 + 1 + 1) (three w)).alloc (by rw [three_size]; exact Nat.le_refl _) (.cells #[.string s,.int .i64 0,.slice none 0 0,.bool false] 116)).trans hb2)
  have HP2:=hid hp2
  clear hb2 HF hO2
  obtain ⟨c1,r1,hcr⟩ : ∃ c r,l1 = c :: r:=by
    cases l1 with
    | nil => exact absurd rfl hl1
    | cons c r => exact ⟨c,r,rfl⟩
  subst hcr
  clear hp2 hl1
  go_wp2_with fail
  refine Calls.mono (more_cons _ s a2 v2 c1 r1 _ HP2.out) ?_
  rintro e w3 ⟨rfl,hb3⟩
  have hp3:=HP2.out.below hb3
  obtain ⟨c0,c1',c2,c3,f1,f2,f3⟩:=hp3.rd.all
  have HP3:=hid hp3
  have HB4:=hid (HB3.out.trans (hb3.mono (Nat.le_of_lt HP2.out.lt)))
  have HPL:=hid hp3.place
  clear hp3 hb3
  go_wp2_with fail
  refine Calls.mono (misfitAt_any _ s _ v2 false _ _ HP3.out.rd) ?_
  rintro e w4 ⟨rfl,hst,hg4⟩
  have hb5:=HB4.out.trans (below_of_grown hg4 (Nat.le_refl _) (Nat.le_of_lt HP3.out.lt))
  go_wp2_with fail
  refine door_mis _ _ w.heap.size (a2 : Int) _ w ((Vars.three w).below hb5 (by omega)) ((three_below w).trans (hb5.mono (by omega))) rfl rfl rfl ?_
  intro W' hW'
  refine ⟨?_,hW'⟩
  have h1:=HP3.out.le
  have h2 : (a2 : Int) = (s.size : Int) - ((c1 :: r1).length : Int):=by omega
  rw [h2]
theorem read_own (s : ByteArray) (hs : s.size ≤ 200) (ss : List Rx) (h : Alt s.data.toList (.ok (ss,[]))) (w : World) :
    Calls Tryz.prog 34 #[.string s] w fun e w' => ∃ v,e = .returned (.tuple #[v,.int .i64 0,.nilIface]) ∧ Below w.heap.size w w' ∧ NsOwn w' w.heap.size v (ors ss).flat:=by
  have hmf : ∀ (fn : Fn) (first cap : Array Value) (w : World),(Instr.makeFunc fn first cap).run Tryz.prog w = .ok (.func fn first cap) w:=fun _ _ _ _ => rfl
  have hf:=(read_all s.data.toList.length).2.2 s.data.toList (Nat.le_refl _) _ h (three w).heap.size s [] _ (by have:=str_len s; simp at this ⊢; omega) (PAt.start (three w) s hs)
  rw [three_size] at hf
  have HF:=hid hf
  clear h hf
  go_enter_defers Tryz.func34,Tryz.ntmps34
  go_wp2_with fail
  refine Calls.mono HF.out ?_
  rintro e w2 ⟨rfl,hp2,hb2⟩
  obtain ⟨a2,v2,hp2,hO2⟩:=hp2
  have HB3:=hid (((Below.refl (w.heap.size + 1 + 1 + 1) (three w)).alloc (by rw [three_size]; exact Nat.le_refl _) (.cells #[.string s,.int .i64 0,.slice none 0 0,.bool false] 116)).trans hb2)
  have HP2:=hid hp2
  have HO2:=hid hO2
  clear hb2 HF hO2 hp2
  go_wp2_with fail
  refine Calls.mono (more_nil _ s a2 v2 _ HP2.out) ?_
  rintro e w3 ⟨rfl,hb3⟩
  have hp3:=HP2.out.below hb3
  obtain ⟨g3,cap3,hu,hg3,hl3,_⟩:=(HO2.out.below hb3).form (by simp; exact flat_pos _)
  have HO3:=hid (HO2.out.below hb3)
  subst hu
  obtain ⟨c0,c1',c2,c3,f1,f2,f3⟩:=hp3.rd.all
  have hx:=(Vars.three w).below (HB3.out.trans (hb3.mono (Nat.le_of_lt HP2.out.lt))) (by omega)
  obtain ⟨x0,x1,x2,y0,y1,y2⟩:=hx.cells
  have HB4:=hid (HB3.out.trans (hb3.mono (Nat.le_of_lt HP2.out.lt)))
  have HX:=hid hx
  clear hp3 hb3 HP2 hx
  obtain ⟨L,hL⟩ : ∃ L,L = ([] ++ (ors ss).flat).length:=⟨_,rfl⟩
  rw [← hL] at c2 HO3
  have HL:=hid hL
  clear hL
  go_wp2_with fail
  refine door_idle _ _ w.heap.size _ _ _ _ (HX.out.set _ _ _) rfl rfl rfl ?_
  have hO4:=((HO3.out.keptG (grown_cell w3 w.heap.size 0 (.slice (some ⟨g3,0,none⟩) L cap3)) (by omega)).keptG (grown_cell _ (w.heap.size + 1) 0 (.int .i64 0)) (by omega)).keptG (grown_cell _ (w.heap.size + 1 + 1) 0 .nilIface) (by omega)
  refine ⟨_,rfl,?_,?_⟩
  · exact ((((three_below w).trans (HB4.out.mono (by omega))).setCell (Nat.le_refl _) _).setCell (by simp) _).setCell (by simp; omega) _
  · exact World.ownsRow.mono (show NsOwn _ _ _ (ors ss).flat from hO4) (by (try rw [three_size]); omega)
theorem alt_len {s : ByteArray} (hs : s.size ≤ 200) {ss : List Rx} (h : Alt s.data.toList (.ok (ss,[]))) : (ors ss).flat.length ≤ maxLen:=by
  have h1:=(sizes s.data.toList.length s.data.toList (Nat.le_refl _)).2.2 ss [] h
  have h2:=orL_len (ss.map Rx.flat)
  have h3:=str_len s
  rw [ors_flat ss (alt_ne _ ss _ h)]
  simp only [List.length_map,List.length_nil] at h1 h2
  unfold maxLen
  omega
theorem read_ok (s : ByteArray) (hs : s.size ≤ 200) (ss : List Rx) (h : Alt s.data.toList (.ok (ss,[]))) (w : World) :
    Calls Tryz.prog 34 #[.string s] w fun e w' => ∃ v,e = .returned (.tuple #[v,.int .i64 0,.nilIface]) ∧ Below w.heap.size w w' ∧ NsIn w' v (ors ss).flat :=
  (read_own s hs ss h w).mono fun _ _ ⟨v,h1,h2,h3⟩ => ⟨v,h1,h2,h3.isIn (alt_len hs h)⟩
theorem parse_full (s : ByteArray) (hs : 200 < s.size) (hm : s.size ≤ maxLen) (w : World) :
    Calls Tryz.prog 20 #[.string s] w fun e w' => e = .returned (.tuple #[.slice none 0 0,.int .i64 0,.iface 32 (.int .i64 3)]) ∧ Below w.heap.size w w':=by
  have h1 : (200 : Int) < (s.size : Int):=by omega
  go_enter Tryz.func20,Tryz.ntmps20
  go_wp2
  go_ret3
  exact ⟨rfl,Below.refl _ _⟩
theorem parse_bad (s : ByteArray) (hs : s.size ≤ 200) (z : Int) (w : World) (h : Calls Tryz.prog 34 #[.string s] w fun e w' => e = .returned (.tuple #[.slice none 0 0,.int .i64 z,.iface 32 (.int .i64 5)]) ∧ Below w.heap.size w w') :
    Calls Tryz.prog 20 #[.string s] w fun e w' => e = .returned (.tuple #[.slice none 0 0,.int .i64 z,.iface 32 (.int .i64 5)]) ∧ Below w.heap.size w w':=by
  have h1 : ¬ (200 : Int) < (s.size : Int):=by omega
  have HC:=hid h
  clear h
  go_enter Tryz.func20,Tryz.ntmps20
  go_wp2_with fail
  refine Calls.mono HC.out ?_
  rintro e w1 ⟨rfl,hb⟩
  go_wp2
  go_ret3
  exact ⟨rfl,hb⟩
theorem parse_ok (s : ByteArray) (hs : s.size ≤ 200) (ms : List Nd) (w : World) (h : Calls Tryz.prog 34 #[.string s] w fun e w' => ∃ v,e = .returned (.tuple #[v,.int .i64 0,.nilIface]) ∧ Below w.heap.size w w' ∧ NsIn w' v ms) (hk : ¬ 60 < ms.length) :
    Calls Tryz.prog 20 #[.string s] w fun e w' => ∃ v,e = .returned (.tuple #[v,.int .i64 0,.nilIface]) ∧ Below w.heap.size w w' ∧ NsIn w' v ms:=by
  have h1 : ¬ (200 : Int) < (s.size : Int):=by omega
  have h2 : ¬ (60 : Int) < (ms.length : Int):=by omega
  have HC:=hid h
  clear h
  go_enter Tryz.func20,Tryz.ntmps20
  go_wp2_with fail
  refine Calls.mono HC.out ?_
  rintro e w1 ⟨v,rfl,hb,hN⟩
  obtain ⟨a0,c0,rfl,hN1⟩:=hN
  have HN:=hid hN1
  clear hN1
  go_wp2
  go_ret3
  exact ⟨_,rfl,hb,⟨a0,c0,rfl,HN.out⟩⟩
theorem parse_many (s : ByteArray) (hs : s.size ≤ 200) (ms : List Nd) (w : World) (h : Calls Tryz.prog 34 #[.string s] w fun e w' => ∃ v,e = .returned (.tuple #[v,.int .i64 0,.nilIface]) ∧ Below w.heap.size w w' ∧ NsIn w' v ms) (hk : 60 < ms.length) :
    Calls Tryz.prog 20 #[.string s] w fun e w' => e = .returned (.tuple #[.slice none 0 0,.int .i64 0,.iface 32 (.int .i64 3)]) ∧ Below w.heap.size w w':=by
  have h1 : ¬ (200 : Int) < (s.size : Int):=by omega
  have h2 : (60 : Int) < (ms.length : Int):=by omega
  have HC:=hid h
  clear h
  go_enter Tryz.func20,Tryz.ntmps20
  go_wp2_with fail
  refine Calls.mono HC.out ?_
  rintro e w1 ⟨v,rfl,hb,hN⟩
  obtain ⟨a0,c0,rfl,hN1⟩:=hN
  clear hN1
  go_wp2
  go_ret3
  exact ⟨rfl,hb⟩
theorem nsNil (w : World) : NsIn w (.slice none 0 0) []:=⟨none,0,rfl,by unfold maxLen; simp,Or.inl rfl⟩
theorem whole_bad {l : List UInt8} {k : Nat} (h : Whole l (.error k)) : Alt l (.error k) ∨ ∃ ss l1,Alt l (.ok (ss,l1)) ∧ l1 ≠ [] ∧ k = l1.length:=by
  cases h with
  | bad _ h => exact Or.inl h
  | more ss l1 h hn => exact Or.inr ⟨ss,l1,h,hn,rfl⟩
theorem whole_ok {l : List UInt8} {t : Rx} (h : Whole l (.ok t)) : ∃ ss,Alt l (.ok (ss,[])) ∧ t = ors ss:=by
  cases h with
  | ok ss h => exact ⟨ss,h,rfl⟩
theorem synR : SynR where
  parse:=by
    intro s w ms k e hm hR
    cases hR with
    | full h => exact (parse_full s h hm w).mono fun _ w' x => ⟨_,x.1,x.2,nsNil w'⟩
    | bad k h hW =>
      have hread : Calls Tryz.prog 34 #[.string s] w fun e w' => e = .returned (.tuple #[.slice none 0 0,.int .i64 ((s.size : Int) - (k : Int)),.iface 32 (.int .i64 5)]) ∧ Below w.heap.size w w':=by
        rcases whole_bad hW with ha | ⟨ss,l1,ha,hn,rfl⟩
        · exact read_bad1 s h k ha w
        · exact read_bad2 s h ss l1 hn ha w
      exact (parse_bad s h _ w hread).mono fun _ w' x => ⟨_,x.1,x.2,nsNil w'⟩
    | many t h hW h6 =>
      obtain ⟨ss,ha,rfl⟩:=whole_ok hW
      exact (parse_many s h _ w (read_ok s h ss ha w) h6).mono fun _ w' x => ⟨_,x.1,x.2,nsNil w'⟩
    | ok t h hW h6 =>
      obtain ⟨ss,ha,rfl⟩:=whole_ok hW
      exact (parse_ok s h _ w (read_ok s h ss ha w) h6).mono fun _ w' x => by
        obtain ⟨v,h1,h2,h3⟩:=x
        exact ⟨v,h1,h2,h3⟩
theorem parse_by (s : ByteArray) (hs : s.size ≤ 200) (ms : List Nd) (w : World) (h : Calls Tryz.prog 34 #[.string s] w fun e w' => ∃ v,e = .returned (.tuple #[v,.int .i64 0,.nilIface]) ∧ Below w.heap.size w w' ∧ NsOwn w' w.heap.size v ms) (hk : ¬ 60 < ms.length) :
    Calls Tryz.prog 20 #[.string s] w fun e w' => ∃ a c,e = .returned (.tuple #[.slice a ms.length c,.int .i64 0,.nilIface]) ∧ Below w.heap.size w w' ∧ NsOwn w' w.heap.size (.slice a ms.length c) ms:=by
  have h1 : ¬ (200 : Int) < (s.size : Int):=by omega
  have h2 : ¬ (60 : Int) < (ms.length : Int):=by omega
  have HC:=hid h
  clear h
  go_enter Tryz.func20,Tryz.ntmps20
  go_wp2_with fail
  refine Calls.mono HC.out ?_
  rintro e w1 ⟨v,rfl,hb,hN⟩
  obtain ⟨a0,c0,rfl⟩:=owns_form hN
  have HN:=hid hN
  clear hN
  go_wp2
  go_ret3
  exact ⟨_,_,rfl,hb,HN.out⟩
theorem parse_own (s : ByteArray) (w : World) (h : s.size ≤ 200) (t : Rx) (hW : Whole s.data.toList (.ok t)) (h60 : ¬ 60 < t.flat.length) :
    Calls Tryz.prog 20 #[.string s] w fun e w' => ∃ a c,e = .returned (.tuple #[.slice a t.flat.length c,.int .i64 0,.nilIface]) ∧ Below w.heap.size w w' ∧ NsOwn w' w.heap.size (.slice a t.flat.length c) t.flat:=by
  obtain ⟨ss,ha,rfl⟩:=whole_ok hW
  exact parse_by s h _ w (read_own s h ss ha w) h60
structure LitN (X : World → Prop) : Prop where
  bad : ∀ ns v w,NsIn w v ns → (∀ n ∈ ns,n.wf) → ¬ faultL ns = 0 → Calls Tryz.prog 39 #[v] w fun e w' => e = .returned (.tuple #[.string ⟨#[]⟩,errV (faultL ns)]) ∧ Below w.heap.size w w'
  need : ∀ (t : Rx) v w,X w → t.Ok → NsIn w v t.flat → (∀ n ∈ t.flat,n.wf) → faultL t.flat = 0 → Calls Tryz.prog 39 #[v] w fun e w' => e = .returned (.tuple #[.string ⟨t.ned.toArray⟩,.nilIface]) ∧ Below w.heap.size w w'
theorem tb_mod (m j : Nat) : (((m / 2 ^ j : Nat) : Int) % 2 == 1) = m.testBit j:=by
  rw [tb_eq]
  generalize m / 2 ^ j = z
  by_cases h : z % 2 = 1
  · rw [h]
    have : (z : Int) % 2 = 1:=by omega
    rw [this]; rfl
  · have : ¬ (z : Int) % 2 = 1:=by omega
    simp only [h,decide_false]
    rw [beq_eq_false_iff_ne]
    exact this
theorem wrap_half (z : Nat) (h : z < 18446744073709551616) : Value.int IntKind.u64 (IntKind.u64.wrap ((z : Int) / 2)) = Value.int IntKind.u64 ((z / 2 : Nat) : Int):=by
  have e : (z : Int) / 2 = ((z / 2 : Nat) : Int):=by omega
  rw [e,u64_small _ (by omega)]
theorem wrap_twice (z : Nat) (h : z * 2 < 18446744073709551616) : Value.int IntKind.u64 (IntKind.u64.wrap ((z : Int) * 2)) = Value.int IntKind.u64 ((z * 2 : Nat) : Int):=by
  have e : (z : Int) * 2 = ((z * 2 : Nat) : Int):=by omega
  rw [e,u64_small _ h]
theorem in_walk (k : C4) (x : Int) (h0 : 0 ≤ x) (hb : x < 256) (m : Nat) (hm : k.w (x / 64).toNat = (m : Int)) (hml : m < 18446744073709551616) (w : World) :
    Calls Tryz.prog 63 #[k.v,.int .i64 x] w fun e w' => e = .returned (.bool (m.testBit (x % 64).toNat)) ∧ Below w.heap.size w w':=by
  have hw:=k.get (x / 64).toNat (by omega)
  rw [hm] at hw
  have HL:=(show Hid _ from hml)
  clear hm hml
  go_enter Tryz.func63,Tryz.ntmps63
  go_wp2
  go_loop [5,6] (fun n i => ∃ j z : Nat,(j : Int) ≤ x % 64 ∧ Hid (z = m / 2 ^ j) ∧ i = .int .i64 j ∧ n = .int .u64 (z : Int)) (fun _ i => (x % 64).toNat - (intOf i).toNat)
  case atStart => exact ⟨0,m,by omega,by show m = m / 2 ^ 0; simp,rfl,rfl⟩
  case round =>
    obtain ⟨j,z,hj,HZ,rfl,rfl⟩:=hrel
    by_cases hlt : (j : Int) < x % 64
    · go_wp2
      go_round
      case rel =>
        have hz : z < 18446744073709551616:=by rw [HZ.out]; exact Nat.lt_of_le_of_lt (Nat.div_le_self _ _) HL.out
        exact ⟨j + 1,z / 2,by omega,by show _ = _; rw [HZ.out,Nat.pow_succ,← Nat.div_div_eq_div_mul],by go_num,wrap_half z hz⟩
      case measure => simp [intOf]; omega
    · have hj2 : (x % 64).toNat = j:=by omega
      have HJ:=(show Hid _ from hj2)
      clear hj2
      go_wp2
      go_ret
      refine ⟨?_,(Below.refl _ _).alloc (Nat.le_refl _) _⟩
      show Ending.returned (.bool ((z : Int) % 2 == 1)) = _
      rw [HJ.out,← tb_mod,← HZ.out]
theorem in_any (k : C4) (hk : k.ok) (b : Nat) (hb : b < 256) (w : World) :
    Calls Tryz.prog 63 #[k.v,.int .i64 b] w fun e w' => e = .returned (.bool (k.has b)) ∧ Below w.heap.size w w':=by
  obtain ⟨m,hm,hl⟩:=okW_nat (C4.ok_w hk (b / 64))
  have e1 : ((b : Int) / 64).toNat = b / 64:=by omega
  have e2 : ((b : Int) % 64).toNat = b % 64:=by omega
  have h:=in_walk k b (by omega) (by omega) m (by rw [e1]; exact hm) hl w
  rw [e2] at h
  have e3 : k.has b = m.testBit (b % 64):=by unfold C4.has; rw [hm,Int.toNat_natCast]
  rw [e3]
  exact h
/-! With: a byte more -/
theorem add_is_or (x j : Nat) (h : x.testBit j = false) : x + 2 ^ j = x ||| 2 ^ j:=by
  have hb : x / 2 ^ j % 2 = 0:=by
    rw [tb_eq] at h
    have:=of_decide_eq_false h
    omega
  have hp : 0 < 2 ^ j:=Nat.two_pow_pos j
  have e1 : x = 2 ^ (j + 1) * (x / 2 ^ j / 2) + x % 2 ^ j:=by
    have a1:=Nat.div_add_mod x (2 ^ j)
    have a2 : x / 2 ^ j = 2 * (x / 2 ^ j / 2):=by omega
    rw [Nat.pow_succ,Nat.mul_assoc]
    rw [a2] at a1
    omega
  have hlo : x % 2 ^ j < 2 ^ j:=Nat.mod_lt _ hp
  generalize x % 2 ^ j = lo at *
  generalize x / 2 ^ j / 2 = A at *
  have j1 : 2 ^ (j + 1) * A ||| lo = 2 ^ (j + 1) * A + lo:=nat_join j _ _ (by rw [Nat.pow_succ,Nat.mul_assoc,Nat.mul_mod_right]) hlo
  have j2 : 2 ^ (j + 1) * A ||| 2 ^ j = 2 ^ (j + 1) * A + 2 ^ j:=nat_join (j + 1) _ _ (by rw [Nat.mul_mod_right]) (by rw [Nat.pow_succ]; omega)
  have j3 : (2 ^ (j + 1) * A + 2 ^ j) ||| lo = 2 ^ (j + 1) * A + 2 ^ j + lo:=nat_join j _ _ (by rw [Nat.pow_succ,Nat.mul_assoc,← Nat.mul_succ,Nat.mul_mod_right]) hlo
  rw [e1]
  rw [← j1,Nat.or_assoc,Nat.or_comm lo,← Nat.or_assoc,j2,j3,j1]
  omega
theorem C4.put_add {k : C4} (hk : k.ok) (b : Nat) (hb : b < 256) (h : k.has b = false) : k.put ((b : Int) / 64).toNat (IntKind.u64.wrap (k.w ((b : Int) / 64).toNat + ((2 ^ ((b : Int) % 64).toNat : Nat) : Int))) = k.add (b : Int):=by
  have e1 : ((b : Int) / 64).toNat = b / 64:=by omega
  have e2 : ((b : Int) % 64).toNat = b % 64:=by omega
  unfold C4.add
  rw [e1,e2]
  obtain ⟨m,hm,hl⟩:=okW_nat (C4.ok_w hk (b / 64))
  have e3 : m.testBit (b % 64) = false:=by
    unfold C4.has at h
    rwa [hm,Int.toNat_natCast] at h
  rw [hm]
  congr 1
  have h2 : 2 ^ (b % 64) < 2 ^ 64:=Nat.pow_lt_pow_right (by decide) (by omega)
  have ew : IntKind.u64.wrap (2 ^ (b % 64)) = ((2 ^ (b % 64) : Nat) : Int):=by
    have:=u64_small (2 ^ (b % 64)) h2
    rw [Int.natCast_pow] at this
    rw [Int.natCast_pow]
    exact this
  have ho : m ||| 2 ^ (b % 64) < 2 ^ 64:=Nat.or_lt_two_pow hl h2
  rw [ew,u64_or_nat m _ hl h2,← Int.natCast_add,add_is_or m _ e3]
  exact u64_small _ ho
theorem C4.add_same {k : C4} (hk : k.ok) (b : Nat) (hb : b < 256) (h : k.has b = true) : k.add (b : Int) = k:=by
  apply C4.ext_has (C4.add_ok hk b) hk
  intro i hi
  rw [C4.has_add hk b i hb hi]
  by_cases e : b = i
  · subst e; rw [h]; rfl
  · simp [e]
theorem count_any (k : C4) (hk : k.ok) (w : World) :
    Calls Tryz.prog 62 #[k.v] w fun e w' => e = .returned (.int .i64 (cnt k.has 256)) ∧ Below w.heap.size w w':=by
  go_enter Tryz.func62,Tryz.ntmps62
  go_wp2
  go_loopw [3,4] (fun u v wr => ∃ i c : Nat,i ≤ 256 ∧ c ≤ i ∧ Hid (c = cnt k.has i) ∧ v = .int .i64 i ∧ u = .int .i64 c ∧ Below w.heap.size w wr ∧ Hb wr w.heap.size k) (fun _ v _ => 256 - (intOf v).toNat)
  case atStart => exact ⟨0,0,by omega,by omega,Eq.refl _,rfl,rfl,(Below.refl _ _).alloc (Nat.le_refl _) _,Hb.new _ k _ rfl⟩
  case round =>
    obtain ⟨i,c,hi,hc,HC,rfl,rfl,hB,hK⟩:=hrel
    obtain ⟨c0,c1,c2,c3,e0,e1,e2,e3⟩:=hK.all
    by_cases hlt : i < 256
    · have i1 : (i : Int) < 256:=by omega
      go_wp2_with fail
      refine (in_any k hk i hlt _).mono ?_
      rintro e w1 ⟨rfl,hb1⟩
      have hB1:=hB.trans (hb1.mono hB.size)
      have hK1:=hK.below hb1 hK.lt
      cases hn : k.has i
      · have HE : Hid (c = cnt k.has (i + 1)):=by show _ = _; rw [cnt,hn,HC.out]; rfl
        go_wp2
        exact ⟨⟨i + 1,c,by omega,by omega,HE,by go_num,by go_num,hB1,hK1⟩,by simp [intOf]; omega⟩
      · have HE : Hid (c + 1 = cnt k.has (i + 1)):=by show _ = _; rw [cnt,hn,HC.out]; rfl
        go_wp2
        exact ⟨⟨i + 1,c + 1,by omega,by omega,HE,by go_num,by go_num,hB1,hK1⟩,by simp [intOf]; omega⟩
    · have hi2 : i = 256:=by omega
      subst hi2
      go_wp2
      go_ret
      exact ⟨ret_int (by rw [HC.out]),hB⟩
theorem parts_any (op : Int) (w : World) :
    Calls Tryz.prog 64 #[.int .i64 op] w fun e w' => e = .returned (.int .i64 (prt op)) ∧ w' = w:=by
  by_cases h3 : op = 3
  · subst h3
    go_enter Tryz.func64,Tryz.ntmps64
    go_wp2
    go_ret
    exact ⟨rfl,rfl⟩
  · have b3 : (op == 3) = false:=by simp [h3]
    by_cases h4 : op = 4
    · subst h4
      go_enter Tryz.func64,Tryz.ntmps64
      go_wp2
      go_ret
      exact ⟨rfl,rfl⟩
    · have b4 : (op == 4) = false:=by simp [h4]
      by_cases h5 : op = 5
      · subst h5
        go_enter Tryz.func64,Tryz.ntmps64
        go_wp2
        go_ret
        exact ⟨rfl,rfl⟩
      · have b5 : (op == 5) = false:=by simp [h5]
        by_cases h6 : op = 6
        · subst h6
          go_enter Tryz.func64,Tryz.ntmps64
          go_wp2
          go_ret
          exact ⟨rfl,rfl⟩
        · have b6 : (op == 6) = false:=by simp [h6]
          by_cases h7 : op = 7
          · subst h7
            go_enter Tryz.func64,Tryz.ntmps64
            go_wp2
            go_ret
            exact ⟨rfl,rfl⟩
          · have b7 : (op == 7) = false:=by simp [h7]
            have e0 : prt op = 0:=by unfold prt; simp [h3,h4,h5,h6,h7]
            rw [e0]
            clear h3 h4 h5 h6 h7 e0
            go_enter Tryz.func64,Tryz.ntmps64
            go_wp2
            go_ret
            exact ⟨rfl,rfl⟩
theorem endOf_walk (ns : List Nd) (b off cap f i : Nat) (hm : ns.length ≤ maxLen) (w : World) (hN : NsAt w b off ns)
    (ih : ∀ j,ns.length + 1 ≤ f + j → Calls Tryz.prog 42 #[.slice (some ⟨b,off,none⟩) ns.length cap,.int .i64 j] w fun e w' => e = .returned (.int .i64 (endI (endF ns f j))) ∧ w' = w)
    (hf : ns.length + 1 ≤ f + 1 + i) :
    Calls Tryz.prog 42 #[.slice (some ⟨b,off,none⟩) ns.length cap,.int .i64 i] w fun e w' => e = .returned (.int .i64 (endI (endF ns (f + 1) i))) ∧ w' = w:=by
  have IH:=(show Hid _ from ih)
  unfold maxLen at hm
  clear ih
  by_cases hi : i < ns.length
  · obtain ⟨n,hn⟩ : ∃ n,ns[i]? = some n:=⟨ns[i],List.getElem?_eq_getElem hi⟩
    obtain ⟨c0,_⟩:=hN i n hn
    have HF : Hid _:=endF_fin ns f i n hn
    have hp:=prt_le n.op
    have i0 : (0 : Int) ≤ (i : Int):=by omega
    have i1 : (i : Int) < (ns.length : Int):=by omega
    have hd : decide (ns.length ≤ i) = false:=by simp; omega
    clear hn
    go_enter Tryz.func42,Tryz.ntmps42
    go_wp2_with fail
    refine (parts_any _ _).mono ?_
    rintro e w1 ⟨rfl,rfl⟩
    generalize hpr : prt n.op = pr at *
    clear hpr
    go_wp2_with fail
    go_loop [1,5] (fun v u => ∃ (m : Nat) (o : Option Nat),m ≤ 2 ∧ u = .int .i64 m ∧ v = .int .i64 (endI o) ∧ Hid (fin ns f m o = endF ns (f + 1) i) ∧ Hid (∀ j,o = some j → i < j ∧ j ≤ ns.length)) (fun _ u => (intOf u).toNat)
    case atStart => exact ⟨pr,some (i + 1),by omega,rfl,by go_num,HF.out.symm,fun j hj => by simp at hj; omega⟩
    case round =>
      obtain ⟨m,o,hm2,rfl,rfl,HX,HJ⟩:=hrel
      cases m with
      | zero =>
        go_wp2
        go_ret
        exact ⟨by rw [← HX.out]; rfl,rfl⟩
      | succ m =>
        have m0 : (0 : Int) < ((m + 1 : Nat) : Int):=by omega
        cases o with
        | none =>
          simp only [endI]
          go_wp2
          go_ret
          exact ⟨by rw [← HX.out,fin_none]; rfl,rfl⟩
        | some j =>
          have hj:=HJ.out j rfl
          simp only [endI]
          go_wp2_with fail
          refine (IH.out j (by omega)).mono ?_
          rintro e w1 ⟨rfl,rfl⟩
          go_wp2
          refine ⟨⟨m,endF ns f j,by omega,by go_num,rfl,?_,?_⟩,by simp [intOf]⟩
          · rw [← HX.out]; exact (Eq.refl (fin ns f m (endF ns f j)))
          · intro k hk
            have:=endF_gt ns f j k hk
            omega
  · have hd : decide (ns.length ≤ i) = true:=by simp; omega
    have HF : Hid (endF ns (f + 1) i = none):=by
      show _ = _
      rw [endF,List.getElem?_eq_none (by omega)]
    go_enter Tryz.func42,Tryz.ntmps42
    go_wp2
    go_ret
    exact ⟨by rw [HF.out]; rfl,rfl⟩
theorem endOf_out (ns : List Nd) (a : Option Addr) (cap i : Nat) (hm : ns.length ≤ maxLen) (w : World) (hi : ns.length ≤ i) :
    Calls Tryz.prog 42 #[.slice a ns.length cap,.int .i64 i] w fun e w' => e = .returned (.int .i64 (-1)) ∧ w' = w:=by
  unfold maxLen at hm
  have hd : decide (ns.length ≤ i) = true:=by simp; omega
  go_enter Tryz.func42,Tryz.ntmps42
  go_wp2
  go_ret
  exact ⟨rfl,rfl⟩
theorem endOf_at (ns : List Nd) (b off cap : Nat) (hm : ns.length ≤ maxLen) (w : World) (hN : NsAt w b off ns) : ∀ (f i : Nat),ns.length + 1 ≤ f + i →
    Calls Tryz.prog 42 #[.slice (some ⟨b,off,none⟩) ns.length cap,.int .i64 i] w fun e w' => e = .returned (.int .i64 (endI (endF ns f i))) ∧ w' = w:=by
  intro f
  induction f with
  | zero =>
    intro i h
    exact endOf_out ns _ cap i hm w (by omega)
  | succ f ih =>
    intro i h
    exact endOf_walk ns b off cap f i hm w hN ih (by omega)
theorem endOf_any (ns : List Nd) (v : Value) (i : Nat) (w : World) (hN : NsIn w v ns) :
    Calls Tryz.prog 42 #[v,.int .i64 i] w fun e w' => e = .returned (.int .i64 (endI (endE ns i))) ∧ w' = w:=by
  obtain ⟨a,cap,rfl,hm,h | ⟨b,off,rfl,hlt,hn⟩⟩:=hN
  · subst h
    rw [endE_nil]
    exact endOf_out [] a cap i hm w (by simp)
  · exact endOf_at ns b off cap hm w hn (ns.length + 1) i (by omega)
theorem cnt_filter (p : Nat → Bool) : ∀ n,cnt p n = ((List.range n).filter p).length
  | 0 => rfl
  | n + 1 => by
    rw [cnt,cnt_filter p n,List.range_succ,List.filter_append,List.length_append]
    cases h : p n <;> simp [h]
theorem only_none {k : C4} (h : ¬ cnt k.has 256 = 1) : k.only = none:=by
  unfold C4.only
  rw [if_neg (by rw [← cnt_filter]; exact h)]
theorem only_one {k : C4} (h : cnt k.has 256 = 1) {b : Nat} (hb : b < 256) (hh : k.has b = true) : k.only = some (UInt8.ofNat b):=by
  unfold C4.only
  rw [cnt_filter] at h
  rw [if_pos h]
  obtain ⟨x,hx⟩ : ∃ x,(List.range 256).filter k.has = [x]:=List.length_eq_one_iff.1 h
  have : b ∈ (List.range 256).filter k.has:=by rw [List.mem_filter,List.mem_range]; exact ⟨hb,hh⟩
  rw [hx,List.mem_singleton] at this
  rw [hx,this]
  rfl
theorem cnt_ex {p : Nat → Bool} (h : cnt p 256 = 1) : ∃ b,b < 256 ∧ p b = true:=by
  rw [cnt_filter] at h
  obtain ⟨x,hx⟩ : ∃ x,(List.range 256).filter p = [x]:=List.length_eq_one_iff.1 h
  have : x ∈ (List.range 256).filter p:=by rw [hx]; simp
  rw [List.mem_filter,List.mem_range] at this
  exact ⟨x,this⟩
theorem convL_byte (n : Nat) (w : World) : (convert 147 9 (.slice (some ⟨w.heap.size,0,none⟩) 1 1)).run Tryz.prog (w.alloc (.cells #[.int .u8 (n : Int)] 5)) = .ok (.string ⟨#[UInt8.ofNat n]⟩) (w.alloc (.cells #[.int .u8 (n : Int)] 5)):=by
  have h:=run_convert_bytes_arg (P:=Tryz.prog) (w.alloc (.cells #[.int .u8 (n : Int)] 5)) 147 5 Tryz.underlying147 Tryz.underlying5 w.heap.size 0 1 1 [(n : Int)] rfl (by
    intro i hi
    have : i = 0:=by omega
    subst this
    simp) 9 Tryz.underlying9
  rw [h]
  rfl
def whV (t : Rx) : Value:=.tuple #[.string ⟨(t.whl.getD []).toArray⟩,.bool t.whl.isSome]
def WhOk (ns : List Nd) (b off cap : Nat) (t : Rx) (i : Nat) : Prop:=∀ w : World,b < w.heap.size → NsAt w b off ns →
  Calls Tryz.prog 41 #[.slice (some ⟨b,off,none⟩) ns.length cap,.int .i64 (i : Int)] w fun e w' => e = .returned (whV t) ∧ Below w.heap.size w w'
theorem wh_leaf (ns : List Nd) (hl : ns.length ≤ 60) (b off cap i : Nat) (n : Nd) (hn : ns[i]? = some n) (hi : i < ns.length) (hok : n.c.ok) (hop : n.op = 1 ∨ n.op = 2 ∨ n.op = 8 ∨ n.op = 9) : WhOk ns b off cap (.leaf n) i:=by
  intro w hlt hN
  obtain ⟨c0,c1,c2,c3,c4⟩:=hN i n hn
  have i0 : (0 : Int) ≤ (i : Int):=by omega
  have i1 : (i : Int) < (ns.length : Int):=by omega
  rcases hop with hop | hop | hop | hop
  · rw [hop] at c0
    have HCN:=hid (count_any n.c hok w)
    by_cases h1 : cnt n.c.has 256 = 1
    case neg =>
      have HV : Hid (whV (.leaf n) = .tuple #[.string ⟨#[]⟩,.bool false]):=by show _ = _; simp [whV,Rx.whl,hop,only_none h1]
      have g1 : (((cnt n.c.has 256 : Nat) : Int) != 1) = true:=by rw [bne_iff_ne]; omega
      rw [HV.out]
      clear hN h1
      go_enter Tryz.func41,Tryz.ntmps41
      go_wp2_with fail
      refine Calls.mono HCN.out ?_
      rintro e w1 ⟨rfl,hb⟩
      have B:=hid hb
      go_wp2
      go_ret2
      exact ⟨rfl,B.out⟩
    have g1 : (((cnt n.c.has 256 : Nat) : Int) != 1) = false:=by rw [h1]; rfl
    have HN:=hid hN
    have HN0:=hid hn
    have HC1:=hid h1
    have HIN : Hid (∀ (x : Nat) (w' : World),x < 256 → _):=fun x w' hx => in_any n.c hok x hx w'
    obtain ⟨y,hy,hyh⟩:=cnt_ex h1
    clear hN h1 hn
    go_enter Tryz.func41,Tryz.ntmps41
    go_wp2_with fail
    refine Calls.mono HCN.out ?_
    rintro e w1 ⟨rfl,hb⟩
    have B:=hid hb
    clear hb HCN c0 c1 c2 c3 c4
    go_wp2_with fail
    go_loopg [6] (y + 1) (fun k v wz => ∃ x : Nat,v = .int .i64 (x : Int) ∧ x ≤ y ∧ k = y + 1 - x ∧ Hid (Below w.heap.size w wz))
    case atStart => exact ⟨0,rfl,by omega,rfl,B⟩
    case round =>
      clear B
      obtain ⟨x,rfl,hx,hgk,B⟩:=hrel
      obtain ⟨c0,c1,c2,c3,c4⟩:=(HN.out.below B.out hlt) i n HN0.out
      have HI:=hid (HIN.out x wr (by omega))
      cases hh : n.c.has x
      · rw [hh] at HI
        have hne : x ≠ y:=by intro e; rw [e,hyh] at hh; cases hh
        clear hh
        go_wp2_with fail
        refine Calls.mono HI.out ?_
        rintro e w2 ⟨rfl,hb⟩
        replace B:=hid (B.out.trans (hb.mono B.out.size))
        clear hb
        go_wp2
        go_roundg (y + 1 - (x + 1))
        case measure => omega
        case rel => exact ⟨x + 1,by go_num,by omega,rfl,B⟩
      · rw [hh] at HI
        have HV : Hid (whV (.leaf n) = .tuple #[.string ⟨#[UInt8.ofNat x]⟩,.bool true]):=by show _ = _; simp [whV,Rx.whl,hop,only_one HC1.out (by omega) hh]
        clear hh
        go_wp2_with fail
        refine Calls.mono HI.out ?_
        rintro e w2 ⟨rfl,hb⟩
        replace B:=hid (B.out.trans (hb.mono B.out.size))
        have hcv:=convL_byte x w2
        have hx8 : IntKind.u8.wrap (x : Int) = (x : Int):=by
          have e : IntKind.u8.wrap (x : Int) = (x : Int) % 256:=rfl
          rw [e]
          omega
        have HB2 : Hid (∀ o,Below w.heap.size w (w2.alloc o)):=fun o => B.out.alloc B.out.size o
        clear hb
        go_wp2
        go_ret2
        exact ⟨by rw [HV.out]; rfl,HB2.out _⟩
  · have HV : Hid (whV (.leaf n) = .tuple #[.string ⟨#[]⟩,.bool true]):=by show _ = _; simp [whV,Rx.whl,hop]
    rw [hop] at c0
    rw [HV.out]
    clear hN
    go_enter Tryz.func41,Tryz.ntmps41
    go_wp2
    go_ret2
    exact ⟨rfl,Below.refl _ _⟩
  · have HV : Hid (whV (.leaf n) = .tuple #[.string ⟨#[]⟩,.bool false]):=by show _ = _; simp [whV,Rx.whl,hop]
    rw [hop] at c0
    rw [HV.out]
    clear hN
    go_enter Tryz.func41,Tryz.ntmps41
    go_wp2
    go_ret2
    exact ⟨rfl,Below.refl _ _⟩
  · have HV : Hid (whV (.leaf n) = .tuple #[.string ⟨#[]⟩,.bool false]):=by show _ = _; simp [whV,Rx.whl,hop]
    rw [hop] at c0
    rw [HV.out]
    clear hN
    go_enter Tryz.func41,Tryz.ntmps41
    go_wp2
    go_ret2
    exact ⟨rfl,Below.refl _ _⟩
theorem whl_len : ∀ (t : Rx) (x : List UInt8),t.whl = some x → x.length ≤ t.flat.length
  | .leaf n,x,h => by
    simp only [Rx.whl] at h
    split at h
    · cases hc : n.c.only with
      | none => rw [hc] at h; cases h
      | some c => rw [hc] at h; simp at h; subst h; simp [Rx.flat]
    · split at h
      · simp at h; subst h; simp
      · cases h
  | .one n a,x,h => by simp [Rx.whl] at h
  | .two n a b,x,h => by
    simp only [Rx.whl] at h
    split at h
    · cases ha : a.whl with
      | none => rw [ha] at h; cases h
      | some xa =>
        cases hb : b.whl with
        | none => rw [ha,hb] at h; cases h
        | some xb =>
          rw [ha,hb] at h
          simp at h
          subst h
          have h1:=whl_len a xa ha
          have h2:=whl_len b xb hb
          simp [Rx.flat]
          omega
    · cases h
theorem wh_none (ns : List Nd) (hl : ns.length ≤ 60) (b off cap i : Nat) (n : Nd) (t : Rx) (ht : t.whl = none) (hn : ns[i]? = some n) (hi : i < ns.length) (hop : n.op = 4 ∨ n.op = 5 ∨ n.op = 6 ∨ n.op = 7) : WhOk ns b off cap t i:=by
  intro w hlt hN
  obtain ⟨c0,c1,c2,c3,c4⟩:=hN i n hn
  have i0 : (0 : Int) ≤ (i : Int):=by omega
  have i1 : (i : Int) < (ns.length : Int):=by omega
  have HV : Hid (whV t = .tuple #[.string ⟨#[]⟩,.bool false]):=by show _ = _; simp [whV,ht]
  have g1 : (n.op == 1) = false:=by rw [beq_eq_false_iff_ne]; omega
  have g2 : (n.op == 2) = false:=by rw [beq_eq_false_iff_ne]; omega
  have g3 : (n.op == 3) = false:=by rw [beq_eq_false_iff_ne]; omega
  rw [HV.out]
  clear hN hop
  go_enter Tryz.func41,Tryz.ntmps41
  go_wp2
  go_ret2
  exact ⟨rfl,Below.refl _ _⟩
theorem wh_cat (ns : List Nd) (hl : ns.length ≤ 60) (b off cap i : Nat) (n : Nd) (x y : Rx) (hn : ns[i]? = some n) (hi : i < ns.length) (hop : n.op = 3) (he : endE ns (i + 1) = some (i + 1 + x.flat.length)) (hxl : x.flat.length ≤ 60) (hyl : y.flat.length ≤ 60) (hX : WhOk ns b off cap x (i + 1)) (hY : WhOk ns b off cap y (i + 1 + x.flat.length)) : WhOk ns b off cap (.two n x y) i:=by
  intro w hlt hN
  obtain ⟨c0,c1,c2,c3,c4⟩:=hN i n hn
  have i0 : (0 : Int) ≤ (i : Int):=by omega
  have i1 : (i : Int) < (ns.length : Int):=by omega
  have hk : Hid ((i : Int) + 1 = ((i + 1 : Nat) : Int)):=by show _ = _; omega
  rw [hop] at c0
  have HX:=hid (hX w hlt hN)
  have HEN : Hid (∀ w',Below w.heap.size w w' → _):=fun w' hb => endOf_any ns (.slice (some ⟨b,off,none⟩) ns.length cap) (i + 1) w' ⟨_,_,rfl,by unfold maxLen; omega,Or.inr ⟨b,off,rfl,Nat.lt_of_lt_of_le hlt hb.size,hN.below hb hlt⟩⟩
  rw [he,show endI (some (i + 1 + x.flat.length)) = ((i + 1 + x.flat.length : Nat) : Int) from rfl] at HEN
  have HY : Hid (∀ w',Below w.heap.size w w' → _):=fun w' hb => hY w' (Nat.lt_of_lt_of_le hlt hb.size) (hN.below hb hlt)
  have HVV : Hid (whV (.two n x y) = match x.whl,y.whl with | some p,some q => .tuple #[.string ⟨(p ++ q).toArray⟩,.bool true] | _,_ => .tuple #[.string ⟨#[]⟩,.bool false]):=by
    show _ = _
    simp only [whV,Rx.whl,if_pos hop]
    cases x.whl <;> cases y.whl <;> rfl
  have hwx:=whl_len x
  have hwy:=whl_len y
  clear hN hop he hX hY
  unfold whV at HX HY
  cases hx : x.whl with
  | none =>
    rw [hx] at HX HVV
    rw [HVV.out]
    cases hy : y.whl with
    | none =>
      rw [hy] at HY
      clear hwx hwy
      simp only [Option.getD_none,Option.getD_some,Option.isSome_none,Option.isSome_some] at HX HY
      go_enter Tryz.func41,Tryz.ntmps41
      go_wp2_with fail
      rw [hk.out]
      refine Calls.mono HX.out ?_
      rintro e w1 ⟨rfl,hb⟩
      have B:=hid hb
      clear hb
      go_wp2_with fail
      rw [hk.out]
      refine Calls.mono (HEN.out _ B.out) ?_
      rintro e w2 ⟨rfl,rfl⟩
      go_wp2_with fail
      refine Calls.mono (HY.out _ B.out) ?_
      rintro e w3 ⟨rfl,hb⟩
      replace B:=hid (B.out.trans (hb.mono B.out.size))
      clear hb
      go_wp2
      go_ret2
      exact ⟨rfl,B.out⟩
    | some q =>
      rw [hy] at HY
      clear hwx hwy
      simp only [Option.getD_none,Option.getD_some,Option.isSome_none,Option.isSome_some] at HX HY
      go_enter Tryz.func41,Tryz.ntmps41
      go_wp2_with fail
      rw [hk.out]
      refine Calls.mono HX.out ?_
      rintro e w1 ⟨rfl,hb⟩
      have B:=hid hb
      clear hb
      go_wp2_with fail
      rw [hk.out]
      refine Calls.mono (HEN.out _ B.out) ?_
      rintro e w2 ⟨rfl,rfl⟩
      go_wp2_with fail
      refine Calls.mono (HY.out _ B.out) ?_
      rintro e w3 ⟨rfl,hb⟩
      replace B:=hid (B.out.trans (hb.mono B.out.size))
      clear hb
      go_wp2
      go_ret2
      exact ⟨rfl,B.out⟩
  | some p =>
    rw [hx] at HX HVV
    have hpl:=hwx p hx
    cases hy : y.whl with
    | none =>
      rw [hy] at HY HVV
      rw [HVV.out]
      clear hwx hwy
      simp only [Option.getD_none,Option.getD_some,Option.isSome_none,Option.isSome_some] at HX HY
      go_enter Tryz.func41,Tryz.ntmps41
      go_wp2_with fail
      rw [hk.out]
      refine Calls.mono HX.out ?_
      rintro e w1 ⟨rfl,hb⟩
      have B:=hid hb
      clear hb
      go_wp2_with fail
      rw [hk.out]
      refine Calls.mono (HEN.out _ B.out) ?_
      rintro e w2 ⟨rfl,rfl⟩
      go_wp2_with fail
      refine Calls.mono (HY.out _ B.out) ?_
      rintro e w3 ⟨rfl,hb⟩
      replace B:=hid (B.out.trans (hb.mono B.out.size))
      clear hb
      go_wp2
      go_ret2
      exact ⟨rfl,B.out⟩
    | some q =>
      rw [hy] at HY HVV
      have hql:=hwy q hy
      have HV2 : Hid (whV (.two n x y) = .tuple #[.string ((⟨p.toArray⟩ : ByteArray) ++ ⟨q.toArray⟩),.bool true]):=by show _ = _; rw [HVV.out,cat_str]
      rw [HV2.out]
      have l1 : (⟨p.toArray⟩ : ByteArray).size ≤ 60:=by rw [size_str]; omega
      have l2 : (⟨q.toArray⟩ : ByteArray).size ≤ 60:=by rw [size_str]; omega
      clear hwx hwy
      simp only [Option.getD_none,Option.getD_some,Option.isSome_none,Option.isSome_some] at HX HY
      go_enter Tryz.func41,Tryz.ntmps41
      go_wp2_with fail
      rw [hk.out]
      refine Calls.mono HX.out ?_
      rintro e w1 ⟨rfl,hb⟩
      have B:=hid hb
      clear hb
      go_wp2_with fail
      rw [hk.out]
      refine Calls.mono (HEN.out _ B.out) ?_
      rintro e w2 ⟨rfl,rfl⟩
      go_wp2_with fail
      refine Calls.mono (HY.out _ B.out) ?_
      rintro e w3 ⟨rfl,hb⟩
      replace B:=hid (B.out.trans (hb.mono B.out.size))
      clear hb
      go_wp2
      go_ret2
      exact ⟨rfl,B.out⟩
theorem end_at (p q : List Nd) (n : Nd) (x y : Rx) (hx : x.Ok) (e : List Nd) (he : e = p ++ (Rx.two n x y).flat ++ q) : endE e (p.length + 1) = some (p.length + 1 + x.flat.length):=by
  have e1 : e = (p ++ [n]) ++ x.flat ++ (y.flat ++ q):=by rw [he]; simp [Rx.flat]
  have h:=endF_flat x hx (p ++ [n]) (y.flat ++ q) (e.length + 1) (by rw [e1]; simp; omega)
  rw [← e1] at h
  unfold endE
  simpa using h
theorem wh_tree (b off cap : Nat) : ∀ (t : Rx),t.Ok → ∀ (p q : List Nd),(∀ n ∈ t.flat,(1 ≤ n.op ∧ n.op ≤ 9) ∧ n.c.ok) → (p ++ t.flat ++ q).length ≤ 60 → WhOk (p ++ t.flat ++ q) b off cap t p.length
  | .leaf n,h,p,q,ho,hl => by
    have h1:=ho n (by simp [Rx.flat])
    refine wh_leaf _ hl b off cap p.length n (by simp [Rx.flat]) (by simp [Rx.flat]) h1.2 ?_
    have h0 : prt n.op = 0:=h
    have h2 : ¬ prt n.op = 2:=by omega
    have h3 : ¬ prt n.op = 1:=by omega
    rw [prt_two] at h2
    rw [prt_one] at h3
    omega
  | .one n a,h,p,q,ho,hl => by
    have hop:=(prt_one n.op).1 h.1
    exact wh_none _ hl b off cap p.length n _ rfl (by simp [Rx.flat]) (by simp [Rx.flat]) (by omega)
  | .two n x y,h,p,q,ho,hl => by
    have e1 : p ++ (Rx.two n x y).flat ++ q = (p ++ [n]) ++ x.flat ++ (y.flat ++ q):=by simp [Rx.flat]
    have e2 : p ++ (Rx.two n x y).flat ++ q = (p ++ [n] ++ x.flat) ++ y.flat ++ q:=by simp [Rx.flat]
    rcases (prt_two n.op).1 h.1 with hop | hop
    · have ih1:=wh_tree b off cap x h.2.1 (p ++ [n]) (y.flat ++ q) (fun m hm => ho m (by simp [Rx.flat,hm])) (by rw [← e1]; exact hl)
      have ih2:=wh_tree b off cap y h.2.2 (p ++ [n] ++ x.flat) q (fun m hm => ho m (by simp [Rx.flat,hm])) (by rw [← e2]; exact hl)
      rw [← e1,show (p ++ [n]).length = p.length + 1 from by simp] at ih1
      rw [← e2,show (p ++ [n] ++ x.flat).length = p.length + 1 + x.flat.length from by simp; omega] at ih2
      have hb : x.flat.length ≤ 60 ∧ y.flat.length ≤ 60:=by
        rw [e1] at hl
        simp at hl
        omega
      exact wh_cat _ hl b off cap p.length n x y (by simp [Rx.flat]) (by simp [Rx.flat]) hop (end_at p q n x y h.2.1 _ rfl) hb.1 hb.2 ih1 ih2
    · exact wh_none _ hl b off cap p.length n _ (by simp [Rx.whl,hop]) (by simp [Rx.flat]) (by simp [Rx.flat]) (by omega)
def muV (x : List UInt8) (b : Bool) : Value:=.agg #[.string ⟨x.toArray⟩,.bool b]
def Rx.muV (t : Rx) : Value:=Go.Proofs.YtcjghhedphmhkaaGreatDoor.muV t.ned t.whl.isSome
def C4.muV (k : C4) : Value:=Go.Proofs.YtcjghhedphmhkaaGreatDoor.muV ((k.only.map fun c => [c]).getD []) (k.only.map fun c => [c]).isSome
theorem ofL1_has (b : Nat) (hb : b < 256) (i : Nat) (hi : i < 256) : (C4.ofL [UInt8.ofNat b]).has i = decide (i = b):=by
  rw [ofL_has _ _ hi]
  congr 1
  apply propext
  have e : (UInt8.ofNat b).toNat = b:=by simp; omega
  simp [e,eq_comm]
theorem only_ofL (b : Nat) (hb : b < 256) : (C4.ofL [UInt8.ofNat b]).only = some (UInt8.ofNat b):=by
  have h1 : cnt (C4.ofL [UInt8.ofNat b]).has 256 = 1:=by
    rw [cnt_filter]
    have : (List.range 256).filter (C4.ofL [UInt8.ofNat b]).has = (List.range 256).filter (fun i => decide (i = b)):=by
      apply List.filter_congr
      intro x hx
      exact ofL1_has b hb x (List.mem_range.1 hx)
    rw [this,← List.countP_eq_length_filter]
    have : List.countP (fun i => decide (i = b)) (List.range 256) = List.count b (List.range 256):=by
      unfold List.count
      congr 1
    rw [this,List.nodup_range.count,if_pos (List.mem_range.2 hb)]
  exact only_one h1 hb (by rw [ofL1_has b hb b hb]; simp)
theorem ofL_only {k : C4} (hk : k.ok) {c : UInt8} (h : k.only = some c) : k = C4.ofL [c]:=by
  refine C4.ext_has hk (ofL_ok _) (fun i hi => ?_)
  rw [ofL_has _ _ hi]
  have:=only_has h (UInt8.ofNat i)
  have e : (UInt8.ofNat i).toNat = i:=by simp; omega
  rw [e] at this
  rw [Bool.eq_iff_iff,this]
  constructor
  · intro h2; subst h2; simp; omega
  · intro h2
    simp at h2
    rw [← h2]; simp
theorem muV_none {k : C4} (h : k.only = none) : k.muV = .agg #[.string ⟨#[]⟩,.bool false]:=by unfold C4.muV; rw [h]; rfl
theorem muV_some {k : C4} {c : UInt8} (h : k.only = some c) : k.muV = .agg #[.string ⟨#[c]⟩,.bool true]:=by unfold C4.muV; rw [h]; rfl
theorem eqb_iff {x y : C4} : x.eqb y = true ↔ x = y:=by
  obtain ⟨a,b,c,d⟩:=x
  obtain ⟨a',b',c',d'⟩:=y
  simp [C4.eqb,and_assoc]
def Hmu (w : World) (b : Nat) (s : ByteArray) (f : Bool) : Prop:=w.heap[b]? = some (.cells #[.string s,.bool f] 131 (0,0))
theorem Hmu.all {w : World} {b : Nat} {s : ByteArray} {f : Bool} (h : Hmu w b s f) : w.cell? ⟨b,0,none⟩ = some (.string s) ∧ w.cell? ⟨b,1,none⟩ = some (.bool f) ∧ w.frozen? ⟨b,0,none⟩ = false ∧ w.frozen? ⟨b,1,none⟩ = false:=by
  refine ⟨?_,?_,Lib.frozen_of_heap h 0,Lib.frozen_of_heap h 1⟩
  · rw [Lib.cell_of_heap h]; rfl
  · rw [Lib.cell_of_heap h]; rfl
theorem Hmu.lt {w : World} {b : Nat} {s : ByteArray} {f : Bool} (h : Hmu w b s f) : b < w.heap.size:=by
  rcases Nat.lt_or_ge b w.heap.size with h' | h'
  · exact h'
  · simp [Hmu,Array.getElem?_eq_none h'] at h
theorem Hmu.below {w w' : World} {B b : Nat} {s : ByteArray} {f : Bool} (h : Hmu w b s f) (hb : Below B w w') (hlt : b < B) : Hmu w' b s f:=(hb.block b hlt).trans h
theorem Hmu.alloc {w : World} {b : Nat} {s : ByteArray} {f : Bool} (h : Hmu w b s f) (o : Obj) : Hmu (w.alloc o) b s f:=(Below.heap_alloc w o b h.lt).trans h
theorem Hmu.new (w : World) (s : ByteArray) (f : Bool) (b : Nat) (hb : b = w.heap.size) : Hmu (w.alloc (.cells #[.string s,.bool f] 131)) b s f:=by subst hb; exact heap_alloc_new w _
theorem Hmu.other {w : World} {b : Nat} {s : ByteArray} {f : Bool} (h : Hmu w b s f) (p : Addr) (v : Value) (hp : b ≠ p.block) : Hmu (w.setCell p v) b s f:=(Below.heap_setCell w p v b hp).trans h
theorem Hmu.put {w : World} {b : Nat} {s : ByteArray} {f : Bool} (h : Hmu w b s f) (s' : ByteArray) (f' : Bool) : Hmu ((w.setCell ⟨b,0,none⟩ (.string s')).setCell ⟨b,1,none⟩ (.bool f')) b s' f':=by
  unfold Hmu at h ⊢
  simp [World.setCell,Array.getElem?_modify,h]
theorem below_putM {w0 w : World} {B b : Nat} (h : Below B w0 w) (hb : B ≤ b) (v v' : Value) : Below B w0 ((w.setCell ⟨b,0,none⟩ v).setCell ⟨b,1,none⟩ v'):=(h.setCell hb _).setCell hb _
theorem ofByte_any (k : C4) (hk : k.ok) (w : World) : Calls Tryz.prog 84 #[k.v] w fun e w' => e = .returned k.muV ∧ Below w.heap.size w w':=by
  have he:=eq4
  have HOF : Hid (∀ (x : Nat) (w' : World),Calls Tryz.prog 110 #[.string ⟨#[UInt8.ofNat x]⟩] w' fun e w'' => e = .returned (C4.ofL [UInt8.ofNat x]).v ∧ Below w'.heap.size w' w''):=fun x w' => of_any ⟨#[UInt8.ofNat x]⟩ w' (by show 1 ≤ maxLen; decide)
  go_enter Tryz.func84,Tryz.ntmps84
  go_wp2
  go_loopw [5] (fun i wr => ∃ n : Nat,n ≤ 256 ∧ i = .int .i64 n ∧ Hid (∀ y,y < n → k ≠ C4.ofL [UInt8.ofNat y]) ∧ Hid (Below w.heap.size w wr) ∧ Hb wr w.heap.size k ∧ Hmu wr (w.heap.size + 1) ⟨#[]⟩ false) (fun i _ => 256 - (intOf i).toNat)
  case atStart =>
    exact ⟨0,by omega,rfl,fun y hy => by omega,((Below.refl _ _).alloc (Nat.le_refl _) _).alloc (by simp) _,(Hb.new _ k _ rfl).alloc _,Hmu.new _ _ _ _ (by simp)⟩
  case round =>
    obtain ⟨n,hn,rfl,HU,HB,hK,hM⟩:=hrel
    by_cases hlt : n < 256
    · have i0 : (n : Int) < 256:=by omega
      have hcv:=convL_byte n wr
      have hx8 : IntKind.u8.wrap (n : Int) = (n : Int):=by
        have e : IntKind.u8.wrap (n : Int) = (n : Int) % 256:=rfl
        rw [e]
        omega
      go_wp2_with fail
      have hK1:=hK.alloc (.cells #[.int .u8 (n : Int)] 5)
      obtain ⟨a0,a1,a2,a3⟩:=hK1.cr
      refine wp_region_quiet_below (by kernel_rfl) (by kernel_rfl) ?_
      repeat (go_big_quiet_step (first
        | (go_at_call 110; exact Calls.regrown_of (HOF.out _ _))))
      refine wpQuiet_nil ?_
      intro _ hw'
      obtain ⟨⟨dq,osq⟩,hw''⟩:=hw'
      have hb4:=below_regrown (wr.alloc (.cells #[.int .u8 (n : Int)] 5)) dq osq
      have g4:=hid ((HB.out.alloc HB.out.size (.cells #[.int .u8 (n : Int)] 5)).trans (hb4.mono (by have:=HB.out.size; simp; omega)))
      have hK4:=hK1.below hb4 hK1.lt
      have hM4 : Hmu _ _ _ _:=Hmu.below (show Hmu (wr.alloc (.cells #[.int .u8 (n : Int)] 5)) (w.heap.size + 1) ⟨#[]⟩ false from (Below.heap_alloc wr _ _ hM.lt).trans hM) hb4 (by simp; have:=hM.lt; omega)
      subst hw''
      clear a0 a1 a2 a3
      generalize hgw : Go.Sort.grow (redrawn (wr.alloc (.cells #[.int .u8 (n : Int)] 5)) dq) osq = w4 at *
      clear hgw hb4 hK1
      obtain ⟨m0,m1,z0,z1⟩:=hM4.all
      clear hM hK
      cases hq : k.eqb (C4.ofL [UInt8.ofNat n])
      · have HU2 : Hid (∀ y,y < n + 1 → k ≠ C4.ofL [UInt8.ofNat y]):=by
          intro y hy
          by_cases hyn : y = n
          · subst hyn
            intro h
            rw [← eqb_iff] at h
            rw [hq] at h
            cases h
          · exact HU.out y (by omega)
        clear hq
        go_wp2
        exact ⟨⟨n + 1,by omega,by go_num,HU2,g4,hK4,hM4⟩,by simp [intOf]; omega⟩
      · have e:=eqb_iff.1 hq
        have HV : Hid (k.muV = .agg #[.string ⟨#[UInt8.ofNat n]⟩,.bool true]):=by
          show _ = _
          rw [muV_some (by rw [e]; exact only_ofL n hlt)]
        clear hq e
        go_wp2
        have hp:=(hM4.put ⟨#[UInt8.ofNat n]⟩ true).all
        refine bodyPost_ret (v:=.agg #[.string ⟨#[UInt8.ofNat n]⟩,.bool true]) (by simp [results,Tryz.results84,go_sem,hp.1,hp.2.1]) rfl ⟨by rw [HV.out],?_⟩
        exact below_putM g4.out (by omega) _ _
    · have hk4 : n = 256:=by omega
      subst hk4
      obtain ⟨m0,m1,z0,z1⟩:=hM.all
      have HV : Hid (k.muV = .agg #[.string ⟨#[]⟩,.bool false]):=by
        show _ = _
        rw [muV_none ?_]
        cases ho : k.only with
        | none => rfl
        | some c => exact absurd (by rw [show UInt8.ofNat c.toNat = c from by simp]; exact ofL_only hk ho) (HU.out c.toNat c.toNat_lt)
      go_wp2
      have hp:=(hM.put ⟨#[]⟩ false).all
      refine bodyPost_ret (v:=.agg #[.string ⟨#[]⟩,.bool false]) (by simp [results,Tryz.results84,go_sem,hp.1,hp.2.1]) rfl ⟨by rw [HV.out],?_⟩
      exact below_putM HB.out (by omega) _ _
end Go.Proofs.YtcjghhedphmhkaaGreatDoor
