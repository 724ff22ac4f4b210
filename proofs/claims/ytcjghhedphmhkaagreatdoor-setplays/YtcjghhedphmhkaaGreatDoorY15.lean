/- Own texts. -/
import Derived.Test.YtcjghhedphmhkaaGreatDoorY14
set_option linter.unusedSimpArgs false
set_option linter.unusedVariables false
set_option maxRecDepth 100000
set_option maxHeartbeats 8000000
namespace Go.Proofs.YtcjghhedphmhkaaGreatDoor
open Go.RowKit
theorem sg_start {w : World} {g : Nat} {s : ByteArray} {W : World} {m : List UInt8} (hgr : w.grownBy W (some g)) (hA : At W g s m) (n : Nd) (hl : m.length ≤ 1000) (b : Nat) (hb : b = W.heap.size) : SgInv w g s (posts (.leaf n) m) (.slice (some ⟨b,0,none⟩) 1 1) (W.alloc (ndOb n.op n.c)) (.leaf n) m:=by
  subst hb
  exact ⟨hgr.trans (World.grownBy_alloc _ _ _),(own_one W n).down hgr.size,hA.below (below_one _ _),rfl,by simp [Rx.flat]; omega⟩
theorem At.len {w : World} {g : Nat} {s : ByteArray} {l : List UInt8} (h : At w g s l) : l.length ≤ s.size:=by
  obtain ⟨a,h1,_⟩:=h
  omega
theorem atom_end (g : Nat) (s : ByteArray) (l : List UInt8) (hs : s.size ≤ 1000) (hh : l.head? = some 36) : AtomOkC g s l (posts (.leaf ⟨9,z4⟩) l.tail):=by
  intro w hA
  have hgl:=hA.lt
  have HL : Hid (l.length ≤ 1000):=by
    show _ ≤ _
    obtain ⟨a,h1,_⟩:=hA
    omega
  have C1 : Hid (∀ w,At w g s l → _):=fun w h => sees_at g s l 40 40 rfl hs w h
  have C2 : Hid (∀ w,At w g s l → _):=fun w h => sees_at g s l 91 91 rfl hs w h
  have C3 : Hid (∀ w,At w g s l → _):=fun w h => sees_at g s l 46 46 rfl hs w h
  have C4 : Hid (∀ w,At w g s l → _):=fun w h => sees_at g s l 94 94 rfl hs w h
  have C5 : Hid (∀ w,At w g s l → _):=fun w h => sees_at g s l 36 36 rfl hs w h
  rw [hh] at C1 C2 C3 C4 C5
  go_enter Tryz.func54,Tryz.ntmps54
  go_wp2_with fail
  refine Calls.mono (C1.out _ hA) ?_
  rintro e w1 ⟨rfl,hb1⟩
  have hA1:=hA.below hb1
  go_wp2_with fail
  refine Calls.mono (C2.out _ hA1) ?_
  rintro e w2 ⟨rfl,hb2⟩
  have hA2:=hA1.below hb2
  go_wp2_with fail
  refine Calls.mono (C3.out _ hA2) ?_
  rintro e w3 ⟨rfl,hb3⟩
  have hA3:=hA2.below hb3
  go_wp2_with fail
  refine Calls.mono (C4.out _ hA3) ?_
  rintro e w4 ⟨rfl,hb4⟩
  have hA4:=hA3.below hb4
  go_wp2_with fail
  refine Calls.mono (C5.out _ hA4) ?_
  rintro e w5 ⟨rfl,hb5⟩
  have hA5:=hA4.below hb5
  have hGk : w.grownBy w5 (some g):=(((((below_grown hb1 _).trans (below_grown hb2 _)).trans (below_grown hb3 _)).trans (below_grown hb4 _)).trans (below_grown hb5 _))
  obtain ⟨el,hll⟩:=tail_len l _ hh
  rw [el] at hA5
  obtain ⟨a,hR,ha,hA9⟩:=hA5.step
  obtain ⟨c0,c1,c2,f1,f2⟩:=hR.all
  clear hA1 hA2 hA3 hA4 hA5 hb1 hb2 hb3 hb4 hb5 C1 C2 C3 C4 C5
  go_wp2_with fail
  have HI : Hid (SgInv w g s (posts (.leaf ⟨9,z4⟩) l.tail) (.slice (some ⟨w5.heap.size,0,none⟩) 1 1) ((w5.setCell ⟨g,1,none⟩ (.int .i64 ((a : Int) + 1))).alloc (ndOb 9 z4)) (.leaf ⟨9,z4⟩) l.tail):=sg_first hGk hA9 ⟨9,z4⟩ (by have:=HL.out; omega)
  go_loopw [3] (fun u wr => ∃ t m,Hid (SgInv w g s (posts (.leaf ⟨9,z4⟩) l.tail) u wr t m)) (fun _ wr => rdMeas wr g s.size)
  case atStart => exact ⟨_,_,HI⟩
  case round =>
    obtain ⟨t,m,HV⟩:=hrel
    clear HI c0 c1 c2 f1 f2
    have MS : Hid (rdMeas wr g s.size = m.length + 1):=HV.out.at_.meas
    obtain ⟨a1,ha1,hd1,hR1⟩:=HV.out.at_
    obtain ⟨c0,c1,c2,f1,f2⟩:=hR1.all
    clear hd1 hR1
    have D1 : Hid (∀ w,At w g s m → _):=fun w h => sees_at g s m 42 42 rfl hs w h
    have D2 : Hid (∀ w,At w g s m → _):=fun w h => sees_at g s m 43 43 rfl hs w h
    have D3 : Hid (∀ w,At w g s m → _):=fun w h => sees_at g s m 63 63 rfl hs w h
    by_cases m42 : m.head? = some 42
    · rw [decide_eq_true m42] at D1
      rw [m42,show decide (some (42 : UInt8) = some 43) = false from rfl] at D2
      rw [m42,show decide (some (42 : UInt8) = some 63) = false from rfl] at D3
      go_wp2_with fail
      refine Calls.mono (D1.out _ HV.out.at_) ?_
      rintro e x1 ⟨rfl,hx1⟩
      have V1 : Hid _:=HV.out.below hx1
      clear hx1
      go_wp2_with fail
      refine Calls.mono (D2.out _ V1.out.at_) ?_
      rintro e x2 ⟨rfl,hx2⟩
      have V2 : Hid _:=V1.out.below hx2
      clear hx2
      go_wp2_with fail
      refine Calls.mono (D3.out _ V2.out.at_) ?_
      rintro e x3 ⟨rfl,hx3⟩
      have V3 : Hid _:=V2.out.below hx3
      clear hx3 c0 c1 c2 f1 f2
      obtain ⟨em,hml⟩:=tail_len m _ m42
      have hA3:=V3.out.at_
      rw [em] at hA3
      obtain ⟨a5,hR5,ha5,hA5⟩:=hA3.step
      obtain ⟨c0,c1,c2,f1,f2⟩:=hR5.all
      obtain ⟨gb,capb,hub,hg1,hg2,hcb⟩:=V3.out.own.form (t.flat_pos)
      have SG : Hid _:=sg_set V3.out.gr V3.out.own hub hcb hg2 hgl a5 hA5 ⟨5,z4⟩
      subst hub
      clear hR5 hA5 hA3 hcb hg1 hg2
      go_wp2_with (at_builtin; refine wpList_append_ns (by rfl) _ _ (by rfl) x3.heap.size _ (by rfl) _ SG.out.x gb _ _ t.flat (by rfl) (by rfl) SG.out.src t.flat_pos (by have:=HV.out.len; simp; omega) SG.out.sz ?_; intro g7 cap7 x7 ho7 hg7 hb7 hl7; have O7 : Hid _:=ho7; have G7 : Hid _:=hg7; clear ho7 hg7 hb7 hl7)
      have HE : Hid (SgInv w g s (posts (.leaf ⟨9,z4⟩) l.tail) (.slice (some ⟨g7,0,none⟩) (1 + t.flat.length) cap7) x7 (.one ⟨5,z4⟩ t) m.tail) :=
        sg_next SG.out O7.out G7.out (by rw [← HV.out.tg]; exact (posts_s5 t m em).symm) (by have:=HV.out.len; simp [Rx.flat]; omega)
      have MSE : Hid (rdMeas x7 g s.size = m.tail.length + 1):=HE.out.at_.meas
      exact ⟨⟨_,_,HE⟩,by rw [MSE.out,MS.out]; omega⟩
    · rw [decide_eq_false m42] at D1
      by_cases m43 : m.head? = some 43
      · rw [decide_eq_true m43] at D2
        rw [m43,show decide (some (43 : UInt8) = some 63) = false from rfl] at D3
        go_wp2_with fail
        refine Calls.mono (D1.out _ HV.out.at_) ?_
        rintro e x1 ⟨rfl,hx1⟩
        have V1 : Hid _:=HV.out.below hx1
        clear hx1
        go_wp2_with fail
        refine Calls.mono (D2.out _ V1.out.at_) ?_
        rintro e x2 ⟨rfl,hx2⟩
        have V2 : Hid _:=V1.out.below hx2
        clear hx2
        go_wp2_with fail
        refine Calls.mono (D3.out _ V2.out.at_) ?_
        rintro e x3 ⟨rfl,hx3⟩
        have V3 : Hid _:=V2.out.below hx3
        clear hx3 c0 c1 c2 f1 f2
        obtain ⟨em,hml⟩:=tail_len m _ m43
        have hA3:=V3.out.at_
        rw [em] at hA3
        obtain ⟨a5,hR5,ha5,hA5⟩:=hA3.step
        obtain ⟨c0,c1,c2,f1,f2⟩:=hR5.all
        obtain ⟨gb,capb,hub,hg1,hg2,hcb⟩:=V3.out.own.form (t.flat_pos)
        have SG : Hid _:=sg_set V3.out.gr V3.out.own hub hcb hg2 hgl a5 hA5 ⟨6,z4⟩
        subst hub
        clear hR5 hA5 hA3 hcb hg1 hg2
        go_wp2_with (at_builtin; refine wpList_append_ns (by rfl) _ _ (by rfl) x3.heap.size _ (by rfl) _ SG.out.x gb _ _ t.flat (by rfl) (by rfl) SG.out.src t.flat_pos (by have:=HV.out.len; simp; omega) SG.out.sz ?_; intro g7 cap7 x7 ho7 hg7 hb7 hl7; have O7 : Hid _:=ho7; have G7 : Hid _:=hg7; clear ho7 hg7 hb7 hl7)
        have HE : Hid (SgInv w g s (posts (.leaf ⟨9,z4⟩) l.tail) (.slice (some ⟨g7,0,none⟩) (1 + t.flat.length) cap7) x7 (.one ⟨6,z4⟩ t) m.tail) :=
          sg_next SG.out O7.out G7.out (by rw [← HV.out.tg]; exact (posts_s6 t m em).symm) (by have:=HV.out.len; simp [Rx.flat]; omega)
        have MSE : Hid (rdMeas x7 g s.size = m.tail.length + 1):=HE.out.at_.meas
        exact ⟨⟨_,_,HE⟩,by rw [MSE.out,MS.out]; omega⟩
      · rw [decide_eq_false m43] at D2
        by_cases m63 : m.head? = some 63
        · rw [decide_eq_true m63] at D3
          go_wp2_with fail
          refine Calls.mono (D1.out _ HV.out.at_) ?_
          rintro e x1 ⟨rfl,hx1⟩
          have V1 : Hid _:=HV.out.below hx1
          clear hx1
          go_wp2_with fail
          refine Calls.mono (D2.out _ V1.out.at_) ?_
          rintro e x2 ⟨rfl,hx2⟩
          have V2 : Hid _:=V1.out.below hx2
          clear hx2
          go_wp2_with fail
          refine Calls.mono (D3.out _ V2.out.at_) ?_
          rintro e x3 ⟨rfl,hx3⟩
          have V3 : Hid _:=V2.out.below hx3
          clear hx3 c0 c1 c2 f1 f2
          obtain ⟨em,hml⟩:=tail_len m _ m63
          have hA3:=V3.out.at_
          rw [em] at hA3
          obtain ⟨a5,hR5,ha5,hA5⟩:=hA3.step
          obtain ⟨c0,c1,c2,f1,f2⟩:=hR5.all
          obtain ⟨gb,capb,hub,hg1,hg2,hcb⟩:=V3.out.own.form (t.flat_pos)
          have SG : Hid _:=sg_set V3.out.gr V3.out.own hub hcb hg2 hgl a5 hA5 ⟨7,z4⟩
          subst hub
          clear hR5 hA5 hA3 hcb hg1 hg2
          go_wp2_with (at_builtin; refine wpList_append_ns (by rfl) _ _ (by rfl) x3.heap.size _ (by rfl) _ SG.out.x gb _ _ t.flat (by rfl) (by rfl) SG.out.src t.flat_pos (by have:=HV.out.len; simp; omega) SG.out.sz ?_; intro g7 cap7 x7 ho7 hg7 hb7 hl7; have O7 : Hid _:=ho7; have G7 : Hid _:=hg7; clear ho7 hg7 hb7 hl7)
          have HE : Hid (SgInv w g s (posts (.leaf ⟨9,z4⟩) l.tail) (.slice (some ⟨g7,0,none⟩) (1 + t.flat.length) cap7) x7 (.one ⟨7,z4⟩ t) m.tail) :=
            sg_next SG.out O7.out G7.out (by rw [← HV.out.tg]; exact (posts_s7 t m em).symm) (by have:=HV.out.len; simp [Rx.flat]; omega)
          have MSE : Hid (rdMeas x7 g s.size = m.tail.length + 1):=HE.out.at_.meas
          exact ⟨⟨_,_,HE⟩,by rw [MSE.out,MS.out]; omega⟩
        · rw [decide_eq_false m63] at D3
          go_wp2_with fail
          refine Calls.mono (D1.out _ HV.out.at_) ?_
          rintro e x1 ⟨rfl,hx1⟩
          have V1 : Hid _:=HV.out.below hx1
          clear hx1
          go_wp2_with fail
          refine Calls.mono (D2.out _ V1.out.at_) ?_
          rintro e x2 ⟨rfl,hx2⟩
          have V2 : Hid _:=V1.out.below hx2
          clear hx2
          go_wp2_with fail
          refine Calls.mono (D3.out _ V2.out.at_) ?_
          rintro e x3 ⟨rfl,hx3⟩
          have V3 : Hid _:=V2.out.below hx3
          clear hx3 c0 c1 c2 f1 f2
          have HT : Hid ((posts (.leaf ⟨9,z4⟩) l.tail) = (t,m)):=by show _ = _; rw [← HV.out.tg,posts_end t m m42 m43 m63]
          go_wp2
          go_ret
          exact ⟨V3.out.gr,_,rfl,by rw [HT.out]; exact V3.out.own,by rw [HT.out]; exact V3.out.at_⟩
theorem atom_dot (g : Nat) (s : ByteArray) (l : List UInt8) (hs : s.size ≤ 1000) (hh : l.head? = some 46) : AtomOkC g s l (posts (.leaf ⟨1,dotC⟩) l.tail):=by
  intro w hA
  have hgl:=hA.lt
  have HL : Hid (l.length ≤ 1000):=by
    show _ ≤ _
    obtain ⟨a,h1,_⟩:=hA
    omega
  have C1 : Hid (∀ w,At w g s l → _):=fun w h => sees_at g s l 40 40 rfl hs w h
  have C2 : Hid (∀ w,At w g s l → _):=fun w h => sees_at g s l 91 91 rfl hs w h
  have C3 : Hid (∀ w,At w g s l → _):=fun w h => sees_at g s l 46 46 rfl hs w h
  rw [hh] at C1 C2 C3
  go_enter Tryz.func54,Tryz.ntmps54
  go_wp2_with fail
  refine Calls.mono (C1.out _ hA) ?_
  rintro e w1 ⟨rfl,hb1⟩
  have hA1:=hA.below hb1
  go_wp2_with fail
  refine Calls.mono (C2.out _ hA1) ?_
  rintro e w2 ⟨rfl,hb2⟩
  have hA2:=hA1.below hb2
  go_wp2_with fail
  refine Calls.mono (C3.out _ hA2) ?_
  rintro e w3 ⟨rfl,hb3⟩
  have hA3:=hA2.below hb3
  have hGk : w.grownBy w3 (some g):=(((below_grown hb1 _).trans (below_grown hb2 _)).trans (below_grown hb3 _))
  obtain ⟨el,hll⟩:=tail_len l _ hh
  rw [el] at hA3
  obtain ⟨a,hR,ha,hA9⟩:=hA3.step
  obtain ⟨c0,c1,c2,f1,f2⟩:=hR.all
  clear hA1 hA2 hA3 hb1 hb2 hb3 C1 C2 C3
  have O1 : Hid (∀ w,_):=fun w => ofText_any ⟨#[10]⟩ w (by decide)
  have O2 : Hid (∀ w,_):=fun w => others_any (C4.ofL [10]) (ofL_ok _) w
  go_wp2_with fail
  refine Calls.mono (O1.out _) ?_
  rintro e w4 ⟨rfl,hb4⟩
  go_wp2_with fail
  refine Calls.mono (O2.out _) ?_
  rintro e w5 ⟨rfl,hb5⟩
  have hG5 : w.grownBy w5 (some g):=((hGk.trans (grown_at _ _ _ _)).trans (below_grown hb4 _)).trans (below_grown hb5 _)
  have hA5:=(hA9.below hb4).below hb5
  have HI : Hid (SgInv w g s (posts (.leaf ⟨1,dotC⟩) l.tail) (.slice (some ⟨w5.heap.size,0,none⟩) 1 1) (w5.alloc (ndOb 1 dotC)) (.leaf ⟨1,dotC⟩) l.tail):=sg_start hG5 hA5 ⟨1,dotC⟩ (by have:=HL.out; omega) _ rfl
  clear hb4 hb5 hA9
  obtain ⟨a5,ha5,hd5,hR5⟩:=hA5
  clear c0 c1 c2 f1 f2
  obtain ⟨c0,c1,c2,f1,f2⟩:=hR5.all
  clear hR5 hd5
  go_wp2_with fail
  go_loopw [3] (fun u wr => ∃ t m,Hid (SgInv w g s (posts (.leaf ⟨1,dotC⟩) l.tail) u wr t m)) (fun _ wr => rdMeas wr g s.size)
  case atStart => exact ⟨_,_,HI⟩
  case round =>
    obtain ⟨t,m,HV⟩:=hrel
    clear HI c0 c1 c2 f1 f2
    have MS : Hid (rdMeas wr g s.size = m.length + 1):=HV.out.at_.meas
    obtain ⟨a1,ha1,hd1,hR1⟩:=HV.out.at_
    obtain ⟨c0,c1,c2,f1,f2⟩:=hR1.all
    clear hd1 hR1
    have D1 : Hid (∀ w,At w g s m → _):=fun w h => sees_at g s m 42 42 rfl hs w h
    have D2 : Hid (∀ w,At w g s m → _):=fun w h => sees_at g s m 43 43 rfl hs w h
    have D3 : Hid (∀ w,At w g s m → _):=fun w h => sees_at g s m 63 63 rfl hs w h
    by_cases m42 : m.head? = some 42
    · rw [decide_eq_true m42] at D1
      rw [m42,show decide (some (42 : UInt8) = some 43) = false from rfl] at D2
      rw [m42,show decide (some (42 : UInt8) = some 63) = false from rfl] at D3
      go_wp2_with fail
      refine Calls.mono (D1.out _ HV.out.at_) ?_
      rintro e x1 ⟨rfl,hx1⟩
      have V1 : Hid _:=HV.out.below hx1
      clear hx1
      go_wp2_with fail
      refine Calls.mono (D2.out _ V1.out.at_) ?_
      rintro e x2 ⟨rfl,hx2⟩
      have V2 : Hid _:=V1.out.below hx2
      clear hx2
      go_wp2_with fail
      refine Calls.mono (D3.out _ V2.out.at_) ?_
      rintro e x3 ⟨rfl,hx3⟩
      have V3 : Hid _:=V2.out.below hx3
      clear hx3 c0 c1 c2 f1 f2
      obtain ⟨em,hml⟩:=tail_len m _ m42
      have hA3:=V3.out.at_
      rw [em] at hA3
      obtain ⟨a5,hR5,ha5,hA5⟩:=hA3.step
      obtain ⟨c0,c1,c2,f1,f2⟩:=hR5.all
      obtain ⟨gb,capb,hub,hg1,hg2,hcb⟩:=V3.out.own.form (t.flat_pos)
      have SG : Hid _:=sg_set V3.out.gr V3.out.own hub hcb hg2 hgl a5 hA5 ⟨5,z4⟩
      subst hub
      clear hR5 hA5 hA3 hcb hg1 hg2
      go_wp2_with (at_builtin; refine wpList_append_ns (by rfl) _ _ (by rfl) x3.heap.size _ (by rfl) _ SG.out.x gb _ _ t.flat (by rfl) (by rfl) SG.out.src t.flat_pos (by have:=HV.out.len; simp; omega) SG.out.sz ?_; intro g7 cap7 x7 ho7 hg7 hb7 hl7; have O7 : Hid _:=ho7; have G7 : Hid _:=hg7; clear ho7 hg7 hb7 hl7)
      have HE : Hid (SgInv w g s (posts (.leaf ⟨1,dotC⟩) l.tail) (.slice (some ⟨g7,0,none⟩) (1 + t.flat.length) cap7) x7 (.one ⟨5,z4⟩ t) m.tail) :=
        sg_next SG.out O7.out G7.out (by rw [← HV.out.tg]; exact (posts_s5 t m em).symm) (by have:=HV.out.len; simp [Rx.flat]; omega)
      have MSE : Hid (rdMeas x7 g s.size = m.tail.length + 1):=HE.out.at_.meas
      exact ⟨⟨_,_,HE⟩,by rw [MSE.out,MS.out]; omega⟩
    · rw [decide_eq_false m42] at D1
      by_cases m43 : m.head? = some 43
      · rw [decide_eq_true m43] at D2
        rw [m43,show decide (some (43 : UInt8) = some 63) = false from rfl] at D3
        go_wp2_with fail
        refine Calls.mono (D1.out _ HV.out.at_) ?_
        rintro e x1 ⟨rfl,hx1⟩
        have V1 : Hid _:=HV.out.below hx1
        clear hx1
        go_wp2_with fail
        refine Calls.mono (D2.out _ V1.out.at_) ?_
        rintro e x2 ⟨rfl,hx2⟩
        have V2 : Hid _:=V1.out.below hx2
        clear hx2
        go_wp2_with fail
        refine Calls.mono (D3.out _ V2.out.at_) ?_
        rintro e x3 ⟨rfl,hx3⟩
        have V3 : Hid _:=V2.out.below hx3
        clear hx3 c0 c1 c2 f1 f2
        obtain ⟨em,hml⟩:=tail_len m _ m43
        have hA3:=V3.out.at_
        rw [em] at hA3
        obtain ⟨a5,hR5,ha5,hA5⟩:=hA3.step
        obtain ⟨c0,c1,c2,f1,f2⟩:=hR5.all
        obtain ⟨gb,capb,hub,hg1,hg2,hcb⟩:=V3.out.own.form (t.flat_pos)
        have SG : Hid _:=sg_set V3.out.gr V3.out.own hub hcb hg2 hgl a5 hA5 ⟨6,z4⟩
        subst hub
        clear hR5 hA5 hA3 hcb hg1 hg2
        go_wp2_with (at_builtin; refine wpList_append_ns (by rfl) _ _ (by rfl) x3.heap.size _ (by rfl) _ SG.out.x gb _ _ t.flat (by rfl) (by rfl) SG.out.src t.flat_pos (by have:=HV.out.len; simp; omega) SG.out.sz ?_; intro g7 cap7 x7 ho7 hg7 hb7 hl7; have O7 : Hid _:=ho7; have G7 : Hid _:=hg7; clear ho7 hg7 hb7 hl7)
        have HE : Hid (SgInv w g s (posts (.leaf ⟨1,dotC⟩) l.tail) (.slice (some ⟨g7,0,none⟩) (1 + t.flat.length) cap7) x7 (.one ⟨6,z4⟩ t) m.tail) :=
          sg_next SG.out O7.out G7.out (by rw [← HV.out.tg]; exact (posts_s6 t m em).symm) (by have:=HV.out.len; simp [Rx.flat]; omega)
        have MSE : Hid (rdMeas x7 g s.size = m.tail.length + 1):=HE.out.at_.meas
        exact ⟨⟨_,_,HE⟩,by rw [MSE.out,MS.out]; omega⟩
      · rw [decide_eq_false m43] at D2
        by_cases m63 : m.head? = some 63
        · rw [decide_eq_true m63] at D3
          go_wp2_with fail
          refine Calls.mono (D1.out _ HV.out.at_) ?_
          rintro e x1 ⟨rfl,hx1⟩
          have V1 : Hid _:=HV.out.below hx1
          clear hx1
          go_wp2_with fail
          refine Calls.mono (D2.out _ V1.out.at_) ?_
          rintro e x2 ⟨rfl,hx2⟩
          have V2 : Hid _:=V1.out.below hx2
          clear hx2
          go_wp2_with fail
          refine Calls.mono (D3.out _ V2.out.at_) ?_
          rintro e x3 ⟨rfl,hx3⟩
          have V3 : Hid _:=V2.out.below hx3
          clear hx3 c0 c1 c2 f1 f2
          obtain ⟨em,hml⟩:=tail_len m _ m63
          have hA3:=V3.out.at_
          rw [em] at hA3
          obtain ⟨a5,hR5,ha5,hA5⟩:=hA3.step
          obtain ⟨c0,c1,c2,f1,f2⟩:=hR5.all
          obtain ⟨gb,capb,hub,hg1,hg2,hcb⟩:=V3.out.own.form (t.flat_pos)
          have SG : Hid _:=sg_set V3.out.gr V3.out.own hub hcb hg2 hgl a5 hA5 ⟨7,z4⟩
          subst hub
          clear hR5 hA5 hA3 hcb hg1 hg2
          go_wp2_with (at_builtin; refine wpList_append_ns (by rfl) _ _ (by rfl) x3.heap.size _ (by rfl) _ SG.out.x gb _ _ t.flat (by rfl) (by rfl) SG.out.src t.flat_pos (by have:=HV.out.len; simp; omega) SG.out.sz ?_; intro g7 cap7 x7 ho7 hg7 hb7 hl7; have O7 : Hid _:=ho7; have G7 : Hid _:=hg7; clear ho7 hg7 hb7 hl7)
          have HE : Hid (SgInv w g s (posts (.leaf ⟨1,dotC⟩) l.tail) (.slice (some ⟨g7,0,none⟩) (1 + t.flat.length) cap7) x7 (.one ⟨7,z4⟩ t) m.tail) :=
            sg_next SG.out O7.out G7.out (by rw [← HV.out.tg]; exact (posts_s7 t m em).symm) (by have:=HV.out.len; simp [Rx.flat]; omega)
          have MSE : Hid (rdMeas x7 g s.size = m.tail.length + 1):=HE.out.at_.meas
          exact ⟨⟨_,_,HE⟩,by rw [MSE.out,MS.out]; omega⟩
        · rw [decide_eq_false m63] at D3
          go_wp2_with fail
          refine Calls.mono (D1.out _ HV.out.at_) ?_
          rintro e x1 ⟨rfl,hx1⟩
          have V1 : Hid _:=HV.out.below hx1
          clear hx1
          go_wp2_with fail
          refine Calls.mono (D2.out _ V1.out.at_) ?_
          rintro e x2 ⟨rfl,hx2⟩
          have V2 : Hid _:=V1.out.below hx2
          clear hx2
          go_wp2_with fail
          refine Calls.mono (D3.out _ V2.out.at_) ?_
          rintro e x3 ⟨rfl,hx3⟩
          have V3 : Hid _:=V2.out.below hx3
          clear hx3 c0 c1 c2 f1 f2
          have HT : Hid ((posts (.leaf ⟨1,dotC⟩) l.tail) = (t,m)):=by show _ = _; rw [← HV.out.tg,posts_end t m m42 m43 m63]
          go_wp2
          go_ret
          exact ⟨V3.out.gr,_,rfl,by rw [HT.out]; exact V3.out.own,by rw [HT.out]; exact V3.out.at_⟩
theorem atom_class (g : Nat) (s : ByteArray) (l : List UInt8) (hs : s.size ≤ 1000) (hh : l.head? = some 91) (k : C4) (r : List UInt8) (hk : bracket l.tail = .ok (k,r)) : AtomOkC g s l (posts (.leaf ⟨1,k⟩) r):=by
  intro w hA
  have hgl:=hA.lt
  have HL : Hid (l.length ≤ 1000):=by
    show _ ≤ _
    obtain ⟨a,h1,_⟩:=hA
    omega
  have C1 : Hid (∀ w,At w g s l → _):=fun w h => sees_at g s l 40 40 rfl hs w h
  have C2 : Hid (∀ w,At w g s l → _):=fun w h => sees_at g s l 91 91 rfl hs w h
  rw [hh] at C1 C2
  go_enter Tryz.func54,Tryz.ntmps54
  go_wp2_with fail
  refine Calls.mono (C1.out _ hA) ?_
  rintro e w1 ⟨rfl,hb1⟩
  have hA1:=hA.below hb1
  go_wp2_with fail
  refine Calls.mono (C2.out _ hA1) ?_
  rintro e w2 ⟨rfl,hb2⟩
  have hA2:=hA1.below hb2
  have hGk : w.grownBy w2 (some g):=((below_grown hb1 _).trans (below_grown hb2 _))
  obtain ⟨el,hll⟩:=tail_len l _ hh
  rw [el] at hA2
  obtain ⟨a,hR,ha,hA9⟩:=hA2.step
  obtain ⟨c0,c1,c2,f1,f2⟩:=hR.all
  clear hA1 hA2 hb1 hb2 C1 C2
  have CB : Hid _:=bracketed_any g s l.tail _ hA9 hs
  go_wp2_with fail
  refine Calls.mono CB.out ?_
  rintro e w4 ⟨hg4,k4,hk4,rfl,hcase⟩
  have hkk : k4 = k ∧ At w4 g s r:=by
    rcases hcase with ⟨r',h1,h2⟩ | ⟨q,h1,_⟩
    · rw [hk] at h1
      injection h1 with h1
      injection h1 with h3 h4
      subst h3; subst h4
      exact ⟨rfl,h2⟩
    · rw [hk] at h1; cases h1
  obtain ⟨rfl,hA4⟩:=hkk
  have hG4 : w.grownBy w4 (some g):=(hGk.trans (grown_at _ _ _ _)).trans hg4
  have HI : Hid (SgInv w g s (posts (.leaf ⟨1,k4⟩) r) (.slice (some ⟨w4.heap.size + 1,0,none⟩) 1 1) ((w4.alloc (.cells k4.cells 104)).alloc (ndOb 1 k4)) (.leaf ⟨1,k4⟩) r) :=
    sg_start (hG4.trans (World.grownBy_alloc _ _ _)) (hA4.below (below_one _ _)) ⟨1,k4⟩ (by have:=hA4.len; omega) _ (by simp)
  clear c0 c1 c2 f1 f2 hcase
  obtain ⟨a5,ha5,hd5,hR5⟩:=hA4
  obtain ⟨c0,c1,c2,f1,f2⟩:=hR5.all
  clear hR5 hd5
  go_wp2_with fail
  go_loopw [3] (fun u wr => ∃ t m,Hid (SgInv w g s (posts (.leaf ⟨1,k4⟩) r) u wr t m)) (fun _ wr => rdMeas wr g s.size)
  case atStart => exact ⟨_,_,HI⟩
  case round =>
    obtain ⟨t,m,HV⟩:=hrel
    clear HI c0 c1 c2 f1 f2
    have MS : Hid (rdMeas wr g s.size = m.length + 1):=HV.out.at_.meas
    obtain ⟨a1,ha1,hd1,hR1⟩:=HV.out.at_
    obtain ⟨c0,c1,c2,f1,f2⟩:=hR1.all
    clear hd1 hR1
    have D1 : Hid (∀ w,At w g s m → _):=fun w h => sees_at g s m 42 42 rfl hs w h
    have D2 : Hid (∀ w,At w g s m → _):=fun w h => sees_at g s m 43 43 rfl hs w h
    have D3 : Hid (∀ w,At w g s m → _):=fun w h => sees_at g s m 63 63 rfl hs w h
    by_cases m42 : m.head? = some 42
    · rw [decide_eq_true m42] at D1
      rw [m42,show decide (some (42 : UInt8) = some 43) = false from rfl] at D2
      rw [m42,show decide (some (42 : UInt8) = some 63) = false from rfl] at D3
      go_wp2_with fail
      refine Calls.mono (D1.out _ HV.out.at_) ?_
      rintro e x1 ⟨rfl,hx1⟩
      have V1 : Hid _:=HV.out.below hx1
      clear hx1
      go_wp2_with fail
      refine Calls.mono (D2.out _ V1.out.at_) ?_
      rintro e x2 ⟨rfl,hx2⟩
      have V2 : Hid _:=V1.out.below hx2
      clear hx2
      go_wp2_with fail
      refine Calls.mono (D3.out _ V2.out.at_) ?_
      rintro e x3 ⟨rfl,hx3⟩
      have V3 : Hid _:=V2.out.below hx3
      clear hx3 c0 c1 c2 f1 f2
      obtain ⟨em,hml⟩:=tail_len m _ m42
      have hA3:=V3.out.at_
      rw [em] at hA3
      obtain ⟨a5,hR5,ha5,hA5⟩:=hA3.step
      obtain ⟨c0,c1,c2,f1,f2⟩:=hR5.all
      obtain ⟨gb,capb,hub,hg1,hg2,hcb⟩:=V3.out.own.form (t.flat_pos)
      have SG : Hid _:=sg_set V3.out.gr V3.out.own hub hcb hg2 hgl a5 hA5 ⟨5,z4⟩
      subst hub
      clear hR5 hA5 hA3 hcb hg1 hg2
      go_wp2_with (at_builtin; refine wpList_append_ns (by rfl) _ _ (by rfl) x3.heap.size _ (by rfl) _ SG.out.x gb _ _ t.flat (by rfl) (by rfl) SG.out.src t.flat_pos (by have:=HV.out.len; simp; omega) SG.out.sz ?_; intro g7 cap7 x7 ho7 hg7 hb7 hl7; have O7 : Hid _:=ho7; have G7 : Hid _:=hg7; clear ho7 hg7 hb7 hl7)
      have HE : Hid (SgInv w g s (posts (.leaf ⟨1,k4⟩) r) (.slice (some ⟨g7,0,none⟩) (1 + t.flat.length) cap7) x7 (.one ⟨5,z4⟩ t) m.tail) :=
        sg_next SG.out O7.out G7.out (by rw [← HV.out.tg]; exact (posts_s5 t m em).symm) (by have:=HV.out.len; simp [Rx.flat]; omega)
      have MSE : Hid (rdMeas x7 g s.size = m.tail.length + 1):=HE.out.at_.meas
      exact ⟨⟨_,_,HE⟩,by rw [MSE.out,MS.out]; omega⟩
    · rw [decide_eq_false m42] at D1
      by_cases m43 : m.head? = some 43
      · rw [decide_eq_true m43] at D2
        rw [m43,show decide (some (43 : UInt8) = some 63) = false from rfl] at D3
        go_wp2_with fail
        refine Calls.mono (D1.out _ HV.out.at_) ?_
        rintro e x1 ⟨rfl,hx1⟩
        have V1 : Hid _:=HV.out.below hx1
        clear hx1
        go_wp2_with fail
        refine Calls.mono (D2.out _ V1.out.at_) ?_
        rintro e x2 ⟨rfl,hx2⟩
        have V2 : Hid _:=V1.out.below hx2
        clear hx2
        go_wp2_with fail
        refine Calls.mono (D3.out _ V2.out.at_) ?_
        rintro e x3 ⟨rfl,hx3⟩
        have V3 : Hid _:=V2.out.below hx3
        clear hx3 c0 c1 c2 f1 f2
        obtain ⟨em,hml⟩:=tail_len m _ m43
        have hA3:=V3.out.at_
        rw [em] at hA3
        obtain ⟨a5,hR5,ha5,hA5⟩:=hA3.step
        obtain ⟨c0,c1,c2,f1,f2⟩:=hR5.all
        obtain ⟨gb,capb,hub,hg1,hg2,hcb⟩:=V3.out.own.form (t.flat_pos)
        have SG : Hid _:=sg_set V3.out.gr V3.out.own hub hcb hg2 hgl a5 hA5 ⟨6,z4⟩
        subst hub
        clear hR5 hA5 hA3 hcb hg1 hg2
        go_wp2_with (at_builtin; refine wpList_append_ns (by rfl) _ _ (by rfl) x3.heap.size _ (by rfl) _ SG.out.x gb _ _ t.flat (by rfl) (by rfl) SG.out.src t.flat_pos (by have:=HV.out.len; simp; omega) SG.out.sz ?_; intro g7 cap7 x7 ho7 hg7 hb7 hl7; have O7 : Hid _:=ho7; have G7 : Hid _:=hg7; clear ho7 hg7 hb7 hl7)
        have HE : Hid (SgInv w g s (posts (.leaf ⟨1,k4⟩) r) (.slice (some ⟨g7,0,none⟩) (1 + t.flat.length) cap7) x7 (.one ⟨6,z4⟩ t) m.tail) :=
          sg_next SG.out O7.out G7.out (by rw [← HV.out.tg]; exact (posts_s6 t m em).symm) (by have:=HV.out.len; simp [Rx.flat]; omega)
        have MSE : Hid (rdMeas x7 g s.size = m.tail.length + 1):=HE.out.at_.meas
        exact ⟨⟨_,_,HE⟩,by rw [MSE.out,MS.out]; omega⟩
      · rw [decide_eq_false m43] at D2
        by_cases m63 : m.head? = some 63
        · rw [decide_eq_true m63] at D3
          go_wp2_with fail
          refine Calls.mono (D1.out _ HV.out.at_) ?_
          rintro e x1 ⟨rfl,hx1⟩
          have V1 : Hid _:=HV.out.below hx1
          clear hx1
          go_wp2_with fail
          refine Calls.mono (D2.out _ V1.out.at_) ?_
          rintro e x2 ⟨rfl,hx2⟩
          have V2 : Hid _:=V1.out.below hx2
          clear hx2
          go_wp2_with fail
          refine Calls.mono (D3.out _ V2.out.at_) ?_
          rintro e x3 ⟨rfl,hx3⟩
          have V3 : Hid _:=V2.out.below hx3
          clear hx3 c0 c1 c2 f1 f2
          obtain ⟨em,hml⟩:=tail_len m _ m63
          have hA3:=V3.out.at_
          rw [em] at hA3
          obtain ⟨a5,hR5,ha5,hA5⟩:=hA3.step
          obtain ⟨c0,c1,c2,f1,f2⟩:=hR5.all
          obtain ⟨gb,capb,hub,hg1,hg2,hcb⟩:=V3.out.own.form (t.flat_pos)
          have SG : Hid _:=sg_set V3.out.gr V3.out.own hub hcb hg2 hgl a5 hA5 ⟨7,z4⟩
          subst hub
          clear hR5 hA5 hA3 hcb hg1 hg2
          go_wp2_with (at_builtin; refine wpList_append_ns (by rfl) _ _ (by rfl) x3.heap.size _ (by rfl) _ SG.out.x gb _ _ t.flat (by rfl) (by rfl) SG.out.src t.flat_pos (by have:=HV.out.len; simp; omega) SG.out.sz ?_; intro g7 cap7 x7 ho7 hg7 hb7 hl7; have O7 : Hid _:=ho7; have G7 : Hid _:=hg7; clear ho7 hg7 hb7 hl7)
          have HE : Hid (SgInv w g s (posts (.leaf ⟨1,k4⟩) r) (.slice (some ⟨g7,0,none⟩) (1 + t.flat.length) cap7) x7 (.one ⟨7,z4⟩ t) m.tail) :=
            sg_next SG.out O7.out G7.out (by rw [← HV.out.tg]; exact (posts_s7 t m em).symm) (by have:=HV.out.len; simp [Rx.flat]; omega)
          have MSE : Hid (rdMeas x7 g s.size = m.tail.length + 1):=HE.out.at_.meas
          exact ⟨⟨_,_,HE⟩,by rw [MSE.out,MS.out]; omega⟩
        · rw [decide_eq_false m63] at D3
          go_wp2_with fail
          refine Calls.mono (D1.out _ HV.out.at_) ?_
          rintro e x1 ⟨rfl,hx1⟩
          have V1 : Hid _:=HV.out.below hx1
          clear hx1
          go_wp2_with fail
          refine Calls.mono (D2.out _ V1.out.at_) ?_
          rintro e x2 ⟨rfl,hx2⟩
          have V2 : Hid _:=V1.out.below hx2
          clear hx2
          go_wp2_with fail
          refine Calls.mono (D3.out _ V2.out.at_) ?_
          rintro e x3 ⟨rfl,hx3⟩
          have V3 : Hid _:=V2.out.below hx3
          clear hx3 c0 c1 c2 f1 f2
          have HT : Hid ((posts (.leaf ⟨1,k4⟩) r) = (t,m)):=by show _ = _; rw [← HV.out.tg,posts_end t m m42 m43 m63]
          go_wp2
          go_ret
          exact ⟨V3.out.gr,_,rfl,by rw [HT.out]; exact V3.out.own,by rw [HT.out]; exact V3.out.at_⟩
theorem atom_one (g : Nat) (s : ByteArray) (l : List UInt8) (hs : s.size ≤ 1000) (h40 : ¬ l.head? = some 40) (h91 : ¬ l.head? = some 91) (h46 : ¬ l.head? = some 46) (h94 : ¬ l.head? = some 94) (h36 : ¬ l.head? = some 36) (b : Nat) (r : List UInt8) (hk : rd1 l = .ok (b,r)) (kb : C4) (hkb : z4.add ((b : Nat) : Int) = kb) : AtomOkC g s l (posts (.leaf ⟨1,kb⟩) r):=by
  intro w hA
  have hgl:=hA.lt
  have HL : Hid (l.length ≤ 1000):=by
    show _ ≤ _
    obtain ⟨a,h1,_⟩:=hA
    omega
  have C1 : Hid (∀ w,At w g s l → _):=fun w h => sees_at g s l 40 40 rfl hs w h
  rw [decide_eq_false h40] at C1
  have C2 : Hid (∀ w,At w g s l → _):=fun w h => sees_at g s l 91 91 rfl hs w h
  rw [decide_eq_false h91] at C2
  have C3 : Hid (∀ w,At w g s l → _):=fun w h => sees_at g s l 46 46 rfl hs w h
  rw [decide_eq_false h46] at C3
  have C4 : Hid (∀ w,At w g s l → _):=fun w h => sees_at g s l 94 94 rfl hs w h
  rw [decide_eq_false h94] at C4
  have C5 : Hid (∀ w,At w g s l → _):=fun w h => sees_at g s l 36 36 rfl hs w h
  rw [decide_eq_false h36] at C5
  go_enter Tryz.func54,Tryz.ntmps54
  go_wp2_with fail
  refine Calls.mono (C1.out _ hA) ?_
  rintro e w1 ⟨rfl,hb1⟩
  have hA1:=hA.below hb1
  go_wp2_with fail
  refine Calls.mono (C2.out _ hA1) ?_
  rintro e w2 ⟨rfl,hb2⟩
  have hA2:=hA1.below hb2
  go_wp2_with fail
  refine Calls.mono (C3.out _ hA2) ?_
  rintro e w3 ⟨rfl,hb3⟩
  have hA3:=hA2.below hb3
  go_wp2_with fail
  refine Calls.mono (C4.out _ hA3) ?_
  rintro e w4 ⟨rfl,hb4⟩
  have hA4:=hA3.below hb4
  go_wp2_with fail
  refine Calls.mono (C5.out _ hA4) ?_
  rintro e w5 ⟨rfl,hb5⟩
  have hA5:=hA4.below hb5
  have hGk : w.grownBy w5 (some g):=(((((below_grown hb1 _).trans (below_grown hb2 _)).trans (below_grown hb3 _)).trans (below_grown hb4 _)).trans (below_grown hb5 _))
  have hA9:=hA5
  clear hA1 hA2 hA3 hA4 hA5 hb1 hb2 hb3 hb4 hb5 C1 C2 C3 C4 C5
  have CB : Hid _:=one_ok g s l _ hA9 hs b r hk
  go_wp2_with fail
  refine Calls.mono CB.out ?_
  rintro e w6 ⟨rfl,hA6,hg6⟩
  have O1 : Hid (∀ w,Calls Tryz.prog 81 #[z4.v,.int .i64 b] w fun e w' => e = .returned kb.v ∧ Below w.heap.size w w'):=fun w => by rw [← hkb]; exact withR_any z4 z4_ok b (rd1_len _ _ _ hk).2 w
  go_wp2_with fail
  refine Calls.mono (O1.out _) ?_
  rintro e w7 ⟨rfl,hb7⟩
  have hG7 : w.grownBy w7 (some g):=(hGk.trans hg6).trans (below_grown hb7 _)
  have hA7:=hA6.below hb7
  have HI : Hid (SgInv w g s (posts (.leaf ⟨1,kb⟩) r) (.slice (some ⟨w7.heap.size,0,none⟩) 1 1) (w7.alloc (ndOb 1 kb)) (.leaf ⟨1,kb⟩) r) :=
    sg_start hG7 hA7 ⟨1,kb⟩ (by have:=hA7.len; omega) _ rfl
  clear hb7 hA9
  obtain ⟨a5,ha5,hd5,hR5⟩:=hA7
  obtain ⟨c0,c1,c2,f1,f2⟩:=hR5.all
  clear hR5 hd5 hA6
  go_wp2_with fail
  go_loopw [3] (fun u wr => ∃ t m,Hid (SgInv w g s (posts (.leaf ⟨1,kb⟩) r) u wr t m)) (fun _ wr => rdMeas wr g s.size)
  case atStart => exact ⟨_,_,HI⟩
  case round =>
    obtain ⟨t,m,HV⟩:=hrel
    clear HI c0 c1 c2 f1 f2
    have MS : Hid (rdMeas wr g s.size = m.length + 1):=HV.out.at_.meas
    obtain ⟨a1,ha1,hd1,hR1⟩:=HV.out.at_
    obtain ⟨c0,c1,c2,f1,f2⟩:=hR1.all
    clear hd1 hR1
    have D1 : Hid (∀ w,At w g s m → _):=fun w h => sees_at g s m 42 42 rfl hs w h
    have D2 : Hid (∀ w,At w g s m → _):=fun w h => sees_at g s m 43 43 rfl hs w h
    have D3 : Hid (∀ w,At w g s m → _):=fun w h => sees_at g s m 63 63 rfl hs w h
    by_cases m42 : m.head? = some 42
    · rw [decide_eq_true m42] at D1
      rw [m42,show decide (some (42 : UInt8) = some 43) = false from rfl] at D2
      rw [m42,show decide (some (42 : UInt8) = some 63) = false from rfl] at D3
      go_wp2_with fail
      refine Calls.mono (D1.out _ HV.out.at_) ?_
      rintro e x1 ⟨rfl,hx1⟩
      have V1 : Hid _:=HV.out.below hx1
      clear hx1
      go_wp2_with fail
      refine Calls.mono (D2.out _ V1.out.at_) ?_
      rintro e x2 ⟨rfl,hx2⟩
      have V2 : Hid _:=V1.out.below hx2
      clear hx2
      go_wp2_with fail
      refine Calls.mono (D3.out _ V2.out.at_) ?_
      rintro e x3 ⟨rfl,hx3⟩
      have V3 : Hid _:=V2.out.below hx3
      clear hx3 c0 c1 c2 f1 f2
      obtain ⟨em,hml⟩:=tail_len m _ m42
      have hA3:=V3.out.at_
      rw [em] at hA3
      obtain ⟨a5,hR5,ha5,hA5⟩:=hA3.step
      obtain ⟨c0,c1,c2,f1,f2⟩:=hR5.all
      obtain ⟨gb,capb,hub,hg1,hg2,hcb⟩:=V3.out.own.form (t.flat_pos)
      have SG : Hid _:=sg_set V3.out.gr V3.out.own hub hcb hg2 hgl a5 hA5 ⟨5,z4⟩
      subst hub
      clear hR5 hA5 hA3 hcb hg1 hg2
      go_wp2_with (at_builtin; refine wpList_append_ns (by rfl) _ _ (by rfl) x3.heap.size _ (by rfl) _ SG.out.x gb _ _ t.flat (by rfl) (by rfl) SG.out.src t.flat_pos (by have:=HV.out.len; simp; omega) SG.out.sz ?_; intro g7 cap7 x7 ho7 hg7 hb7 hl7; have O7 : Hid _:=ho7; have G7 : Hid _:=hg7; clear ho7 hg7 hb7 hl7)
      have HE : Hid (SgInv w g s (posts (.leaf ⟨1,kb⟩) r) (.slice (some ⟨g7,0,none⟩) (1 + t.flat.length) cap7) x7 (.one ⟨5,z4⟩ t) m.tail) :=
        sg_next SG.out O7.out G7.out (by rw [← HV.out.tg]; exact (posts_s5 t m em).symm) (by have:=HV.out.len; simp [Rx.flat]; omega)
      have MSE : Hid (rdMeas x7 g s.size = m.tail.length + 1):=HE.out.at_.meas
      exact ⟨⟨_,_,HE⟩,by rw [MSE.out,MS.out]; omega⟩
    · rw [decide_eq_false m42] at D1
      by_cases m43 : m.head? = some 43
      · rw [decide_eq_true m43] at D2
        rw [m43,show decide (some (43 : UInt8) = some 63) = false from rfl] at D3
        go_wp2_with fail
        refine Calls.mono (D1.out _ HV.out.at_) ?_
        rintro e x1 ⟨rfl,hx1⟩
        have V1 : Hid _:=HV.out.below hx1
        clear hx1
        go_wp2_with fail
        refine Calls.mono (D2.out _ V1.out.at_) ?_
        rintro e x2 ⟨rfl,hx2⟩
        have V2 : Hid _:=V1.out.below hx2
        clear hx2
        go_wp2_with fail
        refine Calls.mono (D3.out _ V2.out.at_) ?_
        rintro e x3 ⟨rfl,hx3⟩
        have V3 : Hid _:=V2.out.below hx3
        clear hx3 c0 c1 c2 f1 f2
        obtain ⟨em,hml⟩:=tail_len m _ m43
        have hA3:=V3.out.at_
        rw [em] at hA3
        obtain ⟨a5,hR5,ha5,hA5⟩:=hA3.step
        obtain ⟨c0,c1,c2,f1,f2⟩:=hR5.all
        obtain ⟨gb,capb,hub,hg1,hg2,hcb⟩:=V3.out.own.form (t.flat_pos)
        have SG : Hid _:=sg_set V3.out.gr V3.out.own hub hcb hg2 hgl a5 hA5 ⟨6,z4⟩
        subst hub
        clear hR5 hA5 hA3 hcb hg1 hg2
        go_wp2_with (at_builtin; refine wpList_append_ns (by rfl) _ _ (by rfl) x3.heap.size _ (by rfl) _ SG.out.x gb _ _ t.flat (by rfl) (by rfl) SG.out.src t.flat_pos (by have:=HV.out.len; simp; omega) SG.out.sz ?_; intro g7 cap7 x7 ho7 hg7 hb7 hl7; have O7 : Hid _:=ho7; have G7 : Hid _:=hg7; clear ho7 hg7 hb7 hl7)
        have HE : Hid (SgInv w g s (posts (.leaf ⟨1,kb⟩) r) (.slice (some ⟨g7,0,none⟩) (1 + t.flat.length) cap7) x7 (.one ⟨6,z4⟩ t) m.tail) :=
          sg_next SG.out O7.out G7.out (by rw [← HV.out.tg]; exact (posts_s6 t m em).symm) (by have:=HV.out.len; simp [Rx.flat]; omega)
        have MSE : Hid (rdMeas x7 g s.size = m.tail.length + 1):=HE.out.at_.meas
        exact ⟨⟨_,_,HE⟩,by rw [MSE.out,MS.out]; omega⟩
      · rw [decide_eq_false m43] at D2
        by_cases m63 : m.head? = some 63
        · rw [decide_eq_true m63] at D3
          go_wp2_with fail
          refine Calls.mono (D1.out _ HV.out.at_) ?_
          rintro e x1 ⟨rfl,hx1⟩
          have V1 : Hid _:=HV.out.below hx1
          clear hx1
          go_wp2_with fail
          refine Calls.mono (D2.out _ V1.out.at_) ?_
          rintro e x2 ⟨rfl,hx2⟩
          have V2 : Hid _:=V1.out.below hx2
          clear hx2
          go_wp2_with fail
          refine Calls.mono (D3.out _ V2.out.at_) ?_
          rintro e x3 ⟨rfl,hx3⟩
          have V3 : Hid _:=V2.out.below hx3
          clear hx3 c0 c1 c2 f1 f2
          obtain ⟨em,hml⟩:=tail_len m _ m63
          have hA3:=V3.out.at_
          rw [em] at hA3
          obtain ⟨a5,hR5,ha5,hA5⟩:=hA3.step
          obtain ⟨c0,c1,c2,f1,f2⟩:=hR5.all
          obtain ⟨gb,capb,hub,hg1,hg2,hcb⟩:=V3.out.own.form (t.flat_pos)
          have SG : Hid _:=sg_set V3.out.gr V3.out.own hub hcb hg2 hgl a5 hA5 ⟨7,z4⟩
          subst hub
          clear hR5 hA5 hA3 hcb hg1 hg2
          go_wp2_with (at_builtin; refine wpList_append_ns (by rfl) _ _ (by rfl) x3.heap.size _ (by rfl) _ SG.out.x gb _ _ t.flat (by rfl) (by rfl) SG.out.src t.flat_pos (by have:=HV.out.len; simp; omega) SG.out.sz ?_; intro g7 cap7 x7 ho7 hg7 hb7 hl7; have O7 : Hid _:=ho7; have G7 : Hid _:=hg7; clear ho7 hg7 hb7 hl7)
          have HE : Hid (SgInv w g s (posts (.leaf ⟨1,kb⟩) r) (.slice (some ⟨g7,0,none⟩) (1 + t.flat.length) cap7) x7 (.one ⟨7,z4⟩ t) m.tail) :=
            sg_next SG.out O7.out G7.out (by rw [← HV.out.tg]; exact (posts_s7 t m em).symm) (by have:=HV.out.len; simp [Rx.flat]; omega)
          have MSE : Hid (rdMeas x7 g s.size = m.tail.length + 1):=HE.out.at_.meas
          exact ⟨⟨_,_,HE⟩,by rw [MSE.out,MS.out]; omega⟩
        · rw [decide_eq_false m63] at D3
          go_wp2_with fail
          refine Calls.mono (D1.out _ HV.out.at_) ?_
          rintro e x1 ⟨rfl,hx1⟩
          have V1 : Hid _:=HV.out.below hx1
          clear hx1
          go_wp2_with fail
          refine Calls.mono (D2.out _ V1.out.at_) ?_
          rintro e x2 ⟨rfl,hx2⟩
          have V2 : Hid _:=V1.out.below hx2
          clear hx2
          go_wp2_with fail
          refine Calls.mono (D3.out _ V2.out.at_) ?_
          rintro e x3 ⟨rfl,hx3⟩
          have V3 : Hid _:=V2.out.below hx3
          clear hx3 c0 c1 c2 f1 f2
          have HT : Hid ((posts (.leaf ⟨1,kb⟩) r) = (t,m)):=by show _ = _; rw [← HV.out.tg,posts_end t m m42 m43 m63]
          go_wp2
          go_ret
          exact ⟨V3.out.gr,_,rfl,by rw [HT.out]; exact V3.out.own,by rw [HT.out]; exact V3.out.at_⟩
def AllOkC (g : Nat) (s : ByteArray) (l : List UInt8) (ss : List Rx) (l1 : List UInt8) : Prop:=∀ w : World,At w g s l →
  Calls Tryz.prog 37 #[.pointer (some ⟨g,0,none⟩)] w fun e w' => w.grownBy w' (some g) ∧ ∃ u,e = .returned u ∧ NsOwn w' w.heap.size u (ors ss).flat ∧ At w' g s l1
def AllBadC (g : Nat) (s : ByteArray) (l : List UInt8) (k : Nat) : Prop:=∀ w : World,At w g s l →
  Calls Tryz.prog 37 #[.pointer (some ⟨g,0,none⟩)] w fun e w' => w.grownBy w' (some g) ∧ ∃ u ms,e = .returned u ∧ NsOwn w' w.heap.size u ms ∧ (0 < ms.length ∧ ms.length ≤ 2 * l.length + 3) ∧ Bad w' g s k l.length
def BadEnd (w : World) (g : Nat) (s : ByteArray) (l : List UInt8) (k : Nat) (u : Value) (ms : List Nd) (w' : World) : Prop:=w.grownBy w' (some g) ∧ NsOwn w' w.heap.size u ms ∧ (0 < ms.length ∧ ms.length ≤ 2 * l.length + 1) ∧ Bad w' g s k l.length
theorem badEnd_one {w W : World} {g : Nat} {s : ByteArray} {l : List UInt8} {k m : Nat} (hgr : w.grownBy W (some g)) (hB : Bad W g s k m) (hm : m ≤ l.length) (n : Nd) (b : Nat) (hb : b = W.heap.size) : BadEnd w g s l k (.slice (some ⟨b,0,none⟩) 1 1) [n] (W.alloc (ndOb n.op n.c)):=by
  subst hb
  exact ⟨hgr.trans (World.grownBy_alloc _ _ _),(own_one W n).down hgr.size,⟨by simp,by simp⟩,(hB.below (below_one _ _)).more hm⟩
theorem atom_class_bad (g : Nat) (s : ByteArray) (l : List UInt8) (hs : s.size ≤ 1000) (hh : l.head? = some 91) (q : Nat) (hk : bracket l.tail = .error q) : AtomBadC g s l q:=by
  intro w hA
  have hgl:=hA.lt
  have HL : Hid (l.length ≤ 1000):=by
    show _ ≤ _
    obtain ⟨a,h1,_⟩:=hA
    omega
  have C1 : Hid (∀ w,At w g s l → _):=fun w h => sees_at g s l 40 40 rfl hs w h
  have C2 : Hid (∀ w,At w g s l → _):=fun w h => sees_at g s l 91 91 rfl hs w h
  rw [hh] at C1 C2
  go_enter Tryz.func54,Tryz.ntmps54
  go_wp2_with fail
  refine Calls.mono (C1.out _ hA) ?_
  rintro e w1 ⟨rfl,hb1⟩
  have hA1:=hA.below hb1
  go_wp2_with fail
  refine Calls.mono (C2.out _ hA1) ?_
  rintro e w2 ⟨rfl,hb2⟩
  have hA2:=hA1.below hb2
  have hGk : w.grownBy w2 (some g):=((below_grown hb1 _).trans (below_grown hb2 _))
  obtain ⟨el,hll⟩:=tail_len l _ hh
  rw [el] at hA2
  obtain ⟨a,hR,ha,hA9⟩:=hA2.step
  obtain ⟨c0,c1,c2,f1,f2⟩:=hR.all
  clear hA1 hA2 hb1 hb2 C1 C2
  have CB : Hid _:=bracketed_any g s l.tail _ hA9 hs
  go_wp2_with fail
  refine Calls.mono CB.out ?_
  rintro e w4 ⟨hg4,k4,hk4,rfl,hcase⟩
  have hB4 : Bad w4 g s q 0:=by
    rcases hcase with ⟨r',h1,h2⟩ | ⟨q',h1,h2⟩
    · rw [hk] at h1; cases h1
    · rw [hk] at h1
      injection h1 with h1
      subst h1
      exact h2
  have hG4 : w.grownBy w4 (some g):=(hGk.trans (grown_at _ _ _ _)).trans hg4
  have EG : Hid (BadEnd w g s l q (.slice (some ⟨w4.heap.size + 1,0,none⟩) 1 1) [⟨1,k4⟩] ((w4.alloc (.cells k4.cells 104)).alloc (ndOb 1 k4))) :=
    badEnd_one (hG4.trans (World.grownBy_alloc _ _ _)) (hB4.below (below_one _ _)) (by omega) ⟨1,k4⟩ _ (by simp)
  clear c0 c1 c2 f1 f2 hcase
  obtain ⟨a5,bd5,ha5,hd5,hR5⟩:=hB4
  obtain ⟨c0,c1,c2,f1,f2⟩:=hR5.all
  clear hR5
  go_wp2_with fail
  go_loopw [3] (fun x wr => ∃ ms,Hid (BadEnd w g s l q x ms wr)) (fun _ _ => 0)
  case atStart => exact ⟨_,EG⟩
  case round =>
    obtain ⟨ms,HE⟩:=hrel
    clear c0 c1 c2 f1 f2
    obtain ⟨a6,bd6,ha6,hd6,hR6⟩:=HE.out.2.2.2
    obtain ⟨c0,c1,c2,f1,f2⟩:=hR6.all
    clear hR6
    go_wp2
    go_ret
    exact ⟨HE.out.1,_,_,rfl,HE.out.2.1,HE.out.2.2.1,HE.out.2.2.2⟩
theorem atom_one_bad (g : Nat) (s : ByteArray) (l : List UInt8) (hs : s.size ≤ 1000) (h40 : ¬ l.head? = some 40) (h91 : ¬ l.head? = some 91) (h46 : ¬ l.head? = some 46) (h94 : ¬ l.head? = some 94) (h36 : ¬ l.head? = some 36) (q : Nat) (hk : rd1 l = .error q) : AtomBadC g s l q:=by
  intro w hA
  have hgl:=hA.lt
  have HL : Hid (l.length ≤ 1000):=by
    show _ ≤ _
    obtain ⟨a,h1,_⟩:=hA
    omega
  have C1 : Hid (∀ w,At w g s l → _):=fun w h => sees_at g s l 40 40 rfl hs w h
  rw [decide_eq_false h40] at C1
  have C2 : Hid (∀ w,At w g s l → _):=fun w h => sees_at g s l 91 91 rfl hs w h
  rw [decide_eq_false h91] at C2
  have C3 : Hid (∀ w,At w g s l → _):=fun w h => sees_at g s l 46 46 rfl hs w h
  rw [decide_eq_false h46] at C3
  have C4 : Hid (∀ w,At w g s l → _):=fun w h => sees_at g s l 94 94 rfl hs w h
  rw [decide_eq_false h94] at C4
  have C5 : Hid (∀ w,At w g s l → _):=fun w h => sees_at g s l 36 36 rfl hs w h
  rw [decide_eq_false h36] at C5
  go_enter Tryz.func54,Tryz.ntmps54
  go_wp2_with fail
  refine Calls.mono (C1.out _ hA) ?_
  rintro e w1 ⟨rfl,hb1⟩
  have hA1:=hA.below hb1
  go_wp2_with fail
  refine Calls.mono (C2.out _ hA1) ?_
  rintro e w2 ⟨rfl,hb2⟩
  have hA2:=hA1.below hb2
  go_wp2_with fail
  refine Calls.mono (C3.out _ hA2) ?_
  rintro e w3 ⟨rfl,hb3⟩
  have hA3:=hA2.below hb3
  go_wp2_with fail
  refine Calls.mono (C4.out _ hA3) ?_
  rintro e w4 ⟨rfl,hb4⟩
  have hA4:=hA3.below hb4
  go_wp2_with fail
  refine Calls.mono (C5.out _ hA4) ?_
  rintro e w5 ⟨rfl,hb5⟩
  have hA5:=hA4.below hb5
  have hGk : w.grownBy w5 (some g):=(((((below_grown hb1 _).trans (below_grown hb2 _)).trans (below_grown hb3 _)).trans (below_grown hb4 _)).trans (below_grown hb5 _))
  have hA9:=hA5
  clear hA1 hA2 hA3 hA4 hA5 hb1 hb2 hb3 hb4 hb5 C1 C2 C3 C4 C5
  have CB : Hid _:=one_bad g s l _ hA9 hs q hk
  go_wp2_with fail
  refine Calls.mono CB.out ?_
  rintro e w6 ⟨b,hb,rfl,hB6,hg6⟩
  have O1 : Hid (∀ w,_):=fun w => withR_any z4 z4_ok b hb w
  go_wp2_with fail
  refine Calls.mono (O1.out _) ?_
  rintro e w7 ⟨rfl,hb7⟩
  have hG7 : w.grownBy w7 (some g):=(hGk.trans hg6).trans (below_grown hb7 _)
  have hB7:=hB6.below hb7
  have EG : Hid (BadEnd w g s l q (.slice (some ⟨w7.heap.size,0,none⟩) 1 1) [⟨1,z4.add ((b : Nat) : Int)⟩] (w7.alloc (ndOb 1 (z4.add ((b : Nat) : Int))))) :=
    badEnd_one hG7 hB7 (by omega) ⟨1,z4.add ((b : Nat) : Int)⟩ _ rfl
  clear hb7 hA9 O1
  obtain ⟨a5,bd5,ha5,hd5,hR5⟩:=hB7
  obtain ⟨c0,c1,c2,f1,f2⟩:=hR5.all
  clear hR5 hB6
  generalize z4.add ((b : Nat) : Int) = kb at *
  go_wp2_with fail
  go_loopw [3] (fun x wr => ∃ ms,Hid (BadEnd w g s l q x ms wr)) (fun _ _ => 0)
  case atStart => exact ⟨_,EG⟩
  case round =>
    obtain ⟨ms,HE⟩:=hrel
    clear c0 c1 c2 f1 f2
    obtain ⟨a6,bd6,ha6,hd6,hR6⟩:=HE.out.2.2.2
    obtain ⟨c0,c1,c2,f1,f2⟩:=hR6.all
    clear hR6
    go_wp2
    go_ret
    exact ⟨HE.out.1,_,_,rfl,HE.out.2.1,HE.out.2.2.1,HE.out.2.2.2⟩
theorem atom_inOk (g : Nat) (s : ByteArray) (l : List UInt8) (hs : s.size ≤ 1000) (ss : List Rx) (l1 : List UInt8) (hall : AllOkC g s l ss (41 :: l1)) (hlen : (ors ss).flat.length + l1.length ≤ 4000) : AtomOkC g s (40 :: l) (posts (ors ss) l1):=by
  intro w hA
  have hgl:=hA.lt
  have HL : Hid (l.length ≤ 1000):=by
    show _ ≤ _
    obtain ⟨a,h1,_⟩:=hA
    simp at h1
    omega
  have C1 : Hid _:=sees_at g s (40 :: l) 40 40 rfl hs w hA
  rw [show decide ((40 :: l).head? = some 40) = true from rfl] at C1
  go_enter Tryz.func54,Tryz.ntmps54
  go_wp2_with fail
  refine Calls.mono C1.out ?_
  rintro e w1 ⟨rfl,hb1⟩
  have hA1:=hA.below hb1
  obtain ⟨a,hR,ha,hA9⟩:=hA1.step
  obtain ⟨c0,c1,c2,f1,f2⟩:=hR.all
  have hGk:=below_grown hb1 (some g)
  have CB : Hid _:=hall _ hA9
  clear hA1 hb1 C1 hA9 hR
  go_wp2_with fail
  refine Calls.mono CB.out ?_
  rintro e w2 ⟨hg2,u,rfl,ho2,hA2⟩
  have hG2 : w.grownBy w2 (some g):=(hGk.trans (grown_at _ _ _ _)).trans hg2
  have hO2 : NsOwn w2 w.heap.size u (ors ss).flat:=ho2.down ((hGk.trans (grown_at _ _ _ _)).size)
  have C2 : Hid _:=sees_at g s (41 :: l1) 41 41 rfl hs w2 hA2
  rw [show decide ((41 :: l1).head? = some 41) = true from rfl] at C2
  go_wp2_with fail
  refine Calls.mono C2.out ?_
  rintro e w3 ⟨rfl,hb3⟩
  have hA3:=hA2.below hb3
  have hO3:=hO2.below hb3
  have hG3:=hG2.trans (below_grown hb3 _)
  obtain ⟨a3,hR3,ha3,hA4⟩:=hA3.step
  clear c0 c1 c2 f1 f2
  obtain ⟨c0,c1,c2,f1,f2⟩:=hR3.all
  have HI : Hid (SgInv w g s (posts (ors ss) l1) u (w3.setCell ⟨g,1,none⟩ (.int .i64 ((a3 : Int) + 1))) (ors ss) l1) :=
    ⟨hG3.trans (grown_at _ _ _ _),hO3.keptG (grown_at _ _ _ _) hgl,hA4,rfl,hlen⟩
  clear hR3 hA3 hA4 hb3 hO2 hO3 hG2 hG3 ho2 hg2 C2 CB
  go_wp2_with fail
  go_loopw [3] (fun u wr => ∃ t m,Hid (SgInv w g s (posts (ors ss) l1) u wr t m)) (fun _ wr => rdMeas wr g s.size)
  case atStart => exact ⟨_,_,HI⟩
  case round =>
    obtain ⟨t,m,HV⟩:=hrel
    clear HI c0 c1 c2 f1 f2
    have MS : Hid (rdMeas wr g s.size = m.length + 1):=HV.out.at_.meas
    obtain ⟨a1,ha1,hd1,hR1⟩:=HV.out.at_
    obtain ⟨c0,c1,c2,f1,f2⟩:=hR1.all
    clear hd1 hR1
    have D1 : Hid (∀ w,At w g s m → _):=fun w h => sees_at g s m 42 42 rfl hs w h
    have D2 : Hid (∀ w,At w g s m → _):=fun w h => sees_at g s m 43 43 rfl hs w h
    have D3 : Hid (∀ w,At w g s m → _):=fun w h => sees_at g s m 63 63 rfl hs w h
    by_cases m42 : m.head? = some 42
    · rw [decide_eq_true m42] at D1
      rw [m42,show decide (some (42 : UInt8) = some 43) = false from rfl] at D2
      rw [m42,show decide (some (42 : UInt8) = some 63) = false from rfl] at D3
      go_wp2_with fail
      refine Calls.mono (D1.out _ HV.out.at_) ?_
      rintro e x1 ⟨rfl,hx1⟩
      have V1 : Hid _:=HV.out.below hx1
      clear hx1
      go_wp2_with fail
      refine Calls.mono (D2.out _ V1.out.at_) ?_
      rintro e x2 ⟨rfl,hx2⟩
      have V2 : Hid _:=V1.out.below hx2
      clear hx2
      go_wp2_with fail
      refine Calls.mono (D3.out _ V2.out.at_) ?_
      rintro e x3 ⟨rfl,hx3⟩
      have V3 : Hid _:=V2.out.below hx3
      clear hx3 c0 c1 c2 f1 f2
      obtain ⟨em,hml⟩:=tail_len m _ m42
      have hA3:=V3.out.at_
      rw [em] at hA3
      obtain ⟨a5,hR5,ha5,hA5⟩:=hA3.step
      obtain ⟨c0,c1,c2,f1,f2⟩:=hR5.all
      obtain ⟨gb,capb,hub,hg1,hg2,hcb⟩:=V3.out.own.form (t.flat_pos)
      have SG : Hid _:=sg_set V3.out.gr V3.out.own hub hcb hg2 hgl a5 hA5 ⟨5,z4⟩
      subst hub
      clear hR5 hA5 hA3 hcb hg1 hg2
      go_wp2_with (at_builtin; refine wpList_append_ns (by rfl) _ _ (by rfl) x3.heap.size _ (by rfl) _ SG.out.x gb _ _ t.flat (by rfl) (by rfl) SG.out.src t.flat_pos (by have:=HV.out.len; simp; omega) SG.out.sz ?_; intro g7 cap7 x7 ho7 hg7 hb7 hl7; have O7 : Hid _:=ho7; have G7 : Hid _:=hg7; clear ho7 hg7 hb7 hl7)
      have HE : Hid (SgInv w g s (posts (ors ss) l1) (.slice (some ⟨g7,0,none⟩) (1 + t.flat.length) cap7) x7 (.one ⟨5,z4⟩ t) m.tail) :=
        sg_next SG.out O7.out G7.out (by rw [← HV.out.tg]; exact (posts_s5 t m em).symm) (by have:=HV.out.len; simp [Rx.flat]; omega)
      have MSE : Hid (rdMeas x7 g s.size = m.tail.length + 1):=HE.out.at_.meas
      exact ⟨⟨_,_,HE⟩,by rw [MSE.out,MS.out]; omega⟩
    · rw [decide_eq_false m42] at D1
      by_cases m43 : m.head? = some 43
      · rw [decide_eq_true m43] at D2
        rw [m43,show decide (some (43 : UInt8) = some 63) = false from rfl] at D3
        go_wp2_with fail
        refine Calls.mono (D1.out _ HV.out.at_) ?_
        rintro e x1 ⟨rfl,hx1⟩
        have V1 : Hid _:=HV.out.below hx1
        clear hx1
        go_wp2_with fail
        refine Calls.mono (D2.out _ V1.out.at_) ?_
        rintro e x2 ⟨rfl,hx2⟩
        have V2 : Hid _:=V1.out.below hx2
        clear hx2
        go_wp2_with fail
        refine Calls.mono (D3.out _ V2.out.at_) ?_
        rintro e x3 ⟨rfl,hx3⟩
        have V3 : Hid _:=V2.out.below hx3
        clear hx3 c0 c1 c2 f1 f2
        obtain ⟨em,hml⟩:=tail_len m _ m43
        have hA3:=V3.out.at_
        rw [em] at hA3
        obtain ⟨a5,hR5,ha5,hA5⟩:=hA3.step
        obtain ⟨c0,c1,c2,f1,f2⟩:=hR5.all
        obtain ⟨gb,capb,hub,hg1,hg2,hcb⟩:=V3.out.own.form (t.flat_pos)
        have SG : Hid _:=sg_set V3.out.gr V3.out.own hub hcb hg2 hgl a5 hA5 ⟨6,z4⟩
        subst hub
        clear hR5 hA5 hA3 hcb hg1 hg2
        go_wp2_with (at_builtin; refine wpList_append_ns (by rfl) _ _ (by rfl) x3.heap.size _ (by rfl) _ SG.out.x gb _ _ t.flat (by rfl) (by rfl) SG.out.src t.flat_pos (by have:=HV.out.len; simp; omega) SG.out.sz ?_; intro g7 cap7 x7 ho7 hg7 hb7 hl7; have O7 : Hid _:=ho7; have G7 : Hid _:=hg7; clear ho7 hg7 hb7 hl7)
        have HE : Hid (SgInv w g s (posts (ors ss) l1) (.slice (some ⟨g7,0,none⟩) (1 + t.flat.length) cap7) x7 (.one ⟨6,z4⟩ t) m.tail) :=
          sg_next SG.out O7.out G7.out (by rw [← HV.out.tg]; exact (posts_s6 t m em).symm) (by have:=HV.out.len; simp [Rx.flat]; omega)
        have MSE : Hid (rdMeas x7 g s.size = m.tail.length + 1):=HE.out.at_.meas
        exact ⟨⟨_,_,HE⟩,by rw [MSE.out,MS.out]; omega⟩
      · rw [decide_eq_false m43] at D2
        by_cases m63 : m.head? = some 63
        · rw [decide_eq_true m63] at D3
          go_wp2_with fail
          refine Calls.mono (D1.out _ HV.out.at_) ?_
          rintro e x1 ⟨rfl,hx1⟩
          have V1 : Hid _:=HV.out.below hx1
          clear hx1
          go_wp2_with fail
          refine Calls.mono (D2.out _ V1.out.at_) ?_
          rintro e x2 ⟨rfl,hx2⟩
          have V2 : Hid _:=V1.out.below hx2
          clear hx2
          go_wp2_with fail
          refine Calls.mono (D3.out _ V2.out.at_) ?_
          rintro e x3 ⟨rfl,hx3⟩
          have V3 : Hid _:=V2.out.below hx3
          clear hx3 c0 c1 c2 f1 f2
          obtain ⟨em,hml⟩:=tail_len m _ m63
          have hA3:=V3.out.at_
          rw [em] at hA3
          obtain ⟨a5,hR5,ha5,hA5⟩:=hA3.step
          obtain ⟨c0,c1,c2,f1,f2⟩:=hR5.all
          obtain ⟨gb,capb,hub,hg1,hg2,hcb⟩:=V3.out.own.form (t.flat_pos)
          have SG : Hid _:=sg_set V3.out.gr V3.out.own hub hcb hg2 hgl a5 hA5 ⟨7,z4⟩
          subst hub
          clear hR5 hA5 hA3 hcb hg1 hg2
          go_wp2_with (at_builtin; refine wpList_append_ns (by rfl) _ _ (by rfl) x3.heap.size _ (by rfl) _ SG.out.x gb _ _ t.flat (by rfl) (by rfl) SG.out.src t.flat_pos (by have:=HV.out.len; simp; omega) SG.out.sz ?_; intro g7 cap7 x7 ho7 hg7 hb7 hl7; have O7 : Hid _:=ho7; have G7 : Hid _:=hg7; clear ho7 hg7 hb7 hl7)
          have HE : Hid (SgInv w g s (posts (ors ss) l1) (.slice (some ⟨g7,0,none⟩) (1 + t.flat.length) cap7) x7 (.one ⟨7,z4⟩ t) m.tail) :=
            sg_next SG.out O7.out G7.out (by rw [← HV.out.tg]; exact (posts_s7 t m em).symm) (by have:=HV.out.len; simp [Rx.flat]; omega)
          have MSE : Hid (rdMeas x7 g s.size = m.tail.length + 1):=HE.out.at_.meas
          exact ⟨⟨_,_,HE⟩,by rw [MSE.out,MS.out]; omega⟩
        · rw [decide_eq_false m63] at D3
          go_wp2_with fail
          refine Calls.mono (D1.out _ HV.out.at_) ?_
          rintro e x1 ⟨rfl,hx1⟩
          have V1 : Hid _:=HV.out.below hx1
          clear hx1
          go_wp2_with fail
          refine Calls.mono (D2.out _ V1.out.at_) ?_
          rintro e x2 ⟨rfl,hx2⟩
          have V2 : Hid _:=V1.out.below hx2
          clear hx2
          go_wp2_with fail
          refine Calls.mono (D3.out _ V2.out.at_) ?_
          rintro e x3 ⟨rfl,hx3⟩
          have V3 : Hid _:=V2.out.below hx3
          clear hx3 c0 c1 c2 f1 f2
          have HT : Hid ((posts (ors ss) l1) = (t,m)):=by show _ = _; rw [← HV.out.tg,posts_end t m m42 m43 m63]
          go_wp2
          go_ret
          exact ⟨V3.out.gr,_,rfl,by rw [HT.out]; exact V3.out.own,by rw [HT.out]; exact V3.out.at_⟩
theorem atom_inOpen (g : Nat) (s : ByteArray) (l : List UInt8) (hs : s.size ≤ 1000) (ss : List Rx) (l1 : List UInt8) (hall : AllOkC g s l ss l1) (h41 : l1.head? ≠ some 41) (hlen : (ors ss).flat.length ≤ 2 * l.length + 3) : AtomBadC g s (40 :: l) l1.length:=by
  intro w hA
  have hgl:=hA.lt
  have HL : Hid (l.length ≤ 1000):=by
    show _ ≤ _
    obtain ⟨a,h1,_⟩:=hA
    simp at h1
    omega
  have C1 : Hid _:=sees_at g s (40 :: l) 40 40 rfl hs w hA
  rw [show decide ((40 :: l).head? = some 40) = true from rfl] at C1
  go_enter Tryz.func54,Tryz.ntmps54
  go_wp2_with fail
  refine Calls.mono C1.out ?_
  rintro e w1 ⟨rfl,hb1⟩
  have hA1:=hA.below hb1
  obtain ⟨a,hR,ha,hA9⟩:=hA1.step
  obtain ⟨c0,c1,c2,f1,f2⟩:=hR.all
  have hGk:=below_grown hb1 (some g)
  have CB : Hid _:=hall _ hA9
  clear hA1 hb1 C1 hA9 hR
  go_wp2_with fail
  refine Calls.mono CB.out ?_
  rintro e w2 ⟨hg2,u,rfl,ho2,hA2⟩
  have hG2 : w.grownBy w2 (some g):=(hGk.trans (grown_at _ _ _ _)).trans hg2
  have hO2 : NsOwn w2 w.heap.size u (ors ss).flat:=ho2.down ((hGk.trans (grown_at _ _ _ _)).size)
  have C2 : Hid _:=sees_at g s l1 41 41 rfl hs w2 hA2
  rw [decide_eq_false h41] at C2
  go_wp2_with fail
  refine Calls.mono C2.out ?_
  rintro e w3 ⟨rfl,hb3⟩
  have hA3:=hA2.below hb3
  have hO3:=hO2.below hb3
  have hG3:=hG2.trans (below_grown hb3 _)
  obtain ⟨a3,ha3,hd3,hR3⟩:=hA3
  clear c0 c1 c2 f1 f2
  obtain ⟨c0,c1,c2,f1,f2⟩:=hR3.all
  have CF : Hid _:=fail_first g s a3 (-1) a3 w3 hR3 (by omega)
  go_wp2_with fail
  refine Calls.mono CF.out ?_
  rintro e w4 ⟨rfl,hR4,hg4⟩
  clear c0 c1 c2 f1 f2
  obtain ⟨c0,c1,c2,f1,f2⟩:=hR4.all
  have EG : Hid (BadEnd w g s (40 :: l) l1.length u (ors ss).flat (w4.setCell ⟨g,1,none⟩ (.int .i64 ((a3 : Int) + 1)))) :=
    ⟨(hG3.trans hg4).trans (grown_at _ _ _ _),(hO3.keptG hg4 hgl).keptG (grown_at _ _ _ _) hgl,⟨Rx.flat_pos _,by simp; omega⟩,⟨a3 + 1,a3,by simp; omega,by omega,hR4.setAt _⟩⟩
  clear hR3 hR4 hd3 hb3 hO2 hO3 hG2 hG3 ho2 hg2 hg4 C2 CB CF
  go_wp2_with fail
  go_loopw [3] (fun x wr => ∃ ms,Hid (BadEnd w g s (40 :: l) l1.length x ms wr)) (fun _ _ => 0)
  case atStart => exact ⟨_,EG⟩
  case round =>
    obtain ⟨ms,HE⟩:=hrel
    clear c0 c1 c2 f1 f2
    obtain ⟨a6,bd6,ha6,hd6,hR6⟩:=HE.out.2.2.2
    obtain ⟨c0,c1,c2,f1,f2⟩:=hR6.all
    clear hR6
    go_wp2
    go_ret
    exact ⟨HE.out.1,_,_,rfl,HE.out.2.1,HE.out.2.2.1,HE.out.2.2.2⟩
theorem atom_inBad (g : Nat) (s : ByteArray) (l : List UInt8) (hs : s.size ≤ 1000) (k : Nat) (hall : AllBadC g s l k) : AtomBadC g s (40 :: l) k:=by
  intro w hA
  have hgl:=hA.lt
  have HL : Hid (l.length ≤ 1000):=by
    show _ ≤ _
    obtain ⟨a,h1,_⟩:=hA
    simp at h1
    omega
  have C1 : Hid _:=sees_at g s (40 :: l) 40 40 rfl hs w hA
  rw [show decide ((40 :: l).head? = some 40) = true from rfl] at C1
  go_enter Tryz.func54,Tryz.ntmps54
  go_wp2_with fail
  refine Calls.mono C1.out ?_
  rintro e w1 ⟨rfl,hb1⟩
  have hA1:=hA.below hb1
  obtain ⟨a,hR,ha,hA9⟩:=hA1.step
  obtain ⟨c0,c1,c2,f1,f2⟩:=hR.all
  have hGk:=below_grown hb1 (some g)
  have CB : Hid _:=hall _ hA9
  clear hA1 hb1 C1 hA9 hR
  go_wp2_with fail
  refine Calls.mono CB.out ?_
  rintro e w2 ⟨hg2,u,ms,rfl,ho2,hms,hB2⟩
  have hG2 : w.grownBy w2 (some g):=(hGk.trans (grown_at _ _ _ _)).trans hg2
  have hO2 : NsOwn w2 w.heap.size u ms:=ho2.down ((hGk.trans (grown_at _ _ _ _)).size)
  have C2 : Hid _:=sees_no g s k l.length 41 w2 hB2
  go_wp2_with fail
  refine Calls.mono C2.out ?_
  rintro e w3 ⟨rfl,hb3⟩
  have hB3:=hB2.below hb3
  have hO3:=hO2.below hb3
  have hG3:=hG2.trans (below_grown hb3 _)
  obtain ⟨a3,bd3,ha3,hd3,hR3⟩:=hB3
  clear c0 c1 c2 f1 f2
  obtain ⟨c0,c1,c2,f1,f2⟩:=hR3.all
  have CF : Hid _:=fail_more g s a3 bd3 a3 w3 hR3 (by omega)
  have hll:=HL.out
  go_wp2_with fail
  refine Calls.mono CF.out ?_
  rintro e w3 ⟨rfl,rfl⟩
  have EG : Hid (BadEnd w g s (40 :: l) k u ms (w3.setCell ⟨g,1,none⟩ (.int .i64 ((a3 : Int) + 1)))) :=
    ⟨hG3.trans (grown_at _ _ _ _),hO3.keptG (grown_at _ _ _ _) hgl,⟨hms.1,by have:=hms.2; simp; omega⟩,⟨a3 + 1,bd3,by simp; omega,by omega,hR3.setAt _⟩⟩
  clear hR3 hb3 hO2 hO3 hG2 hG3 ho2 hg2 C2 CB CF
  go_wp2_with fail
  go_loopw [3] (fun x wr => ∃ ms,Hid (BadEnd w g s (40 :: l) k x ms wr)) (fun _ _ => 0)
  case atStart => exact ⟨_,EG⟩
  case round =>
    obtain ⟨ms,HE⟩:=hrel
    clear c0 c1 c2 f1 f2
    obtain ⟨a6,bd6,ha6,hd6,hR6⟩:=HE.out.2.2.2
    obtain ⟨c0,c1,c2,f1,f2⟩:=hR6.all
    clear hR6
    go_wp2
    go_ret
    exact ⟨HE.out.1,_,_,rfl,HE.out.2.1,HE.out.2.2.1,HE.out.2.2.2⟩
def cmb (xs : List Rx) : Except Nat (List Rx × List UInt8) → Except Nat (List Rx × List UInt8)
  | .ok p => .ok (xs ++ p.1,p.2)
  | .error k => .error k
def SeqRem (R : Except Nat (List Rx × List UInt8)) (xs : List Rx) (m : List UInt8) : Prop:=∃ R',Seq m R' ∧ R = cmb xs R'
theorem SeqRem.start {R : Except Nat (List Rx × List UInt8)} {m : List UInt8} (h : Seq m R) : SeqRem R [] m:=by
  refine ⟨R,h,?_⟩
  cases R with
  | error k => rfl
  | ok p => rfl
theorem SeqRem.stop {R : Except Nat (List Rx × List UInt8)} {xs : List Rx} {m : List UInt8} (h : SeqRem R xs m) (hs : stp m = true) : R = .ok (xs,m):=by
  obtain ⟨R',h1,rfl⟩:=h
  cases h1 with
  | stop _ _ => simp [cmb]
  | bad _ _ h2 _ => rw [hs] at h2; cases h2
  | more _ _ _ _ _ h2 _ _ => rw [hs] at h2; cases h2
  | moreBad _ _ _ _ h2 _ _ => rw [hs] at h2; cases h2
theorem SeqRem.step {R : Except Nat (List Rx × List UInt8)} {xs : List Rx} {m : List UInt8} (h : SeqRem R xs m) (hs : stp m = false) : (∃ k,R = .error k ∧ Atom m (.error k)) ∨ (∃ x l1,Atom m (.ok (x,l1)) ∧ SeqRem R (xs ++ [x]) l1):=by
  obtain ⟨R',h1,rfl⟩:=h
  cases h1 with
  | stop _ h2 => rw [hs] at h2; cases h2
  | bad _ k _ h2 => exact Or.inl ⟨k,rfl,h2⟩
  | more _ x l1 ys l2 _ h2 h3 => exact Or.inr ⟨x,l1,h2,_,h3,by simp [cmb]⟩
  | moreBad _ x l1 k _ h2 h3 => exact Or.inr ⟨x,l1,h2,_,h3,rfl⟩
def AltRem (R : Except Nat (List Rx × List UInt8)) (ss : List Rx) (m : List UInt8) : Prop:=∃ R',Alt m R' ∧ R = cmb ss R'
theorem AltRem.start {R : Except Nat (List Rx × List UInt8)} {m : List UInt8} (h : Alt m R) : AltRem R [] m:=by
  refine ⟨R,h,?_⟩
  cases R with
  | error k => rfl
  | ok p => rfl
def AltNext (R : Except Nat (List Rx × List UInt8)) (ss : List Rx) : Except Nat (List Rx × List UInt8) → Prop
  | .error k => R = .error k
  | .ok (xs,l1) => (l1.head? ≠ some 124 ∧ R = .ok (ss ++ [cats xs],l1)) ∨ (∃ l2,l1 = 124 :: l2 ∧ AltRem R (ss ++ [cats xs]) l2)
theorem AltRem.step {R : Except Nat (List Rx × List UInt8)} {ss : List Rx} {m : List UInt8} (h : AltRem R ss m) : ∃ RS,Seq m RS ∧ AltNext R ss RS:=by
  obtain ⟨R',h1,rfl⟩:=h
  cases h1 with
  | bad _ k h2 => exact ⟨_,h2,rfl⟩
  | last _ xs l1 h2 h3 => exact ⟨_,h2,Or.inl ⟨h3,rfl⟩⟩
  | more _ xs l1 ts l2 h2 h3 => exact ⟨_,h2,Or.inr ⟨l1,rfl,_,h3,by simp [cmb]⟩⟩
  | moreBad _ xs l1 k h2 h3 => exact ⟨_,h2,Or.inr ⟨l1,rfl,_,h3,rfl⟩⟩
theorem At.kept {w w' : World} {g : Nat} {s : ByteArray} {l : List UInt8} {row : Option Nat} (h : At w g s l) (hg : w.grownBy w' row) (hne : ∀ k,row = some k → k ≠ g) : At w' g s l:=by
  obtain ⟨a,h1,h2,h3⟩:=h
  exact ⟨a,h1,h2,(hg.block g h3.lt (by intro e; exact hne g e.symm rfl)).trans h3⟩
theorem Bad.kept {w w' : World} {g : Nat} {s : ByteArray} {k m : Nat} {row : Option Nat} (h : Bad w g s k m) (hg : w.grownBy w' row) (hne : ∀ k,row = some k → k ≠ g) : Bad w' g s k m:=by
  obtain ⟨a,bd,h1,h2,h3⟩:=h
  exact ⟨a,bd,h1,h2,(hg.block g h3.lt (by intro e; exact hne g e.symm rfl)).trans h3⟩
structure AlS (w : World) (g : Nat) (wr : World) (sv : Value) (svs : List Value) (snss : List (List Nd)) : Prop where
  gr : w.grownBy wr (some g)
  gl : g < w.heap.size
  row : VsOwn wr w.heap.size sv svs
  pool : Pool wr w.heap.size svs snss
theorem AlS.below {w wr w' : World} {g : Nat} {sv : Value} {svs : List Value} {snss : List (List Nd)} (h : AlS w g wr sv svs snss) (hb : Below wr.heap.size wr w') : AlS w g w' sv svs snss :=
  ⟨h.gr.trans (below_grown hb _),h.gl,h.row.below hb,h.pool.map fun _ _ h => h.below hb⟩
theorem AlS.grown {w wr w' : World} {g : Nat} {sv : Value} {svs : List Value} {snss : List (List Nd)} (h : AlS w g wr sv svs snss) (hb : wr.grownBy w' (some g)) : AlS w g w' sv svs snss :=
  ⟨h.gr.trans hb,h.gl,h.row.keptG hb h.gl,h.pool.map fun _ _ h' => h'.keptG hb h.gl⟩
theorem AlS.push {w W w' : World} {g : Nat} {sv sv' : Value} {svs : List Value} {snss : List (List Nd)} {u : Value} {ns : List Nd} (h : AlS w g W sv svs snss) (hu : NsOwn W w.heap.size u ns) (h0 : 0 < ns.length) (hg : W.grownBy w' sv.ownBlock) (hr : VsOwn w' w.heap.size sv' (svs ++ [u])) : AlS w g w' sv' (svs ++ [u]) (snss ++ [ns]):=by
  refine ⟨h.gr.andThen hg (fun j hj => Or.inl (h.row.block j hj).1),h.gl,hr,?_⟩
  exact Pool.snoc (hu.keptV h.row hg) h0 (h.pool.map fun _ _ h' => h'.keptV h.row hg)
theorem AlS.ne {w W : World} {g : Nat} {sv : Value} {svs : List Value} {snss : List (List Nd)} (h : AlS w g W sv svs snss) : ∀ k,sv.ownBlock = some k → k ≠ g:=by
  intro k hk
  have:=(h.row.block k hk).1
  have:=h.gl
  omega
structure AtS (w : World) (g NB : Nat) (wr : World) (sv : Value) (svs : List Value) (snss : List (List Nd)) (av : Value) (avs : List Value) (anss : List (List Nd)) : Prop extends AlS w g wr sv svs snss where
  arow : VsOwn wr NB av avs
  apool : Pool wr w.heap.size avs anss
  nb : w.heap.size ≤ NB ∧ NB ≤ wr.heap.size
  sb : ∀ k,sv.ownBlock = some k → k < NB
theorem AtS.below {w wr w' : World} {g NB : Nat} {sv : Value} {svs : List Value} {snss : List (List Nd)} {av : Value} {avs : List Value} {anss : List (List Nd)} (h : AtS w g NB wr sv svs snss av avs anss) (hb : Below wr.heap.size wr w') : AtS w g NB w' sv svs snss av avs anss :=
  { h.toAlS.below hb with arow:=h.arow.below hb,apool:=h.apool.map fun _ _ h => h.below hb,nb:=⟨h.nb.1,Nat.le_trans h.nb.2 hb.size⟩,sb:=h.sb }
theorem AtS.grown {w wr w' : World} {g NB : Nat} {sv : Value} {svs : List Value} {snss : List (List Nd)} {av : Value} {avs : List Value} {anss : List (List Nd)} (h : AtS w g NB wr sv svs snss av avs anss) (hb : wr.grownBy w' (some g)) : AtS w g NB w' sv svs snss av avs anss :=
  { h.toAlS.grown hb with arow:=h.arow.keptG hb (Nat.lt_of_lt_of_le h.gl h.nb.1),apool:=h.apool.map fun _ _ h' => h'.keptG hb h.gl,nb:=⟨h.nb.1,Nat.le_trans h.nb.2 hb.size⟩,sb:=h.sb }
theorem AtS.push {w W w' : World} {g NB : Nat} {sv : Value} {svs : List Value} {snss : List (List Nd)} {av av' : Value} {avs : List Value} {anss : List (List Nd)} {u : Value} {ns : List Nd} (h : AtS w g NB W sv svs snss av avs anss) (hu : NsOwn W w.heap.size u ns) (h0 : 0 < ns.length) (hg : W.grownBy w' av.ownBlock) (hr : VsOwn w' NB av' (avs ++ [u])) : AtS w g NB w' sv svs snss av' (avs ++ [u]) (anss ++ [ns]):=by
  refine { gr:=h.gr.andThen hg (fun j hj => Or.inl ?_),gl:=h.gl,row:=?_,pool:=h.pool.map fun _ _ h' => h'.keptV h.arow hg,arow:=hr,apool:=Pool.snoc (hu.keptV h.arow hg) h0 (h.apool.map fun _ _ h' => h'.keptV h.arow hg),nb:=⟨h.nb.1,Nat.le_trans h.nb.2 hg.size⟩,sb:=h.sb }
  · exact Nat.le_trans h.nb.1 (h.arow.block j hj).1
  · refine World.ownsRow.kept h.row hg ?_
    cases hv : sv.ownBlock with
    | none => exact Or.inl rfl
    | some x =>
      refine Or.inr fun e => ?_
      have h1:=h.sb x hv
      have h2:=(h.arow.block x e.symm).1
      omega
theorem AtS.ne {w W : World} {g NB : Nat} {sv : Value} {svs : List Value} {snss : List (List Nd)} {av : Value} {avs : List Value} {anss : List (List Nd)} (h : AtS w g NB W sv svs snss av avs anss) : ∀ k,av.ownBlock = some k → k ≠ g:=by
  intro k hk
  have:=(h.arow.block k hk).1
  have:=h.gl
  have:=h.nb.1
  omega
theorem AlS.open_ {w wr : World} {g : Nat} {sv : Value} {svs : List Value} {snss : List (List Nd)} (h : AlS w g wr sv svs snss) : AtS w g wr.heap.size wr sv svs snss (.slice none 0 0) [] [] :=
  { h with arow:=VsOwn.nil _ _,apool:=trivial,nb:=⟨h.gr.size,Nat.le_refl _⟩,sb:=fun k hk => (h.row.block k hk).2.1 }
theorem orL_len1 : ∀ xs : List (List Nd),xs ≠ [] → (orL xs).length + 1 ≤ szL xs + xs.length
  | [],h => absurd rfl h
  | [x],_ => by simp [orL,szL]
  | x :: y :: r,_ => by
    have:=orL_len1 (y :: r) (by simp)
    simp [orL,szL] at this ⊢; omega
theorem catL_drop (xs : List (List Nd)) (k : Nat) (x : List Nd) (hx : xs[k]? = some x) : catL (xs.drop k) = if k + 1 = xs.length then x else ⟨3,z4⟩ :: (x ++ catL (xs.drop (k + 1))):=by
  have hk : k < xs.length:=by
    rcases Nat.lt_or_ge k xs.length with h | h
    · exact h
    · rw [List.getElem?_eq_none h] at hx; cases hx
  rw [List.drop_eq_getElem_cons hk]
  rw [List.getElem?_eq_getElem hk] at hx
  rw [Option.some.inj hx]
  split
  · rename_i h
    rw [List.drop_eq_nil_of_le (by omega)]
    rfl
  · rename_i h
    have h2 : k + 1 < xs.length:=by omega
    rw [List.drop_eq_getElem_cons h2]
    rfl
theorem orL_drop (xs : List (List Nd)) (k : Nat) (x : List Nd) (hx : xs[k]? = some x) : orL (xs.drop k) = if k + 1 = xs.length then x else ⟨4,z4⟩ :: (x ++ orL (xs.drop (k + 1))):=by
  have hk : k < xs.length:=by
    rcases Nat.lt_or_ge k xs.length with h | h
    · exact h
    · rw [List.getElem?_eq_none h] at hx; cases hx
  rw [List.drop_eq_getElem_cons hk]
  rw [List.getElem?_eq_getElem hk] at hx
  rw [Option.some.inj hx]
  split
  · rename_i h
    rw [List.drop_eq_nil_of_le (by omega)]
    rfl
  · rename_i h
    have h2 : k + 1 < xs.length:=by omega
    rw [List.drop_eq_getElem_cons h2]
    rfl
end Go.Proofs.YtcjghhedphmhkaaGreatDoor
