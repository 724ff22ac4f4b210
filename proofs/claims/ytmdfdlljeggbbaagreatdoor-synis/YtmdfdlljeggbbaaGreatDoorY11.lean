/- What the document's own reader does: atom, where no bracket opens, second part. -/
import Derived.Test.YtmdfdlljeggbbaaGreatDoorY10
namespace Go.Proofs.YtmdfdlljeggbbaaGreatDoor
set_option linter.unusedSimpArgs false
set_option linter.unusedVariables false
set_option maxRecDepth 100000
open Go.RowKit

theorem sg_start {w : World} {g : Nat} {s : ByteArray} {W : World} {m : List UInt8} (hgr : w.grownBy W (some g)) (hA : At W g s m) (n : Nd) (hl : m.length ≤ 1000) (b : Nat) (hb : b = W.heap.size) : SgInv w g s (posts (.leaf n) m) (.slice (some ⟨b, 0, none⟩) 1 1) (W.alloc (ndOb n.op n.c)) (.leaf n) m := by
  subst hb
  exact ⟨hgr.trans (World.grownBy_alloc _ _ _), (own_one W n).down hgr.size, hA.below (below_one _ _), rfl, by simp [Rx.flat]; omega⟩
theorem At.len {w : World} {g : Nat} {s : ByteArray} {l : List UInt8} (h : At w g s l) : l.length ≤ s.size := by
  obtain ⟨a, h1, _⟩ := h
  omega
set_option maxHeartbeats 8000000 in
theorem atom_end (g : Nat) (s : ByteArray) (l : List UInt8) (hs : s.size ≤ 1000) (hh : l.head? = some 36) : AtomOkC g s l (posts (.leaf ⟨9, z4⟩) l.tail) := by
  intro w hA
  have hgl := hA.lt
  have HL : Hid (l.length ≤ 1000) := by
    show _ ≤ _
    obtain ⟨a, h1, _⟩ := hA
    omega
  have C1 : Hid (∀ w, At w g s l → _) := fun w h => sees_at g s l 40 40 rfl hs w h
  have C2 : Hid (∀ w, At w g s l → _) := fun w h => sees_at g s l 91 91 rfl hs w h
  have C3 : Hid (∀ w, At w g s l → _) := fun w h => sees_at g s l 46 46 rfl hs w h
  have C4 : Hid (∀ w, At w g s l → _) := fun w h => sees_at g s l 94 94 rfl hs w h
  have C5 : Hid (∀ w, At w g s l → _) := fun w h => sees_at g s l 36 36 rfl hs w h
  rw [hh] at C1 C2 C3 C4 C5
  go_enter Tryz.func35, Tryz.ntmps35
  go_wp2_with fail
  refine Calls.mono (C1.out _ hA) ?_
  rintro e w1 ⟨rfl, hb1⟩
  have hA1 := hA.below hb1
  go_wp2_with fail
  refine Calls.mono (C2.out _ hA1) ?_
  rintro e w2 ⟨rfl, hb2⟩
  have hA2 := hA1.below hb2
  go_wp2_with fail
  refine Calls.mono (C3.out _ hA2) ?_
  rintro e w3 ⟨rfl, hb3⟩
  have hA3 := hA2.below hb3
  go_wp2_with fail
  refine Calls.mono (C4.out _ hA3) ?_
  rintro e w4 ⟨rfl, hb4⟩
  have hA4 := hA3.below hb4
  go_wp2_with fail
  refine Calls.mono (C5.out _ hA4) ?_
  rintro e w5 ⟨rfl, hb5⟩
  have hA5 := hA4.below hb5
  have hGk : w.grownBy w5 (some g) := (((((below_grown hb1 _).trans (below_grown hb2 _)).trans (below_grown hb3 _)).trans (below_grown hb4 _)).trans (below_grown hb5 _))
  obtain ⟨el, hll⟩ := tail_len l _ hh
  rw [el] at hA5
  obtain ⟨a, hR, ha, hA9⟩ := hA5.step
  obtain ⟨c0, c1, c2, f1, f2⟩ := hR.all
  clear hA1 hA2 hA3 hA4 hA5 hb1 hb2 hb3 hb4 hb5 C1 C2 C3 C4 C5
  go_wp2_with fail
  have HI : Hid (SgInv w g s (posts (.leaf ⟨9, z4⟩) l.tail) (.slice (some ⟨w5.heap.size, 0, none⟩) 1 1) ((w5.setCell ⟨g, 1, none⟩ (.int .i64 ((a : Int) + 1))).alloc (ndOb 9 z4)) (.leaf ⟨9, z4⟩) l.tail) := sg_first hGk hA9 ⟨9, z4⟩ (by have := HL.out; omega)
  go_loopw [3] (fun u wr => ∃ t m, Hid (SgInv w g s (posts (.leaf ⟨9, z4⟩) l.tail) u wr t m)) (fun _ wr => rdMeas wr g s.size)
  case atStart => exact ⟨_, _, HI⟩
  case round =>
    obtain ⟨t, m, HV⟩ := hrel
    clear HI c0 c1 c2 f1 f2
    have MS : Hid (rdMeas wr g s.size = m.length + 1) := HV.out.at_.meas
    obtain ⟨a1, ha1, hd1, hR1⟩ := HV.out.at_
    obtain ⟨c0, c1, c2, f1, f2⟩ := hR1.all
    clear hd1 hR1
    have D1 : Hid (∀ w, At w g s m → _) := fun w h => sees_at g s m 42 42 rfl hs w h
    have D2 : Hid (∀ w, At w g s m → _) := fun w h => sees_at g s m 43 43 rfl hs w h
    have D3 : Hid (∀ w, At w g s m → _) := fun w h => sees_at g s m 63 63 rfl hs w h
    by_cases m42 : m.head? = some 42
    · rw [decide_eq_true m42] at D1
      rw [m42, show decide (some (42 : UInt8) = some 43) = false from rfl] at D2
      rw [m42, show decide (some (42 : UInt8) = some 63) = false from rfl] at D3
      go_wp2_with fail
      refine Calls.mono (D1.out _ HV.out.at_) ?_
      rintro e x1 ⟨rfl, hx1⟩
      have V1 : Hid _ := HV.out.below hx1
      clear hx1
      go_wp2_with fail
      refine Calls.mono (D2.out _ V1.out.at_) ?_
      rintro e x2 ⟨rfl, hx2⟩
      have V2 : Hid _ := V1.out.below hx2
      clear hx2
      go_wp2_with fail
      refine Calls.mono (D3.out _ V2.out.at_) ?_
      rintro e x3 ⟨rfl, hx3⟩
      have V3 : Hid _ := V2.out.below hx3
      clear hx3 c0 c1 c2 f1 f2
      obtain ⟨em, hml⟩ := tail_len m _ m42
      have hA3 := V3.out.at_
      rw [em] at hA3
      obtain ⟨a5, hR5, ha5, hA5⟩ := hA3.step
      obtain ⟨c0, c1, c2, f1, f2⟩ := hR5.all
      obtain ⟨gb, capb, hub, hg1, hg2, hcb⟩ := V3.out.own.form (t.flat_pos)
      have SG : Hid _ := sg_set V3.out.gr V3.out.own hub hcb hg2 hgl a5 hA5 ⟨5, z4⟩
      subst hub
      clear hR5 hA5 hA3 hcb hg1 hg2
      go_wp2_with (at_builtin; refine wpList_append_ns (by rfl) _ _ (by rfl) x3.heap.size _ (by rfl) _ SG.out.x gb _ _ t.flat (by rfl) (by rfl) SG.out.src t.flat_pos (by have := HV.out.len; simp; omega) SG.out.sz ?_; intro g7 cap7 x7 ho7 hg7 hb7 hl7; have O7 : Hid _ := ho7; have G7 : Hid _ := hg7; clear ho7 hg7 hb7 hl7)
      have HE : Hid (SgInv w g s (posts (.leaf ⟨9, z4⟩) l.tail) (.slice (some ⟨g7, 0, none⟩) (1 + t.flat.length) cap7) x7 (.one ⟨5, z4⟩ t) m.tail) :=
        sg_next SG.out O7.out G7.out (by rw [← HV.out.tg]; exact (posts_s5 t m em).symm) (by have := HV.out.len; simp [Rx.flat]; omega)
      have MSE : Hid (rdMeas x7 g s.size = m.tail.length + 1) := HE.out.at_.meas
      exact ⟨⟨_, _, HE⟩, by rw [MSE.out, MS.out]; omega⟩
    · rw [decide_eq_false m42] at D1
      by_cases m43 : m.head? = some 43
      · rw [decide_eq_true m43] at D2
        rw [m43, show decide (some (43 : UInt8) = some 63) = false from rfl] at D3
        go_wp2_with fail
        refine Calls.mono (D1.out _ HV.out.at_) ?_
        rintro e x1 ⟨rfl, hx1⟩
        have V1 : Hid _ := HV.out.below hx1
        clear hx1
        go_wp2_with fail
        refine Calls.mono (D2.out _ V1.out.at_) ?_
        rintro e x2 ⟨rfl, hx2⟩
        have V2 : Hid _ := V1.out.below hx2
        clear hx2
        go_wp2_with fail
        refine Calls.mono (D3.out _ V2.out.at_) ?_
        rintro e x3 ⟨rfl, hx3⟩
        have V3 : Hid _ := V2.out.below hx3
        clear hx3 c0 c1 c2 f1 f2
        obtain ⟨em, hml⟩ := tail_len m _ m43
        have hA3 := V3.out.at_
        rw [em] at hA3
        obtain ⟨a5, hR5, ha5, hA5⟩ := hA3.step
        obtain ⟨c0, c1, c2, f1, f2⟩ := hR5.all
        obtain ⟨gb, capb, hub, hg1, hg2, hcb⟩ := V3.out.own.form (t.flat_pos)
        have SG : Hid _ := sg_set V3.out.gr V3.out.own hub hcb hg2 hgl a5 hA5 ⟨6, z4⟩
        subst hub
        clear hR5 hA5 hA3 hcb hg1 hg2
        go_wp2_with (at_builtin; refine wpList_append_ns (by rfl) _ _ (by rfl) x3.heap.size _ (by rfl) _ SG.out.x gb _ _ t.flat (by rfl) (by rfl) SG.out.src t.flat_pos (by have := HV.out.len; simp; omega) SG.out.sz ?_; intro g7 cap7 x7 ho7 hg7 hb7 hl7; have O7 : Hid _ := ho7; have G7 : Hid _ := hg7; clear ho7 hg7 hb7 hl7)
        have HE : Hid (SgInv w g s (posts (.leaf ⟨9, z4⟩) l.tail) (.slice (some ⟨g7, 0, none⟩) (1 + t.flat.length) cap7) x7 (.one ⟨6, z4⟩ t) m.tail) :=
          sg_next SG.out O7.out G7.out (by rw [← HV.out.tg]; exact (posts_s6 t m em).symm) (by have := HV.out.len; simp [Rx.flat]; omega)
        have MSE : Hid (rdMeas x7 g s.size = m.tail.length + 1) := HE.out.at_.meas
        exact ⟨⟨_, _, HE⟩, by rw [MSE.out, MS.out]; omega⟩
      · rw [decide_eq_false m43] at D2
        by_cases m63 : m.head? = some 63
        · rw [decide_eq_true m63] at D3
          go_wp2_with fail
          refine Calls.mono (D1.out _ HV.out.at_) ?_
          rintro e x1 ⟨rfl, hx1⟩
          have V1 : Hid _ := HV.out.below hx1
          clear hx1
          go_wp2_with fail
          refine Calls.mono (D2.out _ V1.out.at_) ?_
          rintro e x2 ⟨rfl, hx2⟩
          have V2 : Hid _ := V1.out.below hx2
          clear hx2
          go_wp2_with fail
          refine Calls.mono (D3.out _ V2.out.at_) ?_
          rintro e x3 ⟨rfl, hx3⟩
          have V3 : Hid _ := V2.out.below hx3
          clear hx3 c0 c1 c2 f1 f2
          obtain ⟨em, hml⟩ := tail_len m _ m63
          have hA3 := V3.out.at_
          rw [em] at hA3
          obtain ⟨a5, hR5, ha5, hA5⟩ := hA3.step
          obtain ⟨c0, c1, c2, f1, f2⟩ := hR5.all
          obtain ⟨gb, capb, hub, hg1, hg2, hcb⟩ := V3.out.own.form (t.flat_pos)
          have SG : Hid _ := sg_set V3.out.gr V3.out.own hub hcb hg2 hgl a5 hA5 ⟨7, z4⟩
          subst hub
          clear hR5 hA5 hA3 hcb hg1 hg2
          go_wp2_with (at_builtin; refine wpList_append_ns (by rfl) _ _ (by rfl) x3.heap.size _ (by rfl) _ SG.out.x gb _ _ t.flat (by rfl) (by rfl) SG.out.src t.flat_pos (by have := HV.out.len; simp; omega) SG.out.sz ?_; intro g7 cap7 x7 ho7 hg7 hb7 hl7; have O7 : Hid _ := ho7; have G7 : Hid _ := hg7; clear ho7 hg7 hb7 hl7)
          have HE : Hid (SgInv w g s (posts (.leaf ⟨9, z4⟩) l.tail) (.slice (some ⟨g7, 0, none⟩) (1 + t.flat.length) cap7) x7 (.one ⟨7, z4⟩ t) m.tail) :=
            sg_next SG.out O7.out G7.out (by rw [← HV.out.tg]; exact (posts_s7 t m em).symm) (by have := HV.out.len; simp [Rx.flat]; omega)
          have MSE : Hid (rdMeas x7 g s.size = m.tail.length + 1) := HE.out.at_.meas
          exact ⟨⟨_, _, HE⟩, by rw [MSE.out, MS.out]; omega⟩
        · rw [decide_eq_false m63] at D3
          go_wp2_with fail
          refine Calls.mono (D1.out _ HV.out.at_) ?_
          rintro e x1 ⟨rfl, hx1⟩
          have V1 : Hid _ := HV.out.below hx1
          clear hx1
          go_wp2_with fail
          refine Calls.mono (D2.out _ V1.out.at_) ?_
          rintro e x2 ⟨rfl, hx2⟩
          have V2 : Hid _ := V1.out.below hx2
          clear hx2
          go_wp2_with fail
          refine Calls.mono (D3.out _ V2.out.at_) ?_
          rintro e x3 ⟨rfl, hx3⟩
          have V3 : Hid _ := V2.out.below hx3
          clear hx3 c0 c1 c2 f1 f2
          have HT : Hid ((posts (.leaf ⟨9, z4⟩) l.tail) = (t, m)) := by show _ = _; rw [← HV.out.tg, posts_end t m m42 m43 m63]
          go_wp2
          go_ret
          exact ⟨V3.out.gr, _, rfl, by rw [HT.out]; exact V3.out.own, by rw [HT.out]; exact V3.out.at_⟩
set_option maxHeartbeats 8000000 in
theorem atom_dot (g : Nat) (s : ByteArray) (l : List UInt8) (hs : s.size ≤ 1000) (hh : l.head? = some 46) : AtomOkC g s l (posts (.leaf ⟨1, dotC⟩) l.tail) := by
  intro w hA
  have hgl := hA.lt
  have HL : Hid (l.length ≤ 1000) := by
    show _ ≤ _
    obtain ⟨a, h1, _⟩ := hA
    omega
  have C1 : Hid (∀ w, At w g s l → _) := fun w h => sees_at g s l 40 40 rfl hs w h
  have C2 : Hid (∀ w, At w g s l → _) := fun w h => sees_at g s l 91 91 rfl hs w h
  have C3 : Hid (∀ w, At w g s l → _) := fun w h => sees_at g s l 46 46 rfl hs w h
  rw [hh] at C1 C2 C3
  go_enter Tryz.func35, Tryz.ntmps35
  go_wp2_with fail
  refine Calls.mono (C1.out _ hA) ?_
  rintro e w1 ⟨rfl, hb1⟩
  have hA1 := hA.below hb1
  go_wp2_with fail
  refine Calls.mono (C2.out _ hA1) ?_
  rintro e w2 ⟨rfl, hb2⟩
  have hA2 := hA1.below hb2
  go_wp2_with fail
  refine Calls.mono (C3.out _ hA2) ?_
  rintro e w3 ⟨rfl, hb3⟩
  have hA3 := hA2.below hb3
  have hGk : w.grownBy w3 (some g) := (((below_grown hb1 _).trans (below_grown hb2 _)).trans (below_grown hb3 _))
  obtain ⟨el, hll⟩ := tail_len l _ hh
  rw [el] at hA3
  obtain ⟨a, hR, ha, hA9⟩ := hA3.step
  obtain ⟨c0, c1, c2, f1, f2⟩ := hR.all
  clear hA1 hA2 hA3 hb1 hb2 hb3 C1 C2 C3
  have O1 : Hid (∀ w, _) := fun w => ofText_any ⟨#[10]⟩ w (by decide)
  have O2 : Hid (∀ w, _) := fun w => others_any (C4.ofL [10]) (ofL_ok _) w
  go_wp2_with fail
  refine Calls.mono (O1.out _) ?_
  rintro e w4 ⟨rfl, hb4⟩
  go_wp2_with fail
  refine Calls.mono (O2.out _) ?_
  rintro e w5 ⟨rfl, hb5⟩
  have hG5 : w.grownBy w5 (some g) := ((hGk.trans (grown_at _ _ _ _)).trans (below_grown hb4 _)).trans (below_grown hb5 _)
  have hA5 := (hA9.below hb4).below hb5
  have HI : Hid (SgInv w g s (posts (.leaf ⟨1, dotC⟩) l.tail) (.slice (some ⟨w5.heap.size, 0, none⟩) 1 1) (w5.alloc (ndOb 1 dotC)) (.leaf ⟨1, dotC⟩) l.tail) := sg_start hG5 hA5 ⟨1, dotC⟩ (by have := HL.out; omega) _ rfl
  clear hb4 hb5 hA9
  obtain ⟨a5, ha5, hd5, hR5⟩ := hA5
  clear c0 c1 c2 f1 f2
  obtain ⟨c0, c1, c2, f1, f2⟩ := hR5.all
  clear hR5 hd5
  go_wp2_with fail
  go_loopw [3] (fun u wr => ∃ t m, Hid (SgInv w g s (posts (.leaf ⟨1, dotC⟩) l.tail) u wr t m)) (fun _ wr => rdMeas wr g s.size)
  case atStart => exact ⟨_, _, HI⟩
  case round =>
    obtain ⟨t, m, HV⟩ := hrel
    clear HI c0 c1 c2 f1 f2
    have MS : Hid (rdMeas wr g s.size = m.length + 1) := HV.out.at_.meas
    obtain ⟨a1, ha1, hd1, hR1⟩ := HV.out.at_
    obtain ⟨c0, c1, c2, f1, f2⟩ := hR1.all
    clear hd1 hR1
    have D1 : Hid (∀ w, At w g s m → _) := fun w h => sees_at g s m 42 42 rfl hs w h
    have D2 : Hid (∀ w, At w g s m → _) := fun w h => sees_at g s m 43 43 rfl hs w h
    have D3 : Hid (∀ w, At w g s m → _) := fun w h => sees_at g s m 63 63 rfl hs w h
    by_cases m42 : m.head? = some 42
    · rw [decide_eq_true m42] at D1
      rw [m42, show decide (some (42 : UInt8) = some 43) = false from rfl] at D2
      rw [m42, show decide (some (42 : UInt8) = some 63) = false from rfl] at D3
      go_wp2_with fail
      refine Calls.mono (D1.out _ HV.out.at_) ?_
      rintro e x1 ⟨rfl, hx1⟩
      have V1 : Hid _ := HV.out.below hx1
      clear hx1
      go_wp2_with fail
      refine Calls.mono (D2.out _ V1.out.at_) ?_
      rintro e x2 ⟨rfl, hx2⟩
      have V2 : Hid _ := V1.out.below hx2
      clear hx2
      go_wp2_with fail
      refine Calls.mono (D3.out _ V2.out.at_) ?_
      rintro e x3 ⟨rfl, hx3⟩
      have V3 : Hid _ := V2.out.below hx3
      clear hx3 c0 c1 c2 f1 f2
      obtain ⟨em, hml⟩ := tail_len m _ m42
      have hA3 := V3.out.at_
      rw [em] at hA3
      obtain ⟨a5, hR5, ha5, hA5⟩ := hA3.step
      obtain ⟨c0, c1, c2, f1, f2⟩ := hR5.all
      obtain ⟨gb, capb, hub, hg1, hg2, hcb⟩ := V3.out.own.form (t.flat_pos)
      have SG : Hid _ := sg_set V3.out.gr V3.out.own hub hcb hg2 hgl a5 hA5 ⟨5, z4⟩
      subst hub
      clear hR5 hA5 hA3 hcb hg1 hg2
      go_wp2_with (at_builtin; refine wpList_append_ns (by rfl) _ _ (by rfl) x3.heap.size _ (by rfl) _ SG.out.x gb _ _ t.flat (by rfl) (by rfl) SG.out.src t.flat_pos (by have := HV.out.len; simp; omega) SG.out.sz ?_; intro g7 cap7 x7 ho7 hg7 hb7 hl7; have O7 : Hid _ := ho7; have G7 : Hid _ := hg7; clear ho7 hg7 hb7 hl7)
      have HE : Hid (SgInv w g s (posts (.leaf ⟨1, dotC⟩) l.tail) (.slice (some ⟨g7, 0, none⟩) (1 + t.flat.length) cap7) x7 (.one ⟨5, z4⟩ t) m.tail) :=
        sg_next SG.out O7.out G7.out (by rw [← HV.out.tg]; exact (posts_s5 t m em).symm) (by have := HV.out.len; simp [Rx.flat]; omega)
      have MSE : Hid (rdMeas x7 g s.size = m.tail.length + 1) := HE.out.at_.meas
      exact ⟨⟨_, _, HE⟩, by rw [MSE.out, MS.out]; omega⟩
    · rw [decide_eq_false m42] at D1
      by_cases m43 : m.head? = some 43
      · rw [decide_eq_true m43] at D2
        rw [m43, show decide (some (43 : UInt8) = some 63) = false from rfl] at D3
        go_wp2_with fail
        refine Calls.mono (D1.out _ HV.out.at_) ?_
        rintro e x1 ⟨rfl, hx1⟩
        have V1 : Hid _ := HV.out.below hx1
        clear hx1
        go_wp2_with fail
        refine Calls.mono (D2.out _ V1.out.at_) ?_
        rintro e x2 ⟨rfl, hx2⟩
        have V2 : Hid _ := V1.out.below hx2
        clear hx2
        go_wp2_with fail
        refine Calls.mono (D3.out _ V2.out.at_) ?_
        rintro e x3 ⟨rfl, hx3⟩
        have V3 : Hid _ := V2.out.below hx3
        clear hx3 c0 c1 c2 f1 f2
        obtain ⟨em, hml⟩ := tail_len m _ m43
        have hA3 := V3.out.at_
        rw [em] at hA3
        obtain ⟨a5, hR5, ha5, hA5⟩ := hA3.step
        obtain ⟨c0, c1, c2, f1, f2⟩ := hR5.all
        obtain ⟨gb, capb, hub, hg1, hg2, hcb⟩ := V3.out.own.form (t.flat_pos)
        have SG : Hid _ := sg_set V3.out.gr V3.out.own hub hcb hg2 hgl a5 hA5 ⟨6, z4⟩
        subst hub
        clear hR5 hA5 hA3 hcb hg1 hg2
        go_wp2_with (at_builtin; refine wpList_append_ns (by rfl) _ _ (by rfl) x3.heap.size _ (by rfl) _ SG.out.x gb _ _ t.flat (by rfl) (by rfl) SG.out.src t.flat_pos (by have := HV.out.len; simp; omega) SG.out.sz ?_; intro g7 cap7 x7 ho7 hg7 hb7 hl7; have O7 : Hid _ := ho7; have G7 : Hid _ := hg7; clear ho7 hg7 hb7 hl7)
        have HE : Hid (SgInv w g s (posts (.leaf ⟨1, dotC⟩) l.tail) (.slice (some ⟨g7, 0, none⟩) (1 + t.flat.length) cap7) x7 (.one ⟨6, z4⟩ t) m.tail) :=
          sg_next SG.out O7.out G7.out (by rw [← HV.out.tg]; exact (posts_s6 t m em).symm) (by have := HV.out.len; simp [Rx.flat]; omega)
        have MSE : Hid (rdMeas x7 g s.size = m.tail.length + 1) := HE.out.at_.meas
        exact ⟨⟨_, _, HE⟩, by rw [MSE.out, MS.out]; omega⟩
      · rw [decide_eq_false m43] at D2
        by_cases m63 : m.head? = some 63
        · rw [decide_eq_true m63] at D3
          go_wp2_with fail
          refine Calls.mono (D1.out _ HV.out.at_) ?_
          rintro e x1 ⟨rfl, hx1⟩
          have V1 : Hid _ := HV.out.below hx1
          clear hx1
          go_wp2_with fail
          refine Calls.mono (D2.out _ V1.out.at_) ?_
          rintro e x2 ⟨rfl, hx2⟩
          have V2 : Hid _ := V1.out.below hx2
          clear hx2
          go_wp2_with fail
          refine Calls.mono (D3.out _ V2.out.at_) ?_
          rintro e x3 ⟨rfl, hx3⟩
          have V3 : Hid _ := V2.out.below hx3
          clear hx3 c0 c1 c2 f1 f2
          obtain ⟨em, hml⟩ := tail_len m _ m63
          have hA3 := V3.out.at_
          rw [em] at hA3
          obtain ⟨a5, hR5, ha5, hA5⟩ := hA3.step
          obtain ⟨c0, c1, c2, f1, f2⟩ := hR5.all
          obtain ⟨gb, capb, hub, hg1, hg2, hcb⟩ := V3.out.own.form (t.flat_pos)
          have SG : Hid _ := sg_set V3.out.gr V3.out.own hub hcb hg2 hgl a5 hA5 ⟨7, z4⟩
          subst hub
          clear hR5 hA5 hA3 hcb hg1 hg2
          go_wp2_with (at_builtin; refine wpList_append_ns (by rfl) _ _ (by rfl) x3.heap.size _ (by rfl) _ SG.out.x gb _ _ t.flat (by rfl) (by rfl) SG.out.src t.flat_pos (by have := HV.out.len; simp; omega) SG.out.sz ?_; intro g7 cap7 x7 ho7 hg7 hb7 hl7; have O7 : Hid _ := ho7; have G7 : Hid _ := hg7; clear ho7 hg7 hb7 hl7)
          have HE : Hid (SgInv w g s (posts (.leaf ⟨1, dotC⟩) l.tail) (.slice (some ⟨g7, 0, none⟩) (1 + t.flat.length) cap7) x7 (.one ⟨7, z4⟩ t) m.tail) :=
            sg_next SG.out O7.out G7.out (by rw [← HV.out.tg]; exact (posts_s7 t m em).symm) (by have := HV.out.len; simp [Rx.flat]; omega)
          have MSE : Hid (rdMeas x7 g s.size = m.tail.length + 1) := HE.out.at_.meas
          exact ⟨⟨_, _, HE⟩, by rw [MSE.out, MS.out]; omega⟩
        · rw [decide_eq_false m63] at D3
          go_wp2_with fail
          refine Calls.mono (D1.out _ HV.out.at_) ?_
          rintro e x1 ⟨rfl, hx1⟩
          have V1 : Hid _ := HV.out.below hx1
          clear hx1
          go_wp2_with fail
          refine Calls.mono (D2.out _ V1.out.at_) ?_
          rintro e x2 ⟨rfl, hx2⟩
          have V2 : Hid _ := V1.out.below hx2
          clear hx2
          go_wp2_with fail
          refine Calls.mono (D3.out _ V2.out.at_) ?_
          rintro e x3 ⟨rfl, hx3⟩
          have V3 : Hid _ := V2.out.below hx3
          clear hx3 c0 c1 c2 f1 f2
          have HT : Hid ((posts (.leaf ⟨1, dotC⟩) l.tail) = (t, m)) := by show _ = _; rw [← HV.out.tg, posts_end t m m42 m43 m63]
          go_wp2
          go_ret
          exact ⟨V3.out.gr, _, rfl, by rw [HT.out]; exact V3.out.own, by rw [HT.out]; exact V3.out.at_⟩
set_option maxHeartbeats 8000000 in
theorem atom_class (g : Nat) (s : ByteArray) (l : List UInt8) (hs : s.size ≤ 1000) (hh : l.head? = some 91) (k : C4) (r : List UInt8) (hk : bracket l.tail = .ok (k, r)) : AtomOkC g s l (posts (.leaf ⟨1, k⟩) r) := by
  intro w hA
  have hgl := hA.lt
  have HL : Hid (l.length ≤ 1000) := by
    show _ ≤ _
    obtain ⟨a, h1, _⟩ := hA
    omega
  have C1 : Hid (∀ w, At w g s l → _) := fun w h => sees_at g s l 40 40 rfl hs w h
  have C2 : Hid (∀ w, At w g s l → _) := fun w h => sees_at g s l 91 91 rfl hs w h
  rw [hh] at C1 C2
  go_enter Tryz.func35, Tryz.ntmps35
  go_wp2_with fail
  refine Calls.mono (C1.out _ hA) ?_
  rintro e w1 ⟨rfl, hb1⟩
  have hA1 := hA.below hb1
  go_wp2_with fail
  refine Calls.mono (C2.out _ hA1) ?_
  rintro e w2 ⟨rfl, hb2⟩
  have hA2 := hA1.below hb2
  have hGk : w.grownBy w2 (some g) := ((below_grown hb1 _).trans (below_grown hb2 _))
  obtain ⟨el, hll⟩ := tail_len l _ hh
  rw [el] at hA2
  obtain ⟨a, hR, ha, hA9⟩ := hA2.step
  obtain ⟨c0, c1, c2, f1, f2⟩ := hR.all
  clear hA1 hA2 hb1 hb2 C1 C2
  have CB : Hid _ := bracketed_any g s l.tail _ hA9 hs
  go_wp2_with fail
  refine Calls.mono CB.out ?_
  rintro e w4 ⟨hg4, k4, hk4, rfl, hcase⟩
  have hkk : k4 = k ∧ At w4 g s r := by
    rcases hcase with ⟨r', h1, h2⟩ | ⟨q, h1, _⟩
    · rw [hk] at h1
      injection h1 with h1
      injection h1 with h3 h4
      subst h3; subst h4
      exact ⟨rfl, h2⟩
    · rw [hk] at h1; cases h1
  obtain ⟨rfl, hA4⟩ := hkk
  have hG4 : w.grownBy w4 (some g) := (hGk.trans (grown_at _ _ _ _)).trans hg4
  have HI : Hid (SgInv w g s (posts (.leaf ⟨1, k4⟩) r) (.slice (some ⟨w4.heap.size + 1, 0, none⟩) 1 1) ((w4.alloc (.cells k4.cells 39)).alloc (ndOb 1 k4)) (.leaf ⟨1, k4⟩) r) :=
    sg_start (hG4.trans (World.grownBy_alloc _ _ _)) (hA4.below (below_one _ _)) ⟨1, k4⟩ (by have := hA4.len; omega) _ (by simp)
  clear c0 c1 c2 f1 f2 hcase
  obtain ⟨a5, ha5, hd5, hR5⟩ := hA4
  obtain ⟨c0, c1, c2, f1, f2⟩ := hR5.all
  clear hR5 hd5
  go_wp2_with fail
  go_loopw [3] (fun u wr => ∃ t m, Hid (SgInv w g s (posts (.leaf ⟨1, k4⟩) r) u wr t m)) (fun _ wr => rdMeas wr g s.size)
  case atStart => exact ⟨_, _, HI⟩
  case round =>
    obtain ⟨t, m, HV⟩ := hrel
    clear HI c0 c1 c2 f1 f2
    have MS : Hid (rdMeas wr g s.size = m.length + 1) := HV.out.at_.meas
    obtain ⟨a1, ha1, hd1, hR1⟩ := HV.out.at_
    obtain ⟨c0, c1, c2, f1, f2⟩ := hR1.all
    clear hd1 hR1
    have D1 : Hid (∀ w, At w g s m → _) := fun w h => sees_at g s m 42 42 rfl hs w h
    have D2 : Hid (∀ w, At w g s m → _) := fun w h => sees_at g s m 43 43 rfl hs w h
    have D3 : Hid (∀ w, At w g s m → _) := fun w h => sees_at g s m 63 63 rfl hs w h
    by_cases m42 : m.head? = some 42
    · rw [decide_eq_true m42] at D1
      rw [m42, show decide (some (42 : UInt8) = some 43) = false from rfl] at D2
      rw [m42, show decide (some (42 : UInt8) = some 63) = false from rfl] at D3
      go_wp2_with fail
      refine Calls.mono (D1.out _ HV.out.at_) ?_
      rintro e x1 ⟨rfl, hx1⟩
      have V1 : Hid _ := HV.out.below hx1
      clear hx1
      go_wp2_with fail
      refine Calls.mono (D2.out _ V1.out.at_) ?_
      rintro e x2 ⟨rfl, hx2⟩
      have V2 : Hid _ := V1.out.below hx2
      clear hx2
      go_wp2_with fail
      refine Calls.mono (D3.out _ V2.out.at_) ?_
      rintro e x3 ⟨rfl, hx3⟩
      have V3 : Hid _ := V2.out.below hx3
      clear hx3 c0 c1 c2 f1 f2
      obtain ⟨em, hml⟩ := tail_len m _ m42
      have hA3 := V3.out.at_
      rw [em] at hA3
      obtain ⟨a5, hR5, ha5, hA5⟩ := hA3.step
      obtain ⟨c0, c1, c2, f1, f2⟩ := hR5.all
      obtain ⟨gb, capb, hub, hg1, hg2, hcb⟩ := V3.out.own.form (t.flat_pos)
      have SG : Hid _ := sg_set V3.out.gr V3.out.own hub hcb hg2 hgl a5 hA5 ⟨5, z4⟩
      subst hub
      clear hR5 hA5 hA3 hcb hg1 hg2
      go_wp2_with (at_builtin; refine wpList_append_ns (by rfl) _ _ (by rfl) x3.heap.size _ (by rfl) _ SG.out.x gb _ _ t.flat (by rfl) (by rfl) SG.out.src t.flat_pos (by have := HV.out.len; simp; omega) SG.out.sz ?_; intro g7 cap7 x7 ho7 hg7 hb7 hl7; have O7 : Hid _ := ho7; have G7 : Hid _ := hg7; clear ho7 hg7 hb7 hl7)
      have HE : Hid (SgInv w g s (posts (.leaf ⟨1, k4⟩) r) (.slice (some ⟨g7, 0, none⟩) (1 + t.flat.length) cap7) x7 (.one ⟨5, z4⟩ t) m.tail) :=
        sg_next SG.out O7.out G7.out (by rw [← HV.out.tg]; exact (posts_s5 t m em).symm) (by have := HV.out.len; simp [Rx.flat]; omega)
      have MSE : Hid (rdMeas x7 g s.size = m.tail.length + 1) := HE.out.at_.meas
      exact ⟨⟨_, _, HE⟩, by rw [MSE.out, MS.out]; omega⟩
    · rw [decide_eq_false m42] at D1
      by_cases m43 : m.head? = some 43
      · rw [decide_eq_true m43] at D2
        rw [m43, show decide (some (43 : UInt8) = some 63) = false from rfl] at D3
        go_wp2_with fail
        refine Calls.mono (D1.out _ HV.out.at_) ?_
        rintro e x1 ⟨rfl, hx1⟩
        have V1 : Hid _ := HV.out.below hx1
        clear hx1
        go_wp2_with fail
        refine Calls.mono (D2.out _ V1.out.at_) ?_
        rintro e x2 ⟨rfl, hx2⟩
        have V2 : Hid _ := V1.out.below hx2
        clear hx2
        go_wp2_with fail
        refine Calls.mono (D3.out _ V2.out.at_) ?_
        rintro e x3 ⟨rfl, hx3⟩
        have V3 : Hid _ := V2.out.below hx3
        clear hx3 c0 c1 c2 f1 f2
        obtain ⟨em, hml⟩ := tail_len m _ m43
        have hA3 := V3.out.at_
        rw [em] at hA3
        obtain ⟨a5, hR5, ha5, hA5⟩ := hA3.step
        obtain ⟨c0, c1, c2, f1, f2⟩ := hR5.all
        obtain ⟨gb, capb, hub, hg1, hg2, hcb⟩ := V3.out.own.form (t.flat_pos)
        have SG : Hid _ := sg_set V3.out.gr V3.out.own hub hcb hg2 hgl a5 hA5 ⟨6, z4⟩
        subst hub
        clear hR5 hA5 hA3 hcb hg1 hg2
        go_wp2_with (at_builtin; refine wpList_append_ns (by rfl) _ _ (by rfl) x3.heap.size _ (by rfl) _ SG.out.x gb _ _ t.flat (by rfl) (by rfl) SG.out.src t.flat_pos (by have := HV.out.len; simp; omega) SG.out.sz ?_; intro g7 cap7 x7 ho7 hg7 hb7 hl7; have O7 : Hid _ := ho7; have G7 : Hid _ := hg7; clear ho7 hg7 hb7 hl7)
        have HE : Hid (SgInv w g s (posts (.leaf ⟨1, k4⟩) r) (.slice (some ⟨g7, 0, none⟩) (1 + t.flat.length) cap7) x7 (.one ⟨6, z4⟩ t) m.tail) :=
          sg_next SG.out O7.out G7.out (by rw [← HV.out.tg]; exact (posts_s6 t m em).symm) (by have := HV.out.len; simp [Rx.flat]; omega)
        have MSE : Hid (rdMeas x7 g s.size = m.tail.length + 1) := HE.out.at_.meas
        exact ⟨⟨_, _, HE⟩, by rw [MSE.out, MS.out]; omega⟩
      · rw [decide_eq_false m43] at D2
        by_cases m63 : m.head? = some 63
        · rw [decide_eq_true m63] at D3
          go_wp2_with fail
          refine Calls.mono (D1.out _ HV.out.at_) ?_
          rintro e x1 ⟨rfl, hx1⟩
          have V1 : Hid _ := HV.out.below hx1
          clear hx1
          go_wp2_with fail
          refine Calls.mono (D2.out _ V1.out.at_) ?_
          rintro e x2 ⟨rfl, hx2⟩
          have V2 : Hid _ := V1.out.below hx2
          clear hx2
          go_wp2_with fail
          refine Calls.mono (D3.out _ V2.out.at_) ?_
          rintro e x3 ⟨rfl, hx3⟩
          have V3 : Hid _ := V2.out.below hx3
          clear hx3 c0 c1 c2 f1 f2
          obtain ⟨em, hml⟩ := tail_len m _ m63
          have hA3 := V3.out.at_
          rw [em] at hA3
          obtain ⟨a5, hR5, ha5, hA5⟩ := hA3.step
          obtain ⟨c0, c1, c2, f1, f2⟩ := hR5.all
          obtain ⟨gb, capb, hub, hg1, hg2, hcb⟩ := V3.out.own.form (t.flat_pos)
          have SG : Hid _ := sg_set V3.out.gr V3.out.own hub hcb hg2 hgl a5 hA5 ⟨7, z4⟩
          subst hub
          clear hR5 hA5 hA3 hcb hg1 hg2
          go_wp2_with (at_builtin; refine wpList_append_ns (by rfl) _ _ (by rfl) x3.heap.size _ (by rfl) _ SG.out.x gb _ _ t.flat (by rfl) (by rfl) SG.out.src t.flat_pos (by have := HV.out.len; simp; omega) SG.out.sz ?_; intro g7 cap7 x7 ho7 hg7 hb7 hl7; have O7 : Hid _ := ho7; have G7 : Hid _ := hg7; clear ho7 hg7 hb7 hl7)
          have HE : Hid (SgInv w g s (posts (.leaf ⟨1, k4⟩) r) (.slice (some ⟨g7, 0, none⟩) (1 + t.flat.length) cap7) x7 (.one ⟨7, z4⟩ t) m.tail) :=
            sg_next SG.out O7.out G7.out (by rw [← HV.out.tg]; exact (posts_s7 t m em).symm) (by have := HV.out.len; simp [Rx.flat]; omega)
          have MSE : Hid (rdMeas x7 g s.size = m.tail.length + 1) := HE.out.at_.meas
          exact ⟨⟨_, _, HE⟩, by rw [MSE.out, MS.out]; omega⟩
        · rw [decide_eq_false m63] at D3
          go_wp2_with fail
          refine Calls.mono (D1.out _ HV.out.at_) ?_
          rintro e x1 ⟨rfl, hx1⟩
          have V1 : Hid _ := HV.out.below hx1
          clear hx1
          go_wp2_with fail
          refine Calls.mono (D2.out _ V1.out.at_) ?_
          rintro e x2 ⟨rfl, hx2⟩
          have V2 : Hid _ := V1.out.below hx2
          clear hx2
          go_wp2_with fail
          refine Calls.mono (D3.out _ V2.out.at_) ?_
          rintro e x3 ⟨rfl, hx3⟩
          have V3 : Hid _ := V2.out.below hx3
          clear hx3 c0 c1 c2 f1 f2
          have HT : Hid ((posts (.leaf ⟨1, k4⟩) r) = (t, m)) := by show _ = _; rw [← HV.out.tg, posts_end t m m42 m43 m63]
          go_wp2
          go_ret
          exact ⟨V3.out.gr, _, rfl, by rw [HT.out]; exact V3.out.own, by rw [HT.out]; exact V3.out.at_⟩
set_option maxHeartbeats 8000000 in
theorem atom_one (g : Nat) (s : ByteArray) (l : List UInt8) (hs : s.size ≤ 1000) (h40 : ¬ l.head? = some 40) (h91 : ¬ l.head? = some 91) (h46 : ¬ l.head? = some 46) (h94 : ¬ l.head? = some 94) (h36 : ¬ l.head? = some 36) (b : Nat) (r : List UInt8) (hk : rd1 l = .ok (b, r)) (kb : C4) (hkb : z4.add ((b : Nat) : Int) = kb) : AtomOkC g s l (posts (.leaf ⟨1, kb⟩) r) := by
  intro w hA
  have hgl := hA.lt
  have HL : Hid (l.length ≤ 1000) := by
    show _ ≤ _
    obtain ⟨a, h1, _⟩ := hA
    omega
  have C1 : Hid (∀ w, At w g s l → _) := fun w h => sees_at g s l 40 40 rfl hs w h
  rw [decide_eq_false h40] at C1
  have C2 : Hid (∀ w, At w g s l → _) := fun w h => sees_at g s l 91 91 rfl hs w h
  rw [decide_eq_false h91] at C2
  have C3 : Hid (∀ w, At w g s l → _) := fun w h => sees_at g s l 46 46 rfl hs w h
  rw [decide_eq_false h46] at C3
  have C4 : Hid (∀ w, At w g s l → _) := fun w h => sees_at g s l 94 94 rfl hs w h
  rw [decide_eq_false h94] at C4
  have C5 : Hid (∀ w, At w g s l → _) := fun w h => sees_at g s l 36 36 rfl hs w h
  rw [decide_eq_false h36] at C5
  go_enter Tryz.func35, Tryz.ntmps35
  go_wp2_with fail
  refine Calls.mono (C1.out _ hA) ?_
  rintro e w1 ⟨rfl, hb1⟩
  have hA1 := hA.below hb1
  go_wp2_with fail
  refine Calls.mono (C2.out _ hA1) ?_
  rintro e w2 ⟨rfl, hb2⟩
  have hA2 := hA1.below hb2
  go_wp2_with fail
  refine Calls.mono (C3.out _ hA2) ?_
  rintro e w3 ⟨rfl, hb3⟩
  have hA3 := hA2.below hb3
  go_wp2_with fail
  refine Calls.mono (C4.out _ hA3) ?_
  rintro e w4 ⟨rfl, hb4⟩
  have hA4 := hA3.below hb4
  go_wp2_with fail
  refine Calls.mono (C5.out _ hA4) ?_
  rintro e w5 ⟨rfl, hb5⟩
  have hA5 := hA4.below hb5
  have hGk : w.grownBy w5 (some g) := (((((below_grown hb1 _).trans (below_grown hb2 _)).trans (below_grown hb3 _)).trans (below_grown hb4 _)).trans (below_grown hb5 _))
  have hA9 := hA5
  clear hA1 hA2 hA3 hA4 hA5 hb1 hb2 hb3 hb4 hb5 C1 C2 C3 C4 C5
  have CB : Hid _ := one_ok g s l _ hA9 hs b r hk
  go_wp2_with fail
  refine Calls.mono CB.out ?_
  rintro e w6 ⟨rfl, hA6, hg6⟩
  have O1 : Hid (∀ w, Calls Tryz.prog 41 #[z4.v, .int .i64 b] w fun e w' => e = .returned kb.v ∧ Below w.heap.size w w') := fun w => by rw [← hkb]; exact withR_any z4 z4_ok b (rd1_len _ _ _ hk).2 w
  go_wp2_with fail
  refine Calls.mono (O1.out _) ?_
  rintro e w7 ⟨rfl, hb7⟩
  have hG7 : w.grownBy w7 (some g) := (hGk.trans hg6).trans (below_grown hb7 _)
  have hA7 := hA6.below hb7
  have HI : Hid (SgInv w g s (posts (.leaf ⟨1, kb⟩) r) (.slice (some ⟨w7.heap.size, 0, none⟩) 1 1) (w7.alloc (ndOb 1 kb)) (.leaf ⟨1, kb⟩) r) :=
    sg_start hG7 hA7 ⟨1, kb⟩ (by have := hA7.len; omega) _ rfl
  clear hb7 hA9
  obtain ⟨a5, ha5, hd5, hR5⟩ := hA7
  obtain ⟨c0, c1, c2, f1, f2⟩ := hR5.all
  clear hR5 hd5 hA6
  go_wp2_with fail
  go_loopw [3] (fun u wr => ∃ t m, Hid (SgInv w g s (posts (.leaf ⟨1, kb⟩) r) u wr t m)) (fun _ wr => rdMeas wr g s.size)
  case atStart => exact ⟨_, _, HI⟩
  case round =>
    obtain ⟨t, m, HV⟩ := hrel
    clear HI c0 c1 c2 f1 f2
    have MS : Hid (rdMeas wr g s.size = m.length + 1) := HV.out.at_.meas
    obtain ⟨a1, ha1, hd1, hR1⟩ := HV.out.at_
    obtain ⟨c0, c1, c2, f1, f2⟩ := hR1.all
    clear hd1 hR1
    have D1 : Hid (∀ w, At w g s m → _) := fun w h => sees_at g s m 42 42 rfl hs w h
    have D2 : Hid (∀ w, At w g s m → _) := fun w h => sees_at g s m 43 43 rfl hs w h
    have D3 : Hid (∀ w, At w g s m → _) := fun w h => sees_at g s m 63 63 rfl hs w h
    by_cases m42 : m.head? = some 42
    · rw [decide_eq_true m42] at D1
      rw [m42, show decide (some (42 : UInt8) = some 43) = false from rfl] at D2
      rw [m42, show decide (some (42 : UInt8) = some 63) = false from rfl] at D3
      go_wp2_with fail
      refine Calls.mono (D1.out _ HV.out.at_) ?_
      rintro e x1 ⟨rfl, hx1⟩
      have V1 : Hid _ := HV.out.below hx1
      clear hx1
      go_wp2_with fail
      refine Calls.mono (D2.out _ V1.out.at_) ?_
      rintro e x2 ⟨rfl, hx2⟩
      have V2 : Hid _ := V1.out.below hx2
      clear hx2
      go_wp2_with fail
      refine Calls.mono (D3.out _ V2.out.at_) ?_
      rintro e x3 ⟨rfl, hx3⟩
      have V3 : Hid _ := V2.out.below hx3
      clear hx3 c0 c1 c2 f1 f2
      obtain ⟨em, hml⟩ := tail_len m _ m42
      have hA3 := V3.out.at_
      rw [em] at hA3
      obtain ⟨a5, hR5, ha5, hA5⟩ := hA3.step
      obtain ⟨c0, c1, c2, f1, f2⟩ := hR5.all
      obtain ⟨gb, capb, hub, hg1, hg2, hcb⟩ := V3.out.own.form (t.flat_pos)
      have SG : Hid _ := sg_set V3.out.gr V3.out.own hub hcb hg2 hgl a5 hA5 ⟨5, z4⟩
      subst hub
      clear hR5 hA5 hA3 hcb hg1 hg2
      go_wp2_with (at_builtin; refine wpList_append_ns (by rfl) _ _ (by rfl) x3.heap.size _ (by rfl) _ SG.out.x gb _ _ t.flat (by rfl) (by rfl) SG.out.src t.flat_pos (by have := HV.out.len; simp; omega) SG.out.sz ?_; intro g7 cap7 x7 ho7 hg7 hb7 hl7; have O7 : Hid _ := ho7; have G7 : Hid _ := hg7; clear ho7 hg7 hb7 hl7)
      have HE : Hid (SgInv w g s (posts (.leaf ⟨1, kb⟩) r) (.slice (some ⟨g7, 0, none⟩) (1 + t.flat.length) cap7) x7 (.one ⟨5, z4⟩ t) m.tail) :=
        sg_next SG.out O7.out G7.out (by rw [← HV.out.tg]; exact (posts_s5 t m em).symm) (by have := HV.out.len; simp [Rx.flat]; omega)
      have MSE : Hid (rdMeas x7 g s.size = m.tail.length + 1) := HE.out.at_.meas
      exact ⟨⟨_, _, HE⟩, by rw [MSE.out, MS.out]; omega⟩
    · rw [decide_eq_false m42] at D1
      by_cases m43 : m.head? = some 43
      · rw [decide_eq_true m43] at D2
        rw [m43, show decide (some (43 : UInt8) = some 63) = false from rfl] at D3
        go_wp2_with fail
        refine Calls.mono (D1.out _ HV.out.at_) ?_
        rintro e x1 ⟨rfl, hx1⟩
        have V1 : Hid _ := HV.out.below hx1
        clear hx1
        go_wp2_with fail
        refine Calls.mono (D2.out _ V1.out.at_) ?_
        rintro e x2 ⟨rfl, hx2⟩
        have V2 : Hid _ := V1.out.below hx2
        clear hx2
        go_wp2_with fail
        refine Calls.mono (D3.out _ V2.out.at_) ?_
        rintro e x3 ⟨rfl, hx3⟩
        have V3 : Hid _ := V2.out.below hx3
        clear hx3 c0 c1 c2 f1 f2
        obtain ⟨em, hml⟩ := tail_len m _ m43
        have hA3 := V3.out.at_
        rw [em] at hA3
        obtain ⟨a5, hR5, ha5, hA5⟩ := hA3.step
        obtain ⟨c0, c1, c2, f1, f2⟩ := hR5.all
        obtain ⟨gb, capb, hub, hg1, hg2, hcb⟩ := V3.out.own.form (t.flat_pos)
        have SG : Hid _ := sg_set V3.out.gr V3.out.own hub hcb hg2 hgl a5 hA5 ⟨6, z4⟩
        subst hub
        clear hR5 hA5 hA3 hcb hg1 hg2
        go_wp2_with (at_builtin; refine wpList_append_ns (by rfl) _ _ (by rfl) x3.heap.size _ (by rfl) _ SG.out.x gb _ _ t.flat (by rfl) (by rfl) SG.out.src t.flat_pos (by have := HV.out.len; simp; omega) SG.out.sz ?_; intro g7 cap7 x7 ho7 hg7 hb7 hl7; have O7 : Hid _ := ho7; have G7 : Hid _ := hg7; clear ho7 hg7 hb7 hl7)
        have HE : Hid (SgInv w g s (posts (.leaf ⟨1, kb⟩) r) (.slice (some ⟨g7, 0, none⟩) (1 + t.flat.length) cap7) x7 (.one ⟨6, z4⟩ t) m.tail) :=
          sg_next SG.out O7.out G7.out (by rw [← HV.out.tg]; exact (posts_s6 t m em).symm) (by have := HV.out.len; simp [Rx.flat]; omega)
        have MSE : Hid (rdMeas x7 g s.size = m.tail.length + 1) := HE.out.at_.meas
        exact ⟨⟨_, _, HE⟩, by rw [MSE.out, MS.out]; omega⟩
      · rw [decide_eq_false m43] at D2
        by_cases m63 : m.head? = some 63
        · rw [decide_eq_true m63] at D3
          go_wp2_with fail
          refine Calls.mono (D1.out _ HV.out.at_) ?_
          rintro e x1 ⟨rfl, hx1⟩
          have V1 : Hid _ := HV.out.below hx1
          clear hx1
          go_wp2_with fail
          refine Calls.mono (D2.out _ V1.out.at_) ?_
          rintro e x2 ⟨rfl, hx2⟩
          have V2 : Hid _ := V1.out.below hx2
          clear hx2
          go_wp2_with fail
          refine Calls.mono (D3.out _ V2.out.at_) ?_
          rintro e x3 ⟨rfl, hx3⟩
          have V3 : Hid _ := V2.out.below hx3
          clear hx3 c0 c1 c2 f1 f2
          obtain ⟨em, hml⟩ := tail_len m _ m63
          have hA3 := V3.out.at_
          rw [em] at hA3
          obtain ⟨a5, hR5, ha5, hA5⟩ := hA3.step
          obtain ⟨c0, c1, c2, f1, f2⟩ := hR5.all
          obtain ⟨gb, capb, hub, hg1, hg2, hcb⟩ := V3.out.own.form (t.flat_pos)
          have SG : Hid _ := sg_set V3.out.gr V3.out.own hub hcb hg2 hgl a5 hA5 ⟨7, z4⟩
          subst hub
          clear hR5 hA5 hA3 hcb hg1 hg2
          go_wp2_with (at_builtin; refine wpList_append_ns (by rfl) _ _ (by rfl) x3.heap.size _ (by rfl) _ SG.out.x gb _ _ t.flat (by rfl) (by rfl) SG.out.src t.flat_pos (by have := HV.out.len; simp; omega) SG.out.sz ?_; intro g7 cap7 x7 ho7 hg7 hb7 hl7; have O7 : Hid _ := ho7; have G7 : Hid _ := hg7; clear ho7 hg7 hb7 hl7)
          have HE : Hid (SgInv w g s (posts (.leaf ⟨1, kb⟩) r) (.slice (some ⟨g7, 0, none⟩) (1 + t.flat.length) cap7) x7 (.one ⟨7, z4⟩ t) m.tail) :=
            sg_next SG.out O7.out G7.out (by rw [← HV.out.tg]; exact (posts_s7 t m em).symm) (by have := HV.out.len; simp [Rx.flat]; omega)
          have MSE : Hid (rdMeas x7 g s.size = m.tail.length + 1) := HE.out.at_.meas
          exact ⟨⟨_, _, HE⟩, by rw [MSE.out, MS.out]; omega⟩
        · rw [decide_eq_false m63] at D3
          go_wp2_with fail
          refine Calls.mono (D1.out _ HV.out.at_) ?_
          rintro e x1 ⟨rfl, hx1⟩
          have V1 : Hid _ := HV.out.below hx1
          clear hx1
          go_wp2_with fail
          refine Calls.mono (D2.out _ V1.out.at_) ?_
          rintro e x2 ⟨rfl, hx2⟩
          have V2 : Hid _ := V1.out.below hx2
          clear hx2
          go_wp2_with fail
          refine Calls.mono (D3.out _ V2.out.at_) ?_
          rintro e x3 ⟨rfl, hx3⟩
          have V3 : Hid _ := V2.out.below hx3
          clear hx3 c0 c1 c2 f1 f2
          have HT : Hid ((posts (.leaf ⟨1, kb⟩) r) = (t, m)) := by show _ = _; rw [← HV.out.tg, posts_end t m m42 m43 m63]
          go_wp2
          go_ret
          exact ⟨V3.out.gr, _, rfl, by rw [HT.out]; exact V3.out.own, by rw [HT.out]; exact V3.out.at_⟩
end Go.Proofs.YtmdfdlljeggbbaaGreatDoor
