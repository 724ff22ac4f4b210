/- What the document's own reader does: atom, where no bracket opens. -/
import Derived.Test.YtmdfdlljeggbbaaGreatDoorY09
import Derived.Deep.Onto
import Derived.Maps.Range
namespace Go.Proofs.YtmdfdlljeggbbaaGreatDoor
set_option linter.unusedSimpArgs false
set_option linter.unusedVariables false
set_option maxRecDepth 100000
open Go.RowKit

theorem NsOwn.keptG {w w' : World} {B g : Nat} {v : Value} {ns : List Nd} (h : NsOwn w B v ns) (hg : w.grownBy w' (some g)) (hlt : g < B) : NsOwn w' B v ns := by
  refine World.ownsRow.kept h hg ?_
  rcases h.2 with ⟨hv, _⟩ | ⟨b, cap, cur, hv, hb, _⟩
  · rw [hv]; exact Or.inl rfl
  · rw [hv]
    refine Or.inr ?_
    intro e
    injection e with e
    simp only at e
    omega
theorem NsOwn.down {w : World} {B B' : Nat} {v : Value} {ns : List Nd} (h : NsOwn w B v ns) (hb : B' ≤ B) : NsOwn w B' v ns := World.ownsRow.mono h hb
def ndOb (op : Int) (c : C4) : Obj := .cells #[.int .i64 op, .int .u64 c.a, .int .u64 c.b, .int .u64 c.c, .int .u64 c.d] 41 (0, 0)
theorem own_one (w : World) (n : Nd) : NsOwn (w.alloc (ndOb n.op n.c)) w.heap.size (.slice (some ⟨w.heap.size, 0, none⟩) 1 1) [n] := by
  have e : (w.alloc (ndOb n.op n.c)).heap[w.heap.size]? = some (ndOb n.op n.c) := by show (w.heap.push _)[w.heap.size]? = _; simp
  exact ⟨rfl, Or.inr ⟨w.heap.size, 1, _, rfl, Nat.le_refl _, e, Nat.le_refl 1, by decide, rfl, rfl⟩⟩
theorem below_one (w : World) (o : Obj) : Below w.heap.size w (w.alloc o) := (Below.refl _ _).alloc (Nat.le_refl _) _
/-- An atom is read. -/
def AtomOkC (g : Nat) (s : ByteArray) (l : List UInt8) (p : Rx × List UInt8) : Prop := ∀ w : World, At w g s l →
  Calls Tryz.prog 35 #[.pointer (some ⟨g, 0, none⟩)] w fun e w' => w.grownBy w' (some g) ∧ ∃ u, e = .returned u ∧ NsOwn w' w.heap.size u p.1.flat ∧ At w' g s p.2
/-- None can be. -/
def AtomBadC (g : Nat) (s : ByteArray) (l : List UInt8) (k : Nat) : Prop := ∀ w : World, At w g s l →
  Calls Tryz.prog 35 #[.pointer (some ⟨g, 0, none⟩)] w fun e w' => w.grownBy w' (some g) ∧ ∃ u ms, e = .returned u ∧ NsOwn w' w.heap.size u ms ∧ (0 < ms.length ∧ ms.length ≤ 2 * l.length + 1) ∧ Bad w' g s k l.length
/-- What holds at the head of the loop over signs. -/
structure SgInv (w : World) (g : Nat) (s : ByteArray) (tgt : Rx × List UInt8) (u : Value) (wr : World) (t : Rx) (l : List UInt8) : Prop where
  gr : w.grownBy wr (some g)
  own : NsOwn wr w.heap.size u t.flat
  at_ : At wr g s l
  tg : posts t l = tgt
  len : t.flat.length + l.length ≤ 4000
theorem SgInv.below {w : World} {g : Nat} {s : ByteArray} {tgt : Rx × List UInt8} {u : Value} {wr w' : World} {t : Rx} {l : List UInt8} (h : SgInv w g s tgt u wr t l) (hb : Below wr.heap.size wr w') : SgInv w g s tgt u w' t l :=
  ⟨h.gr.trans (below_grown hb _), h.own.below hb, h.at_.below hb, h.tg, h.len⟩
theorem posts_end (t : Rx) (l : List UInt8) (h1 : l.head? ≠ some 42) (h2 : l.head? ≠ some 43) (h3 : l.head? ≠ some 63) : posts t l = (t, l) := by
  cases l with
  | nil => rfl
  | cons c r =>
    rw [posts, if_neg (fun e => h1 (by rw [e]; rfl)), if_neg (fun e => h2 (by rw [e]; rfl)), if_neg (fun e => h3 (by rw [e]; rfl))]
theorem posts_s5 (t : Rx) (m : List UInt8) (h : m = 42 :: m.tail) : posts t m = posts (.one ⟨5, z4⟩ t) m.tail := by
  cases m with
  | nil => cases h
  | cons c r =>
    injection h with h1 _
    subst h1
    rw [posts, if_pos rfl]
    rfl
theorem posts_s6 (t : Rx) (m : List UInt8) (h : m = 43 :: m.tail) : posts t m = posts (.one ⟨6, z4⟩ t) m.tail := by
  cases m with
  | nil => cases h
  | cons c r =>
    injection h with h1 _
    subst h1
    rw [posts, if_neg (by decide), if_pos rfl]
    rfl
theorem posts_s7 (t : Rx) (m : List UInt8) (h : m = 63 :: m.tail) : posts t m = posts (.one ⟨7, z4⟩ t) m.tail := by
  cases m with
  | nil => cases h
  | cons c r =>
    injection h with h1 _
    subst h1
    rw [posts, if_neg (by decide), if_neg (by decide), if_pos rfl]
    rfl
/-- The world ahead of the append of what a sign makes. -/
structure SgSet (w : World) (g : Nat) (s : ByteArray) (x3 W : World) (n : Nd) (t : List Nd) (m : List UInt8) (gb : Nat) : Prop where
  gr : w.grownBy W (some g)
  x : NsOwn W x3.heap.size (.slice (some ⟨x3.heap.size, 0, none⟩) 1 1) [n]
  src : ∀ j u, (nsCells t)[j]? = some u → W.cell? ⟨gb, j, none⟩ = some u
  sz : x3.heap.size ≤ W.heap.size
  at_ : At W g s m
  le : w.heap.size ≤ x3.heap.size
  gl : g < w.heap.size
theorem sg_set {w : World} {g : Nat} {s : ByteArray} {x3 : World} {u : Value} {t : List Nd} {m : List UInt8} {gb capb : Nat} (hgr : w.grownBy x3 (some g)) (ho : NsOwn x3 w.heap.size u t) (hu : u = .slice (some ⟨gb, 0, none⟩) t.length capb) (hc : ∀ j v, (nsCells t)[j]? = some v → x3.cell? ⟨gb, j, none⟩ = some v) (hlt : gb < x3.heap.size) (hgl : g < w.heap.size) (z : Nat)
    (hA : At (x3.setCell ⟨g, 1, none⟩ (.int .i64 ((z : Int) + 1))) g s m) (n : Nd) : SgSet w g s x3 ((x3.setCell ⟨g, 1, none⟩ (.int .i64 ((z : Int) + 1))).alloc (ndOb n.op n.c)) n t m gb := by
  have hsz : (x3.setCell ⟨g, 1, none⟩ (.int .i64 ((z : Int) + 1))).heap.size = x3.heap.size := by simp [World.setCell]
  have hg1 := grown_at x3 g 1 (.int .i64 ((z : Int) + 1))
  have hg2 := World.grownBy_alloc (x3.setCell ⟨g, 1, none⟩ (.int .i64 ((z : Int) + 1))) (ndOb n.op n.c) (some g)
  have hgt := hg1.trans hg2
  refine ⟨hgr.trans hgt, ?_, ?_, ?_, hA.below (below_one _ _), hgr.size, hgl⟩
  · have := own_one (x3.setCell ⟨g, 1, none⟩ (.int .i64 ((z : Int) + 1))) n
    rw [hsz] at this
    exact this
  · intro j v hj
    have hne : gb ≠ g := by
      have h0 : 0 < t.length := by
        rcases Nat.eq_zero_or_pos t.length with h | h
        · rw [List.eq_nil_of_length_eq_zero h] at hj; simp [nsCells] at hj
        · exact h
      obtain ⟨g', cap', hv, hb, _⟩ := ho.form h0
      rw [hu] at hv
      injection hv with hv
      injection hv with hv
      injection hv with hv
      omega
    exact World.grownBy.cell hgt (hc j v hj) (by simp only; intro e; injection e with e; exact hne e)
  · simp [World.setCell]
theorem sg_next {w : World} {g : Nat} {s : ByteArray} {x3 W x7 : World} {n : Nd} {t : Rx} {m : List UInt8} {gb : Nat} {tgt : Rx × List UInt8} {v : Value} (h : SgSet w g s x3 W n t.flat m gb) (ho : NsOwn x7 x3.heap.size v ([n] ++ t.flat)) (hg : W.grownBy x7 (Value.slice (some ⟨x3.heap.size, 0, none⟩) 1 1).ownBlock) (ht : posts (.one n t) m = tgt) (hl : (Rx.one n t).flat.length + m.length ≤ 4000) : SgInv w g s tgt v x7 (.one n t) m := by
  have hle := h.le
  have hgl := h.gl
  have hg' : W.grownBy x7 (some x3.heap.size) := hg
  refine ⟨h.gr.andThen hg' (fun j hj => ?_), ?_, ?_, ht, hl⟩
  · injection hj with hj
    exact Or.inl (by omega)
  · exact NsOwn.down ho hle
  · obtain ⟨a, h1, h2, h3⟩ := h.at_
    refine ⟨a, h1, h2, ?_⟩
    exact (hg'.block g h3.lt (by intro e; injection e with e; omega)).trans h3
theorem sg_first {w : World} {g : Nat} {s : ByteArray} {w4 : World} {m : List UInt8} {a : Nat} (hgr : w.grownBy w4 (some g)) (hA : At (w4.setCell ⟨g, 1, none⟩ (.int .i64 ((a : Int) + 1))) g s m) (n : Nd) (hl : m.length ≤ 1000) : SgInv w g s (posts (.leaf n) m) (.slice (some ⟨w4.heap.size, 0, none⟩) 1 1) ((w4.setCell ⟨g, 1, none⟩ (.int .i64 ((a : Int) + 1))).alloc (ndOb n.op n.c)) (.leaf n) m := by
  have hsz : (w4.setCell ⟨g, 1, none⟩ (.int .i64 ((a : Int) + 1))).heap.size = w4.heap.size := by simp [World.setCell]
  refine ⟨(hgr.trans (grown_at _ _ _ _)).trans (World.grownBy_alloc _ _ _), ?_, hA.below (below_one _ _), rfl, by simp [Rx.flat]; omega⟩
  have := own_one (w4.setCell ⟨g, 1, none⟩ (.int .i64 ((a : Int) + 1))) n
  rw [hsz] at this
  exact this.down hgr.size
set_option maxHeartbeats 8000000 in
theorem atom_begin (g : Nat) (s : ByteArray) (l : List UInt8) (hs : s.size ≤ 1000) (hh : l.head? = some 94) : AtomOkC g s l (posts (.leaf ⟨8, z4⟩) l.tail) := by
  intro w hA
  have hgl := hA.lt
  have HL : Hid (l.length ≤ 1000) := by
    show _ ≤ _
    obtain ⟨a, h1, _⟩ := hA
    omega
  have C1 : Hid (∀ w, At w g s l → _) := fun w h => sees_at g s l 40 40 rfl hs w h
  have C2 : Hid (∀ w, At w g s l → _) := fun w h => sees_at g s l 91 91 rfl hs w h
  have C3 : Hid (∀ w, At w g s l → _) := fun w h => sees_at g s l 46 46 rfl hs w h
  have C4 : Hid (∀ w, At w g s l → _) := fun w h => sees_at g s l 94 94 rfl hs w h
  rw [hh] at C1 C2 C3 C4
  go_enter Tryz.func35, Tryz.ntmps35
  go_wp2_with fail
  refine Calls.mono (C1.out _ hA) ?_
  rintro e w1 ⟨rfl, hb1⟩
  have hA1 := hA.below hb1
  go_wp2_with fail
  refine Calls.mono (C2.out _ hA1) ?_
  rintro e w2 ⟨rfl, hb2⟩
  have hA2 := hA1.below hb2
  go_wp2_with fail
  refine Calls.mono (C3.out _ hA2) ?_
  rintro e w3 ⟨rfl, hb3⟩
  have hA3 := hA2.below hb3
  go_wp2_with fail
  refine Calls.mono (C4.out _ hA3) ?_
  rintro e w4 ⟨rfl, hb4⟩
  have hA4 := hA3.below hb4
  have hG4 : w.grownBy w4 (some g) := (((below_grown hb1 _).trans (below_grown hb2 _)).trans (below_grown hb3 _)).trans (below_grown hb4 _)
  obtain ⟨el, hll⟩ := tail_len l _ hh
  rw [el] at hA4
  obtain ⟨a, hR, ha, hA5⟩ := hA4.step
  obtain ⟨c0, c1, c2, f1, f2⟩ := hR.all
  clear hA1 hA2 hA3 hA4 hb1 hb2 hb3 hb4 C1 C2 C3 C4
  go_wp2_with fail
  have HI : Hid (SgInv w g s (posts (.leaf ⟨8, z4⟩) l.tail) (.slice (some ⟨w4.heap.size, 0, none⟩) 1 1) ((w4.setCell ⟨g, 1, none⟩ (.int .i64 ((a : Int) + 1))).alloc (ndOb 8 z4)) (.leaf ⟨8, z4⟩) l.tail) := sg_first hG4 hA5 ⟨8, z4⟩ (by have := HL.out; omega)
  go_loopw [3] (fun u wr => ∃ t m, Hid (SgInv w g s (posts (.leaf ⟨8, z4⟩) l.tail) u wr t m)) (fun _ wr => rdMeas wr g s.size)
  case atStart => exact ⟨_, _, HI⟩
  case round =>
    obtain ⟨t, m, HV⟩ := hrel
    clear HI c0 c1 c2 f1 f2
    have MS : Hid (rdMeas wr g s.size = m.length + 1) := HV.out.at_.meas
    obtain ⟨a1, ha1, hd1, hR1⟩ := HV.out.at_
    obtain ⟨c0, c1, c2, f1, f2⟩ := hR1.all
    clear hd1 hR1
    have D1 : Hid (∀ w, At w g s m → _) := fun w h => sees_at g s m 42 42 rfl hs w h
    have D2 : Hid (∀ w, At w g s m → _) := fun w h => sees_at g s m 43 43 rfl hs w h
    have D3 : Hid (∀ w, At w g s m → _) := fun w h => sees_at g s m 63 63 rfl hs w h
    by_cases m42 : m.head? = some 42
    · rw [decide_eq_true m42] at D1
      rw [m42, show decide (some (42 : UInt8) = some 43) = false from rfl] at D2
      rw [m42, show decide (some (42 : UInt8) = some 63) = false from rfl] at D3
      go_wp2_with fail
      refine Calls.mono (D1.out _ HV.out.at_) ?_
      rintro e x1 ⟨rfl, hx1⟩
      have V1 : Hid _ := HV.out.below hx1
      clear hx1
      go_wp2_with fail
      refine Calls.mono (D2.out _ V1.out.at_) ?_
      rintro e x2 ⟨rfl, hx2⟩
      have V2 : Hid _ := V1.out.below hx2
      clear hx2
      go_wp2_with fail
      refine Calls.mono (D3.out _ V2.out.at_) ?_
      rintro e x3 ⟨rfl, hx3⟩
      have V3 : Hid _ := V2.out.below hx3
      clear hx3 c0 c1 c2 f1 f2
      obtain ⟨em, hml⟩ := tail_len m _ m42
      have hA3 := V3.out.at_
      rw [em] at hA3
      obtain ⟨a5, hR5, ha5, hA5⟩ := hA3.step
      obtain ⟨c0, c1, c2, f1, f2⟩ := hR5.all
      obtain ⟨gb, capb, hub, hg1, hg2, hcb⟩ := V3.out.own.form (t.flat_pos)
      have SG : Hid _ := sg_set V3.out.gr V3.out.own hub hcb hg2 hgl a5 hA5 ⟨5, z4⟩
      subst hub
      clear hR5 hA5 hA3 hcb hg1 hg2
      go_wp2_with (at_builtin; refine wpList_append_ns (by rfl) _ _ (by rfl) x3.heap.size _ (by rfl) _ SG.out.x gb _ _ t.flat (by rfl) (by rfl) SG.out.src t.flat_pos (by have := HV.out.len; simp; omega) SG.out.sz ?_; intro g7 cap7 x7 ho7 hg7 hb7 hl7; have O7 : Hid _ := ho7; have G7 : Hid _ := hg7; clear ho7 hg7 hb7 hl7)
      have HE : Hid (SgInv w g s (posts (.leaf ⟨8, z4⟩) l.tail) (.slice (some ⟨g7, 0, none⟩) (1 + t.flat.length) cap7) x7 (.one ⟨5, z4⟩ t) m.tail) :=
        sg_next SG.out O7.out G7.out (by rw [← HV.out.tg]; exact (posts_s5 t m em).symm) (by have := HV.out.len; simp [Rx.flat]; omega)
      have MSE : Hid (rdMeas x7 g s.size = m.tail.length + 1) := HE.out.at_.meas
      exact ⟨⟨_, _, HE⟩, by rw [MSE.out, MS.out]; omega⟩
    · rw [decide_eq_false m42] at D1
      by_cases m43 : m.head? = some 43
      · rw [decide_eq_true m43] at D2
        rw [m43, show decide (some (43 : UInt8) = some 63) = false from rfl] at D3
        go_wp2_with fail
        refine Calls.mono (D1.out _ HV.out.at_) ?_
        rintro e x1 ⟨rfl, hx1⟩
        have V1 : Hid _ := HV.out.below hx1
        clear hx1
        go_wp2_with fail
        refine Calls.mono (D2.out _ V1.out.at_) ?_
        rintro e x2 ⟨rfl, hx2⟩
        have V2 : Hid _ := V1.out.below hx2
        clear hx2
        go_wp2_with fail
        refine Calls.mono (D3.out _ V2.out.at_) ?_
        rintro e x3 ⟨rfl, hx3⟩
        have V3 : Hid _ := V2.out.below hx3
        clear hx3 c0 c1 c2 f1 f2
        obtain ⟨em, hml⟩ := tail_len m _ m43
        have hA3 := V3.out.at_
        rw [em] at hA3
        obtain ⟨a5, hR5, ha5, hA5⟩ := hA3.step
        obtain ⟨c0, c1, c2, f1, f2⟩ := hR5.all
        obtain ⟨gb, capb, hub, hg1, hg2, hcb⟩ := V3.out.own.form (t.flat_pos)
        have SG : Hid _ := sg_set V3.out.gr V3.out.own hub hcb hg2 hgl a5 hA5 ⟨6, z4⟩
        subst hub
        clear hR5 hA5 hA3 hcb hg1 hg2
        go_wp2_with (at_builtin; refine wpList_append_ns (by rfl) _ _ (by rfl) x3.heap.size _ (by rfl) _ SG.out.x gb _ _ t.flat (by rfl) (by rfl) SG.out.src t.flat_pos (by have := HV.out.len; simp; omega) SG.out.sz ?_; intro g7 cap7 x7 ho7 hg7 hb7 hl7; have O7 : Hid _ := ho7; have G7 : Hid _ := hg7; clear ho7 hg7 hb7 hl7)
        have HE : Hid (SgInv w g s (posts (.leaf ⟨8, z4⟩) l.tail) (.slice (some ⟨g7, 0, none⟩) (1 + t.flat.length) cap7) x7 (.one ⟨6, z4⟩ t) m.tail) :=
          sg_next SG.out O7.out G7.out (by rw [← HV.out.tg]; exact (posts_s6 t m em).symm) (by have := HV.out.len; simp [Rx.flat]; omega)
        have MSE : Hid (rdMeas x7 g s.size = m.tail.length + 1) := HE.out.at_.meas
        exact ⟨⟨_, _, HE⟩, by rw [MSE.out, MS.out]; omega⟩
      · rw [decide_eq_false m43] at D2
        by_cases m63 : m.head? = some 63
        · rw [decide_eq_true m63] at D3
          go_wp2_with fail
          refine Calls.mono (D1.out _ HV.out.at_) ?_
          rintro e x1 ⟨rfl, hx1⟩
          have V1 : Hid _ := HV.out.below hx1
          clear hx1
          go_wp2_with fail
          refine Calls.mono (D2.out _ V1.out.at_) ?_
          rintro e x2 ⟨rfl, hx2⟩
          have V2 : Hid _ := V1.out.below hx2
          clear hx2
          go_wp2_with fail
          refine Calls.mono (D3.out _ V2.out.at_) ?_
          rintro e x3 ⟨rfl, hx3⟩
          have V3 : Hid _ := V2.out.below hx3
          clear hx3 c0 c1 c2 f1 f2
          obtain ⟨em, hml⟩ := tail_len m _ m63
          have hA3 := V3.out.at_
          rw [em] at hA3
          obtain ⟨a5, hR5, ha5, hA5⟩ := hA3.step
          obtain ⟨c0, c1, c2, f1, f2⟩ := hR5.all
          obtain ⟨gb, capb, hub, hg1, hg2, hcb⟩ := V3.out.own.form (t.flat_pos)
          have SG : Hid _ := sg_set V3.out.gr V3.out.own hub hcb hg2 hgl a5 hA5 ⟨7, z4⟩
          subst hub
          clear hR5 hA5 hA3 hcb hg1 hg2
          go_wp2_with (at_builtin; refine wpList_append_ns (by rfl) _ _ (by rfl) x3.heap.size _ (by rfl) _ SG.out.x gb _ _ t.flat (by rfl) (by rfl) SG.out.src t.flat_pos (by have := HV.out.len; simp; omega) SG.out.sz ?_; intro g7 cap7 x7 ho7 hg7 hb7 hl7; have O7 : Hid _ := ho7; have G7 : Hid _ := hg7; clear ho7 hg7 hb7 hl7)
          have HE : Hid (SgInv w g s (posts (.leaf ⟨8, z4⟩) l.tail) (.slice (some ⟨g7, 0, none⟩) (1 + t.flat.length) cap7) x7 (.one ⟨7, z4⟩ t) m.tail) :=
            sg_next SG.out O7.out G7.out (by rw [← HV.out.tg]; exact (posts_s7 t m em).symm) (by have := HV.out.len; simp [Rx.flat]; omega)
          have MSE : Hid (rdMeas x7 g s.size = m.tail.length + 1) := HE.out.at_.meas
          exact ⟨⟨_, _, HE⟩, by rw [MSE.out, MS.out]; omega⟩
        · rw [decide_eq_false m63] at D3
          go_wp2_with fail
          refine Calls.mono (D1.out _ HV.out.at_) ?_
          rintro e x1 ⟨rfl, hx1⟩
          have V1 : Hid _ := HV.out.below hx1
          clear hx1
          go_wp2_with fail
          refine Calls.mono (D2.out _ V1.out.at_) ?_
          rintro e x2 ⟨rfl, hx2⟩
          have V2 : Hid _ := V1.out.below hx2
          clear hx2
          go_wp2_with fail
          refine Calls.mono (D3.out _ V2.out.at_) ?_
          rintro e x3 ⟨rfl, hx3⟩
          have V3 : Hid _ := V2.out.below hx3
          clear hx3 c0 c1 c2 f1 f2
          have HT : Hid ((posts (.leaf ⟨8, z4⟩) l.tail) = (t, m)) := by show _ = _; rw [← HV.out.tg, posts_end t m m42 m43 m63]
          go_wp2
          go_ret
          exact ⟨V3.out.gr, _, rfl, by rw [HT.out]; exact V3.out.own, by rw [HT.out]; exact V3.out.at_⟩
end Go.Proofs.YtmdfdlljeggbbaaGreatDoor
