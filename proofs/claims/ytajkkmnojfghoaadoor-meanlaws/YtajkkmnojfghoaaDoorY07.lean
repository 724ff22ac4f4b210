/- The law MeanLaws where all is as it may be. What each call of package class does, function by function, over the loaded program: first part: bits, join, Both, Either, Not, Has, with, Of, Many. What each call of package class does: second part: Not, Many, Of. class.Of at one letter. -/
import Derived.Test.YtajkkmnojfghoaaDoorY06
import Derived.Test.YtajkkmnojfghoaaDoorY01
import Derived.Test.YtajkkmnojfghoaaDoorY02
namespace Go.Proofs.YtajkkmnojfghoaaDoor
set_option linter.unusedSimpArgs false
set_option linter.unusedVariables false
set_option maxRecDepth 100000
open Go.RowKit
/-- A good tree, however great. -/
def Gd (t : Rx) : Prop := t.Ok ∧ ∀ n ∈ t.flat, n.wf ∧ (1 ≤ n.op ∧ n.op ≤ 9) ∧ (n.op = 1 ∨ n.c.eqb z4 = true)
theorem gd_nd (op : Int) (h : (Lit.int .i64 op).wf = true ∧ 1 ≤ op ∧ op ≤ 9) : (nd op).wf ∧ (1 ≤ (nd op).op ∧ (nd op).op ≤ 9) ∧ ((nd op).op = 1 ∨ (nd op).c.eqb z4 = true) := ⟨⟨h.1, rfl, rfl, rfl, rfl⟩, h.2, Or.inr rfl⟩
theorem gd_two (op : Int) (hp : prt op = 2) (h : (Lit.int .i64 op).wf = true ∧ 1 ≤ op ∧ op ≤ 9) {a b : Rx} (ha : Gd a) (hb : Gd b) : Gd (.two (nd op) a b) := by
  refine ⟨⟨hp, ha.1, hb.1⟩, fun n hn => ?_⟩
  simp [Rx.flat] at hn
  rcases hn with rfl | hn | hn
  · exact gd_nd op h
  · exact ha.2 n hn
  · exact hb.2 n hn
theorem gd_one (op : Int) (hp : prt op = 1) (h : (Lit.int .i64 op).wf = true ∧ 1 ≤ op ∧ op ≤ 9) {a : Rx} (ha : Gd a) : Gd (.one (nd op) a) := by
  refine ⟨⟨hp, ha.1⟩, fun n hn => ?_⟩
  simp [Rx.flat] at hn
  rcases hn with rfl | hn
  · exact gd_nd op h
  · exact ha.2 n hn
theorem gd_or {a b : Rx} (ha : Gd a) (hb : Gd b) : Gd (rOr a b) := gd_two 4 rfl (by decide) ha hb
theorem gd_cat {a b : Rx} (ha : Gd a) (hb : Gd b) : Gd (rCat a b) := gd_two 3 rfl (by decide) ha hb
theorem gd_star {a : Rx} (ha : Gd a) : Gd (rStar a) := gd_one 5 rfl (by decide) ha
theorem gd_plus {a : Rx} (ha : Gd a) : Gd (rPlus a) := gd_one 6 rfl (by decide) ha
theorem gd_opt {a : Rx} (ha : Gd a) : Gd (rOpt a) := gd_one 7 rfl (by decide) ha
theorem gd_empty : Gd rEmpty := by
  refine ⟨rfl, fun n hn => ?_⟩
  simp [rEmpty, Rx.flat] at hn
  subst hn
  exact gd_nd 2 (by decide)
theorem Gd.fault {t : Rx} (h : Gd t) (hl : t.flat.length ≤ 60) : faultL t.flat = 0 := fault_of t h.1 hl fun n hn => (h.2 n hn).2
/-- A pair of patterns that say the same lies in memory. -/
def PairOk (W : World) (g : Nat) (s : ByteArray) (i k : Nat) : Prop := ∃ (t u : Rx) (a1 a2 : Option Addr) (c1 c2 : Nat), W.cell? ⟨g, k * 2, none⟩ = some (.slice a1 t.flat.length c1) ∧ W.cell? ⟨g, k * 2 + 1, none⟩ = some (.slice a2 u.flat.length c2) ∧ NsIn W (.slice a1 t.flat.length c1) t.flat ∧ NsIn W (.slice a2 u.flat.length c2) u.flat ∧ Gd t ∧ Gd u ∧ t.flat.length ≤ 60 ∧ u.flat.length ≤ 60 ∧ ∀ j, Fit s.data.toList t i j ↔ Fit s.data.toList u i j
set_option maxHeartbeats 16000000 in
theorem meanLaws_main (P : MeanN) (ka : C4) (OA : ∀ w, Calls Tryd.prog 13 #[.string ⟨#[97]⟩] w fun e w' => e = .returned ka.v ∧ Below w.heap.size w w') (hka : ka.ok ∧ ka.has 97 = true ∧ ka.has 98 = false)
    (a b c : Rx) (i : Nat) (va vb vc : Value) (s : ByteArray) (hs : s.size ≤ maxLen) (w : World) (hT : Tab w) (hA : NsIn w va a.flat) (hB : NsIn w vb b.flat) (hC : NsIn w vc c.flat) (ga : Gd a) (gb : Gd b) (gc : Gd c) (hfa : faultL a.flat = 0) (hfb : faultL b.flat = 0) (hfc : faultL c.flat = 0) (hm : ¬ 60 < 2 * a.flat.length + b.flat.length + c.flat.length + 4) (h4 : s.size ≤ 400) (hi : i ≤ s.size) :
    Calls Tryd.prog 7 #[va, vb, vc, .string s, .int .i64 (i : Int)] w fun e w' => e = .returned (.bool true) ∧ Below w.heap.size w w' := by
  have La : Hid (a.flat.length ≤ 60) := by show _ ≤ _; first | omega | (simp [rOr, rCat, rStar, rPlus, rOpt, rEmpty, Rx.flat]; done) | (simp [rOr, rCat, rStar, rPlus, rOpt, rEmpty, Rx.flat]; omega)
  have Lb : Hid (b.flat.length ≤ 60) := by show _ ≤ _; first | omega | (simp [rOr, rCat, rStar, rPlus, rOpt, rEmpty, Rx.flat]; done) | (simp [rOr, rCat, rStar, rPlus, rOpt, rEmpty, Rx.flat]; omega)
  have Lc : Hid (c.flat.length ≤ 60) := by show _ ≤ _; first | omega | (simp [rOr, rCat, rStar, rPlus, rOpt, rEmpty, Rx.flat]; done) | (simp [rOr, rCat, rStar, rPlus, rOpt, rEmpty, Rx.flat]; omega)
  have LS : Hid ((rStar a).flat.length ≤ 60) := by show _ ≤ _; first | omega | (simp [rOr, rCat, rStar, rPlus, rOpt, rEmpty, Rx.flat]; done) | (simp [rOr, rCat, rStar, rPlus, rOpt, rEmpty, Rx.flat]; omega)
  have LP : Hid ((rPlus a).flat.length ≤ 60) := by show _ ≤ _; first | omega | (simp [rOr, rCat, rStar, rPlus, rOpt, rEmpty, Rx.flat]; done) | (simp [rOr, rCat, rStar, rPlus, rOpt, rEmpty, Rx.flat]; omega)
  have LE : Hid (rEmpty.flat.length ≤ 60) := by show _ ≤ _; first | omega | (simp [rOr, rCat, rStar, rPlus, rOpt, rEmpty, Rx.flat]; done) | (simp [rOr, rCat, rStar, rPlus, rOpt, rEmpty, Rx.flat]; omega)
  have LAB : Hid ((rOr a b).flat.length ≤ 60) := by show _ ≤ _; first | omega | (simp [rOr, rCat, rStar, rPlus, rOpt, rEmpty, Rx.flat]; done) | (simp [rOr, rCat, rStar, rPlus, rOpt, rEmpty, Rx.flat]; omega)
  have LBA : Hid ((rOr b a).flat.length ≤ 60) := by show _ ≤ _; first | omega | (simp [rOr, rCat, rStar, rPlus, rOpt, rEmpty, Rx.flat]; done) | (simp [rOr, rCat, rStar, rPlus, rOpt, rEmpty, Rx.flat]; omega)
  have LAS : Hid ((rCat a (rStar a)).flat.length ≤ 60) := by show _ ≤ _; first | omega | (simp [rOr, rCat, rStar, rPlus, rOpt, rEmpty, Rx.flat]; done) | (simp [rOr, rCat, rStar, rPlus, rOpt, rEmpty, Rx.flat]; omega)
  have LES : Hid ((rOr rEmpty (rCat a (rStar a))).flat.length ≤ 60) := by show _ ≤ _; first | omega | (simp [rOr, rCat, rStar, rPlus, rOpt, rEmpty, Rx.flat]; done) | (simp [rOr, rCat, rStar, rPlus, rOpt, rEmpty, Rx.flat]; omega)
  have LOP : Hid ((rOpt (rPlus a)).flat.length ≤ 60) := by show _ ≤ _; first | omega | (simp [rOr, rCat, rStar, rPlus, rOpt, rEmpty, Rx.flat]; done) | (simp [rOr, rCat, rStar, rPlus, rOpt, rEmpty, Rx.flat]; omega)
  have LA2 : Hid ((rCat a (rStar a)).flat.length ≤ 60) := by show _ ≤ _; first | omega | (simp [rOr, rCat, rStar, rPlus, rOpt, rEmpty, Rx.flat]; done) | (simp [rOr, rCat, rStar, rPlus, rOpt, rEmpty, Rx.flat]; omega)
  have LBC : Hid ((rOr b c).flat.length ≤ 60) := by show _ ≤ _; first | omega | (simp [rOr, rCat, rStar, rPlus, rOpt, rEmpty, Rx.flat]; done) | (simp [rOr, rCat, rStar, rPlus, rOpt, rEmpty, Rx.flat]; omega)
  have LABC : Hid ((rCat a (rOr b c)).flat.length ≤ 60) := by show _ ≤ _; first | omega | (simp [rOr, rCat, rStar, rPlus, rOpt, rEmpty, Rx.flat]; done) | (simp [rOr, rCat, rStar, rPlus, rOpt, rEmpty, Rx.flat]; omega)
  have LCB : Hid ((rCat a b).flat.length ≤ 60) := by show _ ≤ _; first | omega | (simp [rOr, rCat, rStar, rPlus, rOpt, rEmpty, Rx.flat]; done) | (simp [rOr, rCat, rStar, rPlus, rOpt, rEmpty, Rx.flat]; omega)
  have LCC : Hid ((rCat a c).flat.length ≤ 60) := by show _ ≤ _; first | omega | (simp [rOr, rCat, rStar, rPlus, rOpt, rEmpty, Rx.flat]; done) | (simp [rOr, rCat, rStar, rPlus, rOpt, rEmpty, Rx.flat]; omega)
  have LOO : Hid ((rOr (rCat a b) (rCat a c)).flat.length ≤ 60) := by show _ ≤ _; first | omega | (simp [rOr, rCat, rStar, rPlus, rOpt, rEmpty, Rx.flat]; done) | (simp [rOr, rCat, rStar, rPlus, rOpt, rEmpty, Rx.flat]; omega)
  have LSS : Hid ((rStar (rStar a)).flat.length ≤ 60) := by show _ ≤ _; first | omega | (simp [rOr, rCat, rStar, rPlus, rOpt, rEmpty, Rx.flat]; done) | (simp [rOr, rCat, rStar, rPlus, rOpt, rEmpty, Rx.flat]; omega)
  have la := La.out
  have lb := Lb.out
  have lc := Lc.out
  have HA := hid OA
  have HL : Hid (∀ w', Below w.heap.size w w' → _) := fun w' hb => ownL_call P ka hka w' (hT.below hb (Nat.le_refl _))
  have B0 := hid (Below.refl w.heap.size w)
  have HNA := hid hA
  have HNB := hid hB
  have HNC := hid hC
  obtain ⟨aa, ca, rfl, ma⟩ := nsIn_form hA
  obtain ⟨ab, cb, rfl, mb⟩ := nsIn_form hB
  obtain ⟨ac, cc, rfl, mc⟩ := nsIn_form hC
  clear hA hB hC OA hka
  have Ca : Hid (∀ w', Below w.heap.size w w' → Calls Tryd.prog 26 #[.slice aa a.flat.length ca] w' fun e w'' => e = .returned (.nilIface) ∧ Below w'.heap.size w' w'') := fun w' hb => by
    have := rcheck_any a.flat _ w' (HNA.out.below hb)
    rw [show errV (faultL a.flat) = .nilIface by unfold errV; rw [if_pos hfa]] at this
    exact this
  have Cb : Hid (∀ w', Below w.heap.size w w' → Calls Tryd.prog 26 #[.slice ab b.flat.length cb] w' fun e w'' => e = .returned (.nilIface) ∧ Below w'.heap.size w' w'') := fun w' hb => by
    have := rcheck_any b.flat _ w' (HNB.out.below hb)
    rw [show errV (faultL b.flat) = .nilIface by unfold errV; rw [if_pos hfb]] at this
    exact this
  have Cc : Hid (∀ w', Below w.heap.size w w' → Calls Tryd.prog 26 #[.slice ac c.flat.length cc] w' fun e w'' => e = .returned (.nilIface) ∧ Below w'.heap.size w' w'') := fun w' hb => by
    have := rcheck_any c.flat _ w' (HNC.out.below hb)
    rw [show errV (faultL c.flat) = .nilIface by unfold errV; rw [if_pos hfc]] at this
    exact this
  have z1 : IntKind.i64.wrap (2 * (a.flat.length : Int)) = 2 * (a.flat.length : Int) := by rw [IntKind.wrap_i64]; omega
  have z2 : IntKind.i64.wrap (2 * (a.flat.length : Int) + (b.flat.length : Int)) = 2 * (a.flat.length : Int) + (b.flat.length : Int) := by rw [IntKind.wrap_i64]; omega
  have z3 : IntKind.i64.wrap (2 * (a.flat.length : Int) + (b.flat.length : Int) + (c.flat.length : Int)) = 2 * (a.flat.length : Int) + (b.flat.length : Int) + (c.flat.length : Int) := by rw [IntKind.wrap_i64]; omega
  have z4' : IntKind.i64.wrap (2 * (a.flat.length : Int) + (b.flat.length : Int) + (c.flat.length : Int) + 4) = 2 * (a.flat.length : Int) + (b.flat.length : Int) + (c.flat.length : Int) + 4 := by rw [IntKind.wrap_i64]; omega
  have zm : ¬ (60 : Int) < 2 * (a.flat.length : Int) + (b.flat.length : Int) + (c.flat.length : Int) + 4 := by omega
  have g4 : ¬ (400 : Int) < (s.size : Int) := by omega
  have g5 : (0 : Int) ≤ (i : Int) := by omega
  have g6 : (i : Int) ≤ (s.size : Int) := by omega
  have HP := hid P
  clear hfa hfb hfc P hm
  go_enter Tryd.func7, Tryd.ntmps7
  go_wp2_with fail
  refine Calls.mono (HA.out _) ?_
  rintro e w1 ⟨rfl, hb⟩
  have B1 := hid (B0.out.trans (hb.mono B0.out.size))
  clear hb
  go_wp2_with fail
  refine Calls.mono (HL.out _ (Hid.out (by assumption))) ?_
  rintro e w2 ⟨u, rfl, hb, hu⟩
  have B2 := hid (B1.out.trans (hb.mono B1.out.size))
  have U2 := hid hu
  obtain ⟨ua, uc, rfl, um⟩ := isIn_form hu
  clear hb hu
  have CI := hid (ints_any [0, 1, 2] [0, 1, 2] _ _ _ (U2.out.below (below_1 w2 _)) (is_new w2 [0, 1, 2] _ rfl (by decide)))
  rw [beq_self_eq_true] at CI
  go_wp2_with fail
  refine Calls.mono CI.out ?_
  rintro e w3 ⟨rfl, hb⟩
  have B3 := hid (B2.out.trans ((below_1 w2 _).trans (hb.mono (by simp)) |>.mono B2.out.size))
  clear hb CI U2
  go_wp2_with fail
  refine Calls.mono (Ca.out _ B3.out) ?_
  rintro e w4 ⟨rfl, hb⟩
  have B4 := hid (B3.out.trans (hb.mono B3.out.size))
  clear hb
  go_wp2_with fail
  refine Calls.mono (Cb.out _ B4.out) ?_
  rintro e w5 ⟨rfl, hb⟩
  have B5 := hid (B4.out.trans (hb.mono B4.out.size))
  clear hb
  go_wp2_with fail
  refine Calls.mono (Cc.out _ B5.out) ?_
  rintro e w6 ⟨rfl, hb⟩
  have B6 := hid (B5.out.trans (hb.mono B5.out.size))
  clear hb
  go_wp2_with fail
  refine Calls.mono (under_any 5 a.flat _ _ (HNA.out.below B6.out) (Rx.flat_pos _) La.out) ?_
  rintro e w7 ⟨u7, rfl, hb, hu⟩
  have B7 := hid (B6.out.trans (hb.mono B6.out.size))
  have N7S : Hid (NsIn w7 u7 (rStar a).flat) := hu
  clear hb hu
  obtain ⟨aS, cS, rfl, mS⟩ := nsIn_form N7S.out
  go_wp2_with fail
  refine Calls.mono (under_any 6 a.flat _ _ (HNA.out.below B7.out) (Rx.flat_pos _) La.out) ?_
  rintro e w8 ⟨u8, rfl, hb, hu⟩
  have B8 := hid (B7.out.trans (hb.mono B7.out.size))
  have N8S := hid (N7S.out.below hb)
  have N8P : Hid (NsIn w8 u8 (rPlus a).flat) := hu
  clear hb hu
  obtain ⟨aP, cP, rfl, mP⟩ := nsIn_form N8P.out
  go_wp2_with fail
  obtain ⟨w9, hw9⟩ : ∃ w9, w9 = w8.alloc (.cells #[.int .i64 2, .int .u64 0, .int .u64 0, .int .u64 0, .int .u64 0] 56) := ⟨_, rfl⟩
  have hb : Below w8.heap.size w8 w9 := hw9 ▸ below_1 w8 _
  have N9E : Hid (NsIn w9 (.slice (some ⟨w8.heap.size, 0, none⟩) 1 1) rEmpty.flat) := by
    show NsIn _ _ _
    rw [hw9]
    exact (ns_one w8 2 _ rfl).isIn (by decide)
  have B9 := hid (B8.out.trans (hb.mono B8.out.size))
  have N9S := hid (N8S.out.below hb)
  have N9P := hid (N8P.out.below hb)
  rw [← hw9]
  obtain ⟨gE, hgE⟩ : ∃ gE, gE = w8.heap.size := ⟨_, rfl⟩
  rw [← hgE] at N9E ⊢
  clear hb hw9 hgE
  refine Calls.mono (two_any2 4 a.flat b.flat _ _ _ (HNA.out.below B9.out) (HNB.out.below B9.out) (Rx.flat_pos _) (Rx.flat_pos _) La.out Lb.out) ?_
  rintro e w10 ⟨u10, rfl, hb, hu⟩
  have B10 := hid (B9.out.trans (hb.mono B9.out.size))
  have N10S := hid (N9S.out.below hb)
  have N10P := hid (N9P.out.below hb)
  have N10E := hid (N9E.out.below hb)
  have N10AB : Hid (NsIn w10 u10 (rOr a b).flat) := hu
  clear hb hu
  obtain ⟨aAB, cAB, rfl, mAB⟩ := nsIn_form N10AB.out
  go_wp2_with fail
  refine Calls.mono (two_any2 4 b.flat a.flat _ _ _ (HNB.out.below B10.out) (HNA.out.below B10.out) (Rx.flat_pos _) (Rx.flat_pos _) Lb.out La.out) ?_
  rintro e w11 ⟨u11, rfl, hb, hu⟩
  have B11 := hid (B10.out.trans (hb.mono B10.out.size))
  have N11S := hid (N10S.out.below hb)
  have N11P := hid (N10P.out.below hb)
  have N11E := hid (N10E.out.below hb)
  have N11AB := hid (N10AB.out.below hb)
  have N11BA : Hid (NsIn w11 u11 (rOr b a).flat) := hu
  clear hb hu
  obtain ⟨aBA, cBA, rfl, mBA⟩ := nsIn_form N11BA.out
  go_wp2_with fail
  refine Calls.mono (two_any2 3 a.flat (rStar a).flat _ _ _ (HNA.out.below B11.out) N11S.out (Rx.flat_pos _) (Rx.flat_pos _) La.out LS.out) ?_
  rintro e w12 ⟨u12, rfl, hb, hu⟩
  have B12 := hid (B11.out.trans (hb.mono B11.out.size))
  have N12S := hid (N11S.out.below hb)
  have N12P := hid (N11P.out.below hb)
  have N12E := hid (N11E.out.below hb)
  have N12AB := hid (N11AB.out.below hb)
  have N12BA := hid (N11BA.out.below hb)
  have N12AS : Hid (NsIn w12 u12 (rCat a (rStar a)).flat) := hu
  clear hb hu
  obtain ⟨aAS, cAS, rfl, mAS⟩ := nsIn_form N12AS.out
  go_wp2_with fail
  refine Calls.mono (two_any2 4 rEmpty.flat (rCat a (rStar a)).flat _ _ _ N12E.out N12AS.out (Rx.flat_pos _) (Rx.flat_pos _) LE.out LAS.out) ?_
  rintro e w13 ⟨u13, rfl, hb, hu⟩
  have B13 := hid (B12.out.trans (hb.mono B12.out.size))
  have N13S := hid (N12S.out.below hb)
  have N13P := hid (N12P.out.below hb)
  have N13E := hid (N12E.out.below hb)
  have N13AB := hid (N12AB.out.below hb)
  have N13BA := hid (N12BA.out.below hb)
  have N13AS := hid (N12AS.out.below hb)
  have N13ES : Hid (NsIn w13 u13 (rOr rEmpty (rCat a (rStar a))).flat) := hu
  clear hb hu
  obtain ⟨aES, cES, rfl, mES⟩ := nsIn_form N13ES.out
  go_wp2_with fail
  refine Calls.mono (under_any 7 (rPlus a).flat _ _ N13P.out (Rx.flat_pos _) LP.out) ?_
  rintro e w14 ⟨u14, rfl, hb, hu⟩
  have B14 := hid (B13.out.trans (hb.mono B13.out.size))
  have N14S := hid (N13S.out.below hb)
  have N14P := hid (N13P.out.below hb)
  have N14E := hid (N13E.out.below hb)
  have N14AB := hid (N13AB.out.below hb)
  have N14BA := hid (N13BA.out.below hb)
  have N14AS := hid (N13AS.out.below hb)
  have N14ES := hid (N13ES.out.below hb)
  have N14OP : Hid (NsIn w14 u14 (rOpt (rPlus a)).flat) := hu
  clear hb hu
  obtain ⟨aOP, cOP, rfl, mOP⟩ := nsIn_form N14OP.out
  go_wp2_with fail
  refine Calls.mono (two_any2 3 a.flat (rStar a).flat _ _ _ (HNA.out.below B14.out) N14S.out (Rx.flat_pos _) (Rx.flat_pos _) La.out LS.out) ?_
  rintro e w15 ⟨u15, rfl, hb, hu⟩
  have B15 := hid (B14.out.trans (hb.mono B14.out.size))
  have N15S := hid (N14S.out.below hb)
  have N15P := hid (N14P.out.below hb)
  have N15E := hid (N14E.out.below hb)
  have N15AB := hid (N14AB.out.below hb)
  have N15BA := hid (N14BA.out.below hb)
  have N15AS := hid (N14AS.out.below hb)
  have N15ES := hid (N14ES.out.below hb)
  have N15OP := hid (N14OP.out.below hb)
  have N15A2 : Hid (NsIn w15 u15 (rCat a (rStar a)).flat) := hu
  clear hb hu
  obtain ⟨aA2, cA2, rfl, mA2⟩ := nsIn_form N15A2.out
  go_wp2_with fail
  refine Calls.mono (two_any2 4 b.flat c.flat _ _ _ (HNB.out.below B15.out) (HNC.out.below B15.out) (Rx.flat_pos _) (Rx.flat_pos _) Lb.out Lc.out) ?_
  rintro e w16 ⟨u16, rfl, hb, hu⟩
  have B16 := hid (B15.out.trans (hb.mono B15.out.size))
  have N16S := hid (N15S.out.below hb)
  have N16P := hid (N15P.out.below hb)
  have N16E := hid (N15E.out.below hb)
  have N16AB := hid (N15AB.out.below hb)
  have N16BA := hid (N15BA.out.below hb)
  have N16AS := hid (N15AS.out.below hb)
  have N16ES := hid (N15ES.out.below hb)
  have N16OP := hid (N15OP.out.below hb)
  have N16A2 := hid (N15A2.out.below hb)
  have N16BC : Hid (NsIn w16 u16 (rOr b c).flat) := hu
  clear hb hu
  obtain ⟨aBC, cBC, rfl, mBC⟩ := nsIn_form N16BC.out
  go_wp2_with fail
  refine Calls.mono (two_any2 3 a.flat (rOr b c).flat _ _ _ (HNA.out.below B16.out) N16BC.out (Rx.flat_pos _) (Rx.flat_pos _) La.out LBC.out) ?_
  rintro e w17 ⟨u17, rfl, hb, hu⟩
  have B17 := hid (B16.out.trans (hb.mono B16.out.size))
  have N17S := hid (N16S.out.below hb)
  have N17P := hid (N16P.out.below hb)
  have N17E := hid (N16E.out.below hb)
  have N17AB := hid (N16AB.out.below hb)
  have N17BA := hid (N16BA.out.below hb)
  have N17AS := hid (N16AS.out.below hb)
  have N17ES := hid (N16ES.out.below hb)
  have N17OP := hid (N16OP.out.below hb)
  have N17A2 := hid (N16A2.out.below hb)
  have N17BC := hid (N16BC.out.below hb)
  have N17ABC : Hid (NsIn w17 u17 (rCat a (rOr b c)).flat) := hu
  clear hb hu
  obtain ⟨aABC, cABC, rfl, mABC⟩ := nsIn_form N17ABC.out
  go_wp2_with fail
  refine Calls.mono (two_any2 3 a.flat b.flat _ _ _ (HNA.out.below B17.out) (HNB.out.below B17.out) (Rx.flat_pos _) (Rx.flat_pos _) La.out Lb.out) ?_
  rintro e w18 ⟨u18, rfl, hb, hu⟩
  have B18 := hid (B17.out.trans (hb.mono B17.out.size))
  have N18S := hid (N17S.out.below hb)
  have N18P := hid (N17P.out.below hb)
  have N18E := hid (N17E.out.below hb)
  have N18AB := hid (N17AB.out.below hb)
  have N18BA := hid (N17BA.out.below hb)
  have N18AS := hid (N17AS.out.below hb)
  have N18ES := hid (N17ES.out.below hb)
  have N18OP := hid (N17OP.out.below hb)
  have N18A2 := hid (N17A2.out.below hb)
  have N18BC := hid (N17BC.out.below hb)
  have N18ABC := hid (N17ABC.out.below hb)
  have N18CB : Hid (NsIn w18 u18 (rCat a b).flat) := hu
  clear hb hu
  obtain ⟨aCB, cCB, rfl, mCB⟩ := nsIn_form N18CB.out
  go_wp2_with fail
  refine Calls.mono (two_any2 3 a.flat c.flat _ _ _ (HNA.out.below B18.out) (HNC.out.below B18.out) (Rx.flat_pos _) (Rx.flat_pos _) La.out Lc.out) ?_
  rintro e w19 ⟨u19, rfl, hb, hu⟩
  have B19 := hid (B18.out.trans (hb.mono B18.out.size))
  have N19S := hid (N18S.out.below hb)
  have N19P := hid (N18P.out.below hb)
  have N19E := hid (N18E.out.below hb)
  have N19AB := hid (N18AB.out.below hb)
  have N19BA := hid (N18BA.out.below hb)
  have N19AS := hid (N18AS.out.below hb)
  have N19ES := hid (N18ES.out.below hb)
  have N19OP := hid (N18OP.out.below hb)
  have N19A2 := hid (N18A2.out.below hb)
  have N19BC := hid (N18BC.out.below hb)
  have N19ABC := hid (N18ABC.out.below hb)
  have N19CB := hid (N18CB.out.below hb)
  have N19CC : Hid (NsIn w19 u19 (rCat a c).flat) := hu
  clear hb hu
  obtain ⟨aCC, cCC, rfl, mCC⟩ := nsIn_form N19CC.out
  go_wp2_with fail
  refine Calls.mono (two_any2 4 (rCat a b).flat (rCat a c).flat _ _ _ N19CB.out N19CC.out (Rx.flat_pos _) (Rx.flat_pos _) LCB.out LCC.out) ?_
  rintro e w20 ⟨u20, rfl, hb, hu⟩
  have B20 := hid (B19.out.trans (hb.mono B19.out.size))
  have N20S := hid (N19S.out.below hb)
  have N20P := hid (N19P.out.below hb)
  have N20E := hid (N19E.out.below hb)
  have N20AB := hid (N19AB.out.below hb)
  have N20BA := hid (N19BA.out.below hb)
  have N20AS := hid (N19AS.out.below hb)
  have N20ES := hid (N19ES.out.below hb)
  have N20OP := hid (N19OP.out.below hb)
  have N20A2 := hid (N19A2.out.below hb)
  have N20BC := hid (N19BC.out.below hb)
  have N20ABC := hid (N19ABC.out.below hb)
  have N20CB := hid (N19CB.out.below hb)
  have N20CC := hid (N19CC.out.below hb)
  have N20OO : Hid (NsIn w20 u20 (rOr (rCat a b) (rCat a c)).flat) := hu
  clear hb hu
  obtain ⟨aOO, cOO, rfl, mOO⟩ := nsIn_form N20OO.out
  go_wp2_with fail
  refine Calls.mono (under_any 5 (rStar a).flat _ _ N20S.out (Rx.flat_pos _) LS.out) ?_
  rintro e w21 ⟨u21, rfl, hb, hu⟩
  have B21 := hid (B20.out.trans (hb.mono B20.out.size))
  have N21S := hid (N20S.out.below hb)
  have N21P := hid (N20P.out.below hb)
  have N21E := hid (N20E.out.below hb)
  have N21AB := hid (N20AB.out.below hb)
  have N21BA := hid (N20BA.out.below hb)
  have N21AS := hid (N20AS.out.below hb)
  have N21ES := hid (N20ES.out.below hb)
  have N21OP := hid (N20OP.out.below hb)
  have N21A2 := hid (N20A2.out.below hb)
  have N21BC := hid (N20BC.out.below hb)
  have N21ABC := hid (N20ABC.out.below hb)
  have N21CB := hid (N20CB.out.below hb)
  have N21CC := hid (N20CC.out.below hb)
  have N21OO := hid (N20OO.out.below hb)
  have N21SS : Hid (NsIn w21 u21 (rStar (rStar a)).flat) := hu
  clear hb hu
  obtain ⟨aSS, cSS, rfl, mSS⟩ := nsIn_form N21SS.out
  go_wp2_with fail
  obtain ⟨g, hg⟩ : ∃ g, g = w21.heap.size := ⟨_, rfl⟩
  obtain ⟨W, hW⟩ : ∃ W, W = w21.alloc (.cells #[.slice aAB (rOr a b).flat.length cAB, .slice aBA (rOr b a).flat.length cBA, .slice aS (rStar a).flat.length cS, .slice aES (rOr rEmpty (rCat a (rStar a))).flat.length cES, .slice aS (rStar a).flat.length cS, .slice aOP (rOpt (rPlus a)).flat.length cOP, .slice aP (rPlus a).flat.length cP, .slice aA2 (rCat a (rStar a)).flat.length cA2, .slice aABC (rCat a (rOr b c)).flat.length cABC, .slice aOO (rOr (rCat a b) (rCat a c)).flat.length cOO, .slice aSS (rStar (rStar a)).flat.length cSS, .slice aS (rStar a).flat.length cS] 69) := ⟨_, rfl⟩
  have hb : Below w21.heap.size w21 W := hW ▸ below_1 w21 _
  have hrow : W.heap[g]? = some (.cells #[.slice aAB (rOr a b).flat.length cAB, .slice aBA (rOr b a).flat.length cBA, .slice aS (rStar a).flat.length cS, .slice aES (rOr rEmpty (rCat a (rStar a))).flat.length cES, .slice aS (rStar a).flat.length cS, .slice aOP (rOpt (rPlus a)).flat.length cOP, .slice aP (rPlus a).flat.length cP, .slice aA2 (rCat a (rStar a)).flat.length cA2, .slice aABC (rCat a (rOr b c)).flat.length cABC, .slice aOO (rOr (rCat a b) (rCat a c)).flat.length cOO, .slice aSS (rStar (rStar a)).flat.length cSS, .slice aS (rStar a).flat.length cS] 69 (0, 0)) := by
    rw [hW, hg]
    show (w21.heap.push _)[w21.heap.size]? = _
    simp
  have hgl : g < W.heap.size := by rw [hW, hg]; simp
  have HPAIR : Hid (∀ k, k < 6 → PairOk W g s i k) := by
    intro k hk
    match k, hk with
    | 0, _ => exact ⟨(rOr a b), (rOr b a), aAB, aBA, cAB, cBA, by rw [Lib.cell_of_heap hrow]; rfl, by rw [Lib.cell_of_heap hrow]; rfl, N21AB.out.below hb, N21BA.out.below hb, gd_or ga gb, gd_or gb ga, LAB.out, LBA.out, fun j => law1 _ a b i j⟩
    | 1, _ => exact ⟨(rStar a), (rOr rEmpty (rCat a (rStar a))), aS, aES, cS, cES, by rw [Lib.cell_of_heap hrow]; rfl, by rw [Lib.cell_of_heap hrow]; rfl, N21S.out.below hb, N21ES.out.below hb, gd_star ga, gd_or gd_empty (gd_cat ga (gd_star ga)), LS.out, LES.out, fun j => law2 _ a i j⟩
    | 2, _ => exact ⟨(rStar a), (rOpt (rPlus a)), aS, aOP, cS, cOP, by rw [Lib.cell_of_heap hrow]; rfl, by rw [Lib.cell_of_heap hrow]; rfl, N21S.out.below hb, N21OP.out.below hb, gd_star ga, gd_opt (gd_plus ga), LS.out, LOP.out, fun j => law3 _ a i j⟩
    | 3, _ => exact ⟨(rPlus a), (rCat a (rStar a)), aP, aA2, cP, cA2, by rw [Lib.cell_of_heap hrow]; rfl, by rw [Lib.cell_of_heap hrow]; rfl, N21P.out.below hb, N21A2.out.below hb, gd_plus ga, gd_cat ga (gd_star ga), LP.out, LA2.out, fun j => law4 _ a i j⟩
    | 4, _ => exact ⟨(rCat a (rOr b c)), (rOr (rCat a b) (rCat a c)), aABC, aOO, cABC, cOO, by rw [Lib.cell_of_heap hrow]; rfl, by rw [Lib.cell_of_heap hrow]; rfl, N21ABC.out.below hb, N21OO.out.below hb, gd_cat ga (gd_or gb gc), gd_or (gd_cat ga gb) (gd_cat ga gc), LABC.out, LOO.out, fun j => law5 _ a b c i j⟩
    | 5, _ => exact ⟨(rStar (rStar a)), (rStar a), aSS, aS, cSS, cS, by rw [Lib.cell_of_heap hrow]; rfl, by rw [Lib.cell_of_heap hrow]; rfl, N21SS.out.below hb, N21S.out.below hb, gd_star (gd_star ga), gd_star ga, LSS.out, LS.out, fun j => law6 _ a i j⟩
  have BW := hid (B21.out.trans (hb.mono B21.out.size))
  have HGL := hid hgl
  rw [← hW, ← hg]
  clear N7S
  clear N8S N8P
  clear N9S N9P N9E
  clear N10S N10P N10E N10AB
  clear N11S N11P N11E N11AB N11BA
  clear N12S N12P N12E N12AB N12BA N12AS
  clear N13S N13P N13E N13AB N13BA N13AS N13ES
  clear N14S N14P N14E N14AB N14BA N14AS N14ES N14OP
  clear N15S N15P N15E N15AB N15BA N15AS N15ES N15OP N15A2
  clear N16S N16P N16E N16AB N16BA N16AS N16ES N16OP N16A2 N16BC
  clear N17S N17P N17E N17AB N17BA N17AS N17ES N17OP N17A2 N17BC N17ABC
  clear N18S N18P N18E N18AB N18BA N18AS N18ES N18OP N18A2 N18BC N18ABC N18CB
  clear N19S N19P N19E N19AB N19BA N19AS N19ES N19OP N19A2 N19BC N19ABC N19CB N19CC
  clear N20S N20P N20E N20AB N20BA N20AS N20ES N20OP N20A2 N20BC N20ABC N20CB N20CC N20OO
  clear N21S N21P N21E N21AB N21BA N21AS N21ES N21OP N21A2 N21BC N21ABC N21CB N21CC N21OO N21SS
  clear hb hrow hgl hW hg Ca Cb Cc HNA HNB HNC ga gb gc z1 z2 z3 z4' zm
  go_wp2_with fail
  go_loopw [19] (fun v wr => ∃ k : Nat, k ≤ 6 ∧ v = .int .i64 k ∧ Below W.heap.size W wr) (fun v _ => 6 - (intOf v).toNat)
  case atStart => exact ⟨0, by omega, rfl, Below.refl _ _⟩
  case round =>
    obtain ⟨k, hk, rfl, hb⟩ := hrel
    by_cases hk6 : k < 6
    · obtain ⟨t, u, a1, a2, c1, c2, p1, p2, n1, n2, g1, g2, l1, l2, hF⟩ := HPAIR.out k hk6
      obtain ⟨l, hl⟩ := ends_total s.data.toList t i
      obtain ⟨l', hl'⟩ := ends_total s.data.toList u i
      obtain rfl : l = l' := hl.same hl' hF
      have q1 := (hb.cell (p := ⟨g, k * 2, none⟩) HGL.out).trans p1
      have q2 : ∀ w', Below wr.heap.size wr w' → w'.cell? ⟨g, k * 2 + 1, none⟩ = some (.slice a2 u.flat.length c2) := fun w' hb' => (hb'.cell (p := ⟨g, k * 2 + 1, none⟩) (Nat.lt_of_lt_of_le HGL.out hb.size)).trans ((hb.cell (p := ⟨g, k * 2 + 1, none⟩) HGL.out).trans p2)
      have Q2 := hid q2
      have k0 : (0 : Int) ≤ (k : Int) := by omega
      have k1 : (k : Int) < 6 := by omega
      have E1 := hid (HP.out.ends t _ s i l wr (hT.below (BW.out.trans (hb.mono BW.out.size)) (Nat.le_refl _)) g1.1 (n1.below hb) (fun n hn => (g1.2 n hn).1) ((meanE_zero _ _ _).2 ⟨g1.fault l1, h4, by omega, by omega⟩) hl)
      have E2 : Hid (∀ w', Below wr.heap.size wr w' → _) := fun w' hb' => HP.out.ends u _ s i l w' ((hT.below (BW.out.trans (hb.mono BW.out.size)) (Nat.le_refl _)).below hb' (Nat.le_refl _)) g2.1 ((n2.below hb).below hb') (fun n hn => (g2.2 n hn).1) ((meanE_zero _ _ _).2 ⟨g2.fault l2, h4, by omega, by omega⟩) hl'
      have HB := hid hb
      have HK := hid hk6
      clear p1 p2 n1 n2 g1 g2 l1 l2 hF hl hl' q2 hb
      go_wp2_with fail
      refine Calls.mono E1.out ?_
      rintro e x1 ⟨v1, rfl, hb, hv⟩
      have D1 := hid hb
      have V1 := hid hv
      obtain ⟨va1, vc1, rfl, vm1⟩ := isIn_form hv
      have r2 := Q2.out _ hb
      clear hb hv
      go_wp2_with fail
      refine Calls.mono (E2.out _ D1.out) ?_
      rintro e x2 ⟨v2, rfl, hb, hv⟩
      have D2 := hid (D1.out.trans (hb.mono D1.out.size))
      have V2 := hid hv
      have V1' := hid (V1.out.below hb)
      obtain ⟨va2, vc2, rfl, vm2⟩ := isIn_form hv
      clear hb hv
      have CI := hid (ints_any l l _ _ _ V1'.out V2.out)
      rw [beq_self_eq_true] at CI
      go_wp2_with fail
      refine Calls.mono CI.out ?_
      rintro e x3 ⟨rfl, hb⟩
      have D3 := hid (D2.out.trans (hb.mono D2.out.size))
      clear hb
      go_wp2_with fail
      exact ⟨⟨k + 1, HK.out, by go_num, HB.out.trans (D3.out.mono HB.out.size)⟩, by simp [intOf]; have := HK.out; omega⟩
    · obtain rfl : k = 6 := by omega
      go_wp2
      go_ret
      exact ⟨rfl, BW.out.trans (hb.mono BW.out.size)⟩
theorem gd_of (ns : List Nd) (hf : faultL ns = 0) (hw : ∀ n ∈ ns, n.wf) : ∃ t : Rx, Gd t ∧ ns = t.flat := by
  obtain ⟨_, hr, hv⟩ := (faultL_zero ns).1 hf
  obtain ⟨t, ht, rfl⟩ := tree_of ns hv
  exact ⟨t, ⟨ht, fun n hn => ⟨hw n hn, hr n hn⟩⟩, rfl⟩
theorem meanLaws_any (P : MeanN) (ka : C4) (OA : ∀ w, Calls Tryd.prog 13 #[.string ⟨#[97]⟩] w fun e w' => e = .returned ka.v ∧ Below w.heap.size w w') (hka : ka.ok ∧ ka.has 97 = true ∧ ka.has 98 = false)
    (na nb nc : List Nd) (i : Int) (va vb vc : Value) (s : ByteArray) (hs : s.size ≤ maxLen) (w : World) (hT : Tab w) (hA : NsIn w va na) (hB : NsIn w vb nb) (hC : NsIn w vc nc) (wa : ∀ n ∈ na, n.wf) (wb : ∀ n ∈ nb, n.wf) (wc : ∀ n ∈ nc, n.wf) :
    Calls Tryd.prog 7 #[va, vb, vc, .string s, .int .i64 i] w fun e w' => e = .returned (.bool true) ∧ Below w.heap.size w w' := by
  by_cases hfa : faultL na = 0
  · by_cases hfb : faultL nb = 0
    · by_cases hfc : faultL nc = 0
      · by_cases hm : 60 < 2 * na.length + nb.length + nc.length + 4
        · exact meanLaws_many P ka OA hka na nb nc i va vb vc s hs w hT hA hB hC hfa hfb hfc hm
        · by_cases h4 : 400 < s.size
          · exact meanLaws_long P ka OA hka na nb nc i va vb vc s hs w hT hA hB hC hfa hfb hfc hm h4
          · by_cases h0 : i < 0
            · exact meanLaws_neg P ka OA hka na nb nc i va vb vc s hs w hT hA hB hC hfa hfb hfc hm (by omega) h0
            · by_cases h1 : (s.size : Int) < i
              · exact meanLaws_far P ka OA hka na nb nc i va vb vc s hs w hT hA hB hC hfa hfb hfc hm (by omega) h1
              · obtain ⟨a, ga, rfl⟩ := gd_of na hfa wa
                obtain ⟨b, gb, rfl⟩ := gd_of nb hfb wb
                obtain ⟨c, gc, rfl⟩ := gd_of nc hfc wc
                obtain ⟨j, rfl⟩ : ∃ j : Nat, i = j := ⟨i.toNat, by omega⟩
                exact meanLaws_main P ka OA hka a b c j va vb vc s hs w hT hA hB hC ga gb gc hfa hfb hfc hm (by omega) (by omega)
      · exact meanLaws_c P ka OA hka na nb nc i va vb vc s hs w hT hA hB hC hfa hfb hfc
    · exact meanLaws_b P ka OA hka na nb nc i va vb vc s hs w hT hA hB hC hfa hfb
  · exact meanLaws_a P ka OA hka na nb nc i va vb vc s hs w hT hA hB hC hfa
end Go.Proofs.YtajkkmnojfghoaaDoor
namespace Go.Proofs.YtajkkmnojfghoaaDoor
set_option linter.unusedSimpArgs false
set_option linter.unusedVariables false
set_option maxRecDepth 100000
open Go.RowKit

theorem either1_any (x y : Int) (w : World) :
    Calls Tryd.prog 52 #[.int .u64 x, .int .u64 y] w fun e w' => e = .returned (.int .u64 (bits .or .u64 x y)) ∧ w' = w := by
  go_enter Tryd.func52, Tryd.ntmps52
  go_wp2
  go_ret
  exact ⟨rfl, rfl⟩
theorem not1_any (x y : Int) (w : World) :
    Calls Tryd.prog 47 #[.int .u64 x, .int .u64 y] w fun e w' => e = .returned (.int .u64 (not64 x)) ∧ w' = w := by
  have hs : ¬ IntKind.u64.signed = true := by decide
  go_enter Tryd.func47, Tryd.ntmps47
  go_wp2
  all_goals first | (exfalso; exact hs ‹_›) | skip
  all_goals (go_ret; exact ⟨rfl, rfl⟩)
set_option maxHeartbeats 400000 in
theorem ones_any (x : Int) (w : World) :
    Calls Tryd.prog 48 #[.int .u64 x] w fun e w' => e = .returned (.int .i64 (ones x)) ∧ w' = w := by
  go_enter Tryd.func48, Tryd.ntmps48
  go_wp2
  go_ret
  exact ⟨rfl, rfl⟩
set_option maxHeartbeats 400000 in
theorem has_any (k : C4) (x : Int) (w : World) (h : 0 ≤ x) (h2 : x < 256) :
    Calls Tryd.prog 22 #[k.v, .int .u8 x] w fun e w' => e = .returned (.bool (k.hasI x)) ∧ Below w.heap.size w w' := by
  have hw := k.get (x/64).toNat (by omega)
  go_enter Tryd.func22, Tryd.ntmps22
  go_wp2
  go_ret
  exact ⟨rfl, (Below.refl _ _).alloc (Nat.le_refl _) _⟩
set_option maxHeartbeats 400000 in
theorem with_any (k : C4) (x : Int) (w : World) (h : 0 ≤ x) (h2 : x < 256) :
    Calls Tryd.prog 44 #[k.v, .int .u8 x] w fun e w' => e = .returned (k.add x).v ∧ Below w.heap.size w w' := by
  have hw := k.get (x/64).toNat (by omega)
  have hs := k.set (x/64).toNat (by omega)
  go_enter Tryd.func44, Tryd.ntmps44
  go_wp2
  refine bodyPost_ret (v := (k.add x).v) (by simp [results, Tryd.results44, go_sem]; exact ⟨rfl, rfl, rfl, rfl⟩) rfl ⟨rfl, ?_⟩
  exact ((Below.refl _ _).alloc (Nat.le_refl _) _).alloc (by simp) _

set_option maxHeartbeats 1000000 in
theorem join_any (g : Nat) (F : Int → Int → Int) (hg : ∀ (p q : Int) (w : World), Calls Tryd.prog g #[.int .u64 p, .int .u64 q] w fun e w' => e = .returned (.int .u64 (F p q)) ∧ w' = w)
    (he : ∀ args w, (callFunc g args).run Tryd.prog w = .ok (.enter g args) w) (x y : C4) (w : World) :
    Calls Tryd.prog 46 #[x.v, y.v, .func (.func g) #[] #[]] w fun e w' => e = .returned (jn F x y 4).v ∧ Below w.heap.size w w' := by
  have HG := (show Hid _ from hg)
  clear hg
  go_enter Tryd.func46, Tryd.ntmps46
  go_wp2
  go_loopw [9] (fun i wr => ∃ k : Nat, k ≤ 4 ∧ i = .int .i64 k ∧ Below w.heap.size w wr ∧ Hb wr w.heap.size x ∧ Hb wr (w.heap.size + 1) y ∧ Hb wr (w.heap.size + 1 + 1) z4 ∧ Hb wr (w.heap.size + 1 + 1 + 1) (jn F x y k)) (fun i _ => 4 - (intOf i).toNat)
  case atStart =>
    refine ⟨0, by omega, rfl, ?_, ?_, ?_, ?_, ?_⟩
    · exact ((((Below.refl _ _).alloc (Nat.le_refl _) _).alloc (by simp) _).alloc (by simp; omega) _).alloc (by simp; omega) _
    · exact (((Hb.new _ x _ rfl).alloc _).alloc _).alloc _
    · exact ((Hb.new _ y _ (by simp)).alloc _).alloc _
    · exact (Hb.new _ z4 _ (by simp)).alloc _
    · exact Hb.new _ (jn F x y 0) _ (by simp)
  case round =>
    obtain ⟨k, hk, rfl, hB, hX, hY, hZ, hJ⟩ := hrel
    by_cases hlt : k < 4
    · have cx := hX.cell k hlt
      have cy := hY.cell k hlt
      have cj := hJ.cell k hlt
      have fj := hJ.frozen k
      have i0 : (0 : Int) ≤ (k : Int) := by omega
      have i1 : (k : Int) < 4 := by omega
      have sx := fun v => (hX.other ⟨w.heap.size + 1 + 1 + 1, k, none⟩ v (by simp only; omega)).cell k hlt
      have sy := fun v => (hY.other ⟨w.heap.size + 1 + 1 + 1, k, none⟩ v (by simp only; omega)).cell k hlt
      go_wp2_with fail
      go_region_held3 (fun w' => w'.cell? ⟨w.heap.size, k, none⟩ = some (.int .u64 (x.w k)) ∧ w'.cell? ⟨w.heap.size + 1, k, none⟩ = some (.int .u64 (y.w k))) (go_keep)
        (first | (refine (HG.out _ _ _).mono ?_; rintro e w' ⟨rfl, rfl⟩))
      all_goals go_wp2
      refine ⟨⟨k + 1, by omega, by go_num, ?_, ?_, ?_, ?_, ?_⟩, by simp [intOf]; omega⟩
      · exact (hB.setCell (by simp; omega) _).drew
      · exact (hX.other _ _ (by simp only; omega)).drew
      · exact (hY.other _ _ (by simp only; omega)).drew
      · exact (hZ.other _ _ (by simp only; omega)).drew
      · rw [← jn_put F x y k hlt]
        exact (hJ.store k hlt _).drew
    · have hk4 : k = 4 := by omega
      subst hk4
      have c0 := hJ.c0
      have c1 := hJ.c1
      have c2 := hJ.c2
      have c3 := hJ.c3
      have d0 := hZ.c0
      have d1 := hZ.c1
      have d2 := hZ.c2
      have d3 := hZ.c3
      have f0 := hZ.frozen 0
      have f1 := hZ.frozen 1
      have f2 := hZ.frozen 2
      have f3 := hZ.frozen 3
      go_wp2
      have hq := hZ.put4 (jn F x y 4)
      refine bodyPost_ret (v := (jn F x y 4).v) (by simp [results, Tryd.results46, go_sem, hq.c0, hq.c1, hq.c2, hq.c3]) rfl ⟨rfl, ?_⟩
      exact (((hB.setCell (by simp; omega) _).setCell (by simp; omega) _).setCell (by simp; omega) _).setCell (by simp; omega) _

theorem enters_either1 : ∀ args w, (callFunc 52 args).run Tryd.prog w = .ok (.enter 52 args) w := fun _ _ => by kernel_rfl
theorem enters_not1 : ∀ args w, (callFunc 47 args).run Tryd.prog w = .ok (.enter 47 args) w := fun _ _ => by kernel_rfl
set_option maxHeartbeats 400000 in
theorem either_any (x y : C4) (w : World) :
    Calls Tryd.prog 24 #[x.v, y.v] w fun e w' => e = .returned (x.or y).v ∧ Below w.heap.size w w' := by
  go_enter Tryd.func24, Tryd.ntmps24
  go_wp2_with fail
  refine (join_any 52 _ either1_any enters_either1 x y _).mono ?_
  rintro e w1 ⟨rfl, hb⟩
  have hB : Below w.heap.size w w1 := ((((Below.refl _ _).alloc (Nat.le_refl _) _).alloc (by simp) _).alloc (by simp; omega) _).trans (hb.mono (by simp; omega))
  have hZ : Hb w1 (w.heap.size + 1 + 1) z4 := (Hb.new _ z4 _ (by simp)).below hb (by simp)
  obtain ⟨d0, d1, d2, d3, f0, f1, f2, f3⟩ := hZ.all
  go_wp2
  have hq := hZ.put4 (x.or y)
  refine bodyPost_ret (v := (x.or y).v) (by have g0 := hq.c0; have g1 := hq.c1; have g2 := hq.c2; have g3 := hq.c3; simp [jn, C4.and, C4.or, C4.not] at g0 g1 g2 g3 ⊢; simp [results, Tryd.results24, go_sem, C4.and, C4.or, g0, g1, g2, g3]) rfl ⟨rfl, ?_⟩
  exact below_put4 hB (by omega) _
end Go.Proofs.YtajkkmnojfghoaaDoor
namespace Go.Proofs.YtajkkmnojfghoaaDoor
set_option linter.unusedSimpArgs false
set_option linter.unusedVariables false
set_option maxRecDepth 100000
open Go.RowKit

set_option maxHeartbeats 400000 in
theorem not_any (x : C4) (w : World) :
    Calls Tryd.prog 15 #[x.v] w fun e w' => e = .returned (x.not).v ∧ Below w.heap.size w w' := by
  go_enter Tryd.func15, Tryd.ntmps15
  go_wp2_with fail
  refine (join_any 47 (fun p _ => not64 p) not1_any enters_not1 x x _).mono ?_
  rintro e w1 ⟨rfl, hb⟩
  have hB : Below w.heap.size w w1 := (((Below.refl _ _).alloc (Nat.le_refl _) _).alloc (by simp) _).trans (hb.mono (by simp; omega))
  have hZ : Hb w1 (w.heap.size + 1) z4 := (Hb.new _ z4 _ (by simp)).below hb (by simp)
  obtain ⟨d0, d1, d2, d3, f0, f1, f2, f3⟩ := hZ.all
  go_wp2
  have hq := hZ.put4 (x.not)
  refine bodyPost_ret (v := (x.not).v) (by have g0 := hq.c0; have g1 := hq.c1; have g2 := hq.c2; have g3 := hq.c3; simp [jn, C4.not] at g0 g1 g2 g3 ⊢; simp [results, Tryd.results15, go_sem, C4.not, g0, g1, g2, g3]) rfl ⟨rfl, ?_⟩
  exact below_put4 hB (by omega) _

theorem index4_0 (k : C4) (w : World) : (Instr.index 24 k.v (.int .i64 0)).run Tryd.prog w = .ok (.int .u64 k.a) w := by kernel_rfl
theorem index4_1 (k : C4) (w : World) : (Instr.index 24 k.v (.int .i64 1)).run Tryd.prog w = .ok (.int .u64 k.b) w := by kernel_rfl
theorem index4_2 (k : C4) (w : World) : (Instr.index 24 k.v (.int .i64 2)).run Tryd.prog w = .ok (.int .u64 k.c) w := by kernel_rfl
theorem index4_3 (k : C4) (w : World) : (Instr.index 24 k.v (.int .i64 3)).run Tryd.prog w = .ok (.int .u64 k.d) w := by kernel_rfl
theorem index4 (k : C4) (i : Nat) (h : i < 4) (w : World) : (Instr.index 24 k.v (.int .i64 i)).run Tryd.prog w = .ok (.int .u64 (k.w i)) w := by
  match i, h with
  | 0, _ => exact index4_0 k w
  | 1, _ => exact index4_1 k w
  | 2, _ => exact index4_2 k w
  | 3, _ => exact index4_3 k w

set_option maxHeartbeats 400000 in
theorem many_any (k : C4) (w : World) :
    Calls Tryd.prog 17 #[k.v] w fun e w' => e = .returned (.int .i64 (k.many 4)) ∧ Below w.heap.size w w' := by
  go_enter Tryd.func17, Tryd.ntmps17
  go_wp2
  go_loop [3, 7] (fun n i => ∃ j : Nat, j ≤ 4 ∧ i = .int .i64 j ∧ n = .int .i64 (k.many j)) (fun _ i => 4 - (intOf i).toNat)
  case atStart => exact ⟨0, by omega, rfl, rfl⟩
  case round =>
    obtain ⟨j, hj, rfl, rfl⟩ := hrel
    by_cases hlt : j < 4
    · have hi := index4 k j hlt
      go_wp2_with (first | (go_at_call 48; refine (ones_any _ _).mono ?_; rintro e w' ⟨rfl, rfl⟩))
      go_round
      case rel => exact ⟨j + 1, by omega, by go_num, rfl⟩
      case measure => simp [intOf]; omega
    · have hj4 : j = 4 := by omega
      subst hj4
      go_wp2
      go_ret
      exact ⟨rfl, (Below.refl _ _).alloc (Nat.le_refl _) _⟩

set_option maxHeartbeats 1000000 in
theorem of_any (s : ByteArray) (w : World) (hs : s.size ≤ maxLen) :
    Calls Tryd.prog 13 #[.string s] w fun e w' => e = .returned (C4.ofL s.data.toList).v ∧ Below w.heap.size w w' := by
  unfold maxLen at hs
  go_enter Tryd.func13, Tryd.ntmps13
  go_wp2
  go_loopw [7] (fun i wr => ∃ k : Nat, k ≤ s.size ∧ i = .int .i64 k ∧ Below w.heap.size w wr ∧ Hb wr w.heap.size z4 ∧ Hb wr (w.heap.size + 1) (C4.ofL (s.data.toList.take k))) (fun i _ => s.size - (intOf i).toNat)
  case atStart =>
    refine ⟨0, by omega, rfl, ?_, ?_, ?_⟩
    · exact ((Below.refl _ _).alloc (Nat.le_refl _) _).alloc (by simp) _
    · exact (Hb.new _ z4 _ rfl).alloc _
    · exact Hb.new _ z4 _ (by simp)
  case round =>
    obtain ⟨k, hk, rfl, hB, hZ, hC⟩ := hrel
    by_cases hlt : k < s.size
    · obtain ⟨c0, c1, c2, c3, e0, e1, e2, e3⟩ := hC.all
      have i0 : (0 : Int) ≤ (k : Int) := by omega
      have i1 : (k : Int) < (s.size : Int) := by omega
      have hg : s.data.toList[k]? = some s[k] := by
        rw [List.getElem?_eq_getElem (by simpa using hlt)]; rfl
      have hts : s.data.toList.take (k + 1) = s.data.toList.take k ++ [s[k]] := by
        rw [List.take_succ_eq_append_getElem (by simpa using hlt)]; rfl
      have HT : Hid (C4.ofL (s.data.toList.take (k + 1)) = (C4.ofL (s.data.toList.take k)).add (s[k].toNat : Int)) := by rw [hts, C4.ofL_snoc]; exact rfl
      clear hts hg
      have hlb : (s[k].toNat : Int) < 256 := by have := s[k].toNat_lt; omega
      have hl0 : (0 : Int) ≤ (s[k].toNat : Int) := by omega
      go_wp2_with fail
      go_region_with (first | (go_at_call 44; refine (with_any (C4.ofL (s.data.toList.take k)) _ _ hl0 hlb).mono ?_; rintro e w' ⟨rfl, hb⟩; have hC1 := Hb.below hC.drew hb hC.lt; obtain ⟨g0, g1, g2, g3, q0, q1, q2, q3⟩ := hC1.all))
      all_goals
        go_wp2
        refine ⟨⟨k + 1, by omega, by go_num, ?_, ?_, ?_⟩, by simp [intOf]; omega⟩
        · exact below_put4 (hB.drew.trans (hb.mono hB.size)) (by omega) _
        · exact Hb.other4 (Hb.below hZ.drew hb hZ.lt) _ (by omega)
        · rw [HT.out]; exact hC1.put4 _
    · have hk4 : k = s.size := by omega
      subst hk4
      have ht : s.data.toList.take s.size = s.data.toList := List.take_of_length_le (by simp)
      rw [ht] at hC
      clear ht
      obtain ⟨c0, c1, c2, c3, e0, e1, e2, e3⟩ := hC.all
      obtain ⟨d0, d1, d2, d3, f0, f1, f2, f3⟩ := hZ.all
      go_wp2
      have hq := hZ.put4 (C4.ofL s.data.toList)
      refine bodyPost_ret (v := (C4.ofL s.data.toList).v) (by simp [results, Tryd.results13, go_sem, hq.c0, hq.c1, hq.c2, hq.c3]) rfl ⟨rfl, ?_⟩
      exact below_put4 hB (by omega) _
end Go.Proofs.YtajkkmnojfghoaaDoor
namespace Go.Proofs.YtajkkmnojfghoaaDoor
set_option linter.unusedSimpArgs false
set_option linter.unusedVariables false
open Go.RowKit
def kA : C4 := C4.ofL [97]
def kB : C4 := C4.ofL [98]
theorem ofA : ∀ w, Calls Tryd.prog 13 #[.string ⟨#[97]⟩] w fun e w' => e = .returned kA.v ∧ Below w.heap.size w w' := fun w => of_any ⟨#[97]⟩ w (by decide)
theorem ofB : ∀ w, Calls Tryd.prog 13 #[.string ⟨#[98]⟩] w fun e w' => e = .returned kB.v ∧ Below w.heap.size w w' := fun w => of_any ⟨#[98]⟩ w (by decide)
theorem kA_ok : kA.ok ∧ kA.has 97 = true := ⟨ofL_ok _, by unfold kA; rw [ofL_has _ _ (by decide)]; decide⟩
theorem kB_ok : kB.ok ∧ kB.has 98 = true := ⟨ofL_ok _, by unfold kB; rw [ofL_has _ _ (by decide)]; decide⟩
theorem kA_not : kA.ok ∧ kA.has 97 = true ∧ kA.has 98 = false := ⟨ofL_ok _, kA_ok.2, by unfold kA; rw [ofL_has _ _ (by decide)]; decide⟩
end Go.Proofs.YtajkkmnojfghoaaDoor
