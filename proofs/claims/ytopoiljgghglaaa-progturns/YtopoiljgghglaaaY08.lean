/- The law ProgTurns, walked from what the document asks of package sim, over the landed prog and rex. (Made by wip/tools/genpti.py.) The landed prog: what is a step, what a step's Op has. The landed prog: Check. (Made by wip/tools/genpk2.py.) The landed prog: Check. -/
import Derived.Test.YtopoiljgghglaaaY05
import Derived.Test.YtopoiljgghglaaaY07
import Derived.Deep.RegionHeld3
import Derived.BigRegion
import Derived.Test.YtopoiljgghglaaaY02
import Derived.BigQuiet
import Derived.Lib.QuietBelow
namespace Go.Proofs.Ytopoiljgghglaaa
set_option linter.unusedSimpArgs false
set_option linter.unusedVariables false
set_option maxRecDepth 100000
open Go.RowKit
set_option maxHeartbeats 8000000 in
theorem progTurns_bad {X : World → Prop} (hXb : Lasts X) (P : SimC X) (L : SimL X) (ns : List Nd) (v : Value) (s : ByteArray) (hs : s.size ≤ maxLen) (i : Int) (w : World) (hX : X w) (hN : NsIn w v ns) (wN : ∀ n ∈ ns, n.wf) (hf : ¬ faultL ns = 0) :
    Calls Try.prog 3 #[v, .string s, .int .i64 i] w fun e w' => e = .returned (.bool true) ∧ Below w.heap.size w w' := by
  have HO : Hid (∀ w', Below w.heap.size w w' → _) := fun w' _ => ofA w'
  have HT1 : Hid (∀ (t : Rx), t.Ok → ∀ v w', NsIn w' v t.flat → faultL t.flat = 0 → _) := fun t ht v w' h hf => pof_tree t ht v w' h hf
  have HS1 : Hid (∀ v w', Below w.heap.size w w' → SsIn w' v tA.prog → _) := fun v w' hb h => tA_long L ⟨#[97]⟩ (by decide) tA_a v w' (hXb w w' hX hb) h
  have HTU : Hid (∀ (ms : List Nd) v w', NsIn w' v ms → _) := fun ms v w' h => rturn_any ms v w' h
  have B := hid (Below.refl w.heap.size w)
  unfold maxLen at hs
  have HB : Hid (∀ w', Below w.heap.size w w' → _) := fun w' hb => HTU.out ns v w' (hN.below hb)
  rw [show errV (faultL ns) = .iface 58 (.int .i64 (faultL ns)) by unfold errV; rw [if_neg hf], if_neg hf] at HB
  obtain ⟨va, vc, rfl, vm⟩ := nsIn_form hN
  unfold maxLen at vm
  clear hN P L hX hXb HTU
  go_enter Try.func3, Try.ntmps3
  go_wp2_with fail
  refine Calls.mono (HO.out _ B.out) ?_
  rintro e w1 ⟨rfl, hb⟩
  replace B := hid (B.out.trans (hb.mono B.out.size))
  clear hb
  go_wp2_with fail
  obtain ⟨o, ho⟩ : ∃ o : Obj, o = .cells #[.int .i64 1, .int .u64 kA.a, .int .u64 kA.b, .int .u64 kA.c, .int .u64 kA.d] 33 := ⟨_, rfl⟩
  have hone := nsIn_one w1 ⟨1, kA⟩
  rw [← ho] at hone ⊢
  have HBo : Hid (Below w1.heap.size w1 (w1.alloc o)) := (Below.refl _ _).alloc (Nat.le_refl _) _
  have HOF := hid (HT1.out tA tA_ok _ (w1.alloc o) hone tA_fault)
  clear ho hone
  refine Calls.mono HOF.out ?_
  rintro e w2 ⟨u, rfl, hu, hb⟩
  replace B := hid (B.out.trans ((HBo.out.trans (hb.mono HBo.out.size)).mono B.out.size))
  have HU := hid hu
  obtain ⟨ua, uc, rfl, _⟩ := ssIn_form hu
  clear hb hu HOF HBo
  go_wp2_with fail
  refine Calls.mono (HS1.out _ _ B.out HU.out) ?_
  rintro e w3 ⟨rfl, hb⟩
  replace B := hid (B.out.trans (hb.mono B.out.size))
  clear hb
  clear HU
  go_wp2_with fail
  refine Calls.mono (HB.out _ B.out) ?_
  rintro e w5 ⟨u5, rfl, hb, hu5⟩
  replace B := hid (B.out.trans (hb.mono B.out.size))
  clear hb
  obtain ⟨ua5, uc5, rfl, _⟩ := nsIn_form hu5
  clear hu5
  go_wp2
  go_ret
  exact ⟨rfl, B.out⟩
set_option maxHeartbeats 8000000 in
theorem progTurns_err {X : World → Prop} (hXb : Lasts X) (P : SimC X) (L : SimL X) (t : Rx) (ht : t.Ok) (v : Value) (s : ByteArray) (hs : s.size ≤ maxLen) (i : Int) (w : World) (hX : X w) (hN : NsIn w v t.flat) (wN : ∀ n ∈ t.flat, n.wf) (hf : faultL t.flat = 0) (hz : ¬ simE t.prog s.size i = 0) :
    Calls Try.prog 3 #[v, .string s, .int .i64 i] w fun e w' => e = .returned (.bool true) ∧ Below w.heap.size w w' := by
  have HO : Hid (∀ w', Below w.heap.size w w' → _) := fun w' _ => ofA w'
  have HT1 : Hid (∀ (t : Rx), t.Ok → ∀ v w', NsIn w' v t.flat → faultL t.flat = 0 → _) := fun t ht v w' h hf => pof_tree t ht v w' h hf
  have HS1 : Hid (∀ v w', Below w.heap.size w w' → SsIn w' v tA.prog → _) := fun v w' hb h => tA_long L ⟨#[97]⟩ (by decide) tA_a v w' (hXb w w' hX hb) h
  have HTU : Hid (∀ (ms : List Nd) v w', NsIn w' v ms → _) := fun ms v w' h => rturn_any ms v w' h
  have B := hid (Below.refl w.heap.size w)
  unfold maxLen at hs
  obtain ⟨h60, hops, hv⟩ := (faultL_zero t.flat).1 hf
  have hpf := prog_fault t h60
  have hpw := prog_wf t h60 wN
  have e2 : turE (turE t.flat) = t.flat := turn_twice t.flat hv
  have hf2 : faultL (turE t.flat) = 0 := turn_good t.flat hf
  have HP : Hid (∀ u w', Below w.heap.size w w' → SsIn w' u t.prog → _) := fun u w' hb h => P.bad t.prog u s i w' h hpw hs hz
  rw [show errV (simE t.prog s.size i) = .iface 58 (.int .i64 (simE t.prog s.size i)) by unfold errV; rw [if_neg hz]] at HP
  have HB : Hid (∀ w', Below w.heap.size w w' → _) := fun w' hb => HTU.out t.flat v w' (hN.below hb)
  rw [hf, if_pos rfl, show errV 0 = .nilIface from rfl] at HB
  have HB2 : Hid (∀ u w', NsIn w' u (turE t.flat) → _) := fun u w' h => HTU.out (turE t.flat) u w' h
  rw [hf2, if_pos rfl, e2, show errV 0 = .nilIface from rfl] at HB2
  have HO1 : Hid (∀ w', Below w.heap.size w w' → _) := fun w' hb => pof_tree t ht v w' (hN.below hb) hf
  have HO2 : Hid (∀ u w', NsIn w' u t.flat → _) := fun u w' h => pof_tree t ht u w' h hf
  obtain ⟨va, vc, rfl, vm⟩ := nsIn_form hN
  clear hN P L hX hXb hpf hpw HTU
  go_enter Try.func3, Try.ntmps3
  go_wp2_with fail
  refine Calls.mono (HO.out _ B.out) ?_
  rintro e w1 ⟨rfl, hb⟩
  replace B := hid (B.out.trans (hb.mono B.out.size))
  clear hb
  go_wp2_with fail
  obtain ⟨o, ho⟩ : ∃ o : Obj, o = .cells #[.int .i64 1, .int .u64 kA.a, .int .u64 kA.b, .int .u64 kA.c, .int .u64 kA.d] 33 := ⟨_, rfl⟩
  have hone := nsIn_one w1 ⟨1, kA⟩
  rw [← ho] at hone ⊢
  have HBo : Hid (Below w1.heap.size w1 (w1.alloc o)) := (Below.refl _ _).alloc (Nat.le_refl _) _
  have HOF := hid (HT1.out tA tA_ok _ (w1.alloc o) hone tA_fault)
  clear ho hone
  refine Calls.mono HOF.out ?_
  rintro e w2 ⟨u, rfl, hu, hb⟩
  replace B := hid (B.out.trans ((HBo.out.trans (hb.mono HBo.out.size)).mono B.out.size))
  have HU := hid hu
  obtain ⟨ua, uc, rfl, _⟩ := ssIn_form hu
  clear hb hu HOF HBo
  go_wp2_with fail
  refine Calls.mono (HS1.out _ _ B.out HU.out) ?_
  rintro e w3 ⟨rfl, hb⟩
  replace B := hid (B.out.trans (hb.mono B.out.size))
  clear hb
  clear HU
  go_wp2_with fail
  refine Calls.mono (HB.out _ B.out) ?_
  rintro e w5 ⟨u5, rfl, hb, hu5⟩
  replace B := hid (B.out.trans (hb.mono B.out.size))
  clear hb
  have HU5 := hid hu5
  obtain ⟨ua5, uc5, rfl, _⟩ := nsIn_form hu5
  clear hu5
  go_wp2_with fail
  refine Calls.mono (HB2.out _ _ HU5.out) ?_
  rintro e w6 ⟨u6, rfl, hb, hu6⟩
  replace B := hid (B.out.trans (hb.mono B.out.size))
  clear hb
  have HU6 := hid hu6
  obtain ⟨ua6, uc6, rfl, _⟩ := nsIn_form hu6
  clear hu6 HU5
  go_wp2_with fail
  refine Calls.mono (HO1.out _ B.out) ?_
  rintro e w7 ⟨p7, rfl, hp7, hb⟩
  replace HU6 := hid (HU6.out.below hb)
  replace B := hid (B.out.trans (hb.mono B.out.size))
  clear hb
  have HP7 := hid hp7
  obtain ⟨pa7, pc7, rfl, _⟩ := ssIn_form hp7
  clear hp7
  go_wp2_with fail
  refine Calls.mono (HO2.out _ _ HU6.out) ?_
  rintro e w8 ⟨p8, rfl, hp8, hb⟩
  replace HP7 := hid (HP7.out.below hb)
  replace B := hid (B.out.trans (hb.mono B.out.size))
  clear hb
  have HP8 := hid hp8
  obtain ⟨pa8, pc8, rfl, _⟩ := ssIn_form hp8
  clear hp8 HU6
  go_wp2_with fail
  refine Calls.mono (HP.out _ _ B.out HP7.out) ?_
  rintro e w9 ⟨x9, rfl, hb, hx9⟩
  replace HP8 := hid (HP8.out.below hb)
  replace B := hid (B.out.trans (hb.mono B.out.size))
  clear hb
  have HX9 := hid hx9
  obtain ⟨xa9, xc9, rfl, _⟩ := isIn_form hx9
  clear hx9 HP7
  go_wp2_with fail
  refine Calls.mono (HP.out _ _ B.out HP8.out) ?_
  rintro e w10 ⟨x10, rfl, hb, hx10⟩
  replace HX9 := hid (HX9.out.below hb)
  replace B := hid (B.out.trans (hb.mono B.out.size))
  clear hb
  obtain ⟨xa10, xc10, rfl, _⟩ := isIn_form hx10
  have HI8 := hid (ints_any ([] : List Nat) ([] : List Nat) _ _ w10 HX9.out hx10)
  rw [beq_self_eq_true] at HI8
  clear hx10 HX9 HP8
  go_wp2_with fail
  refine Calls.mono HI8.out ?_
  rintro e w11 ⟨rfl, hb⟩
  replace B := hid (B.out.trans (hb.mono B.out.size))
  clear hb
  go_wp2_with fail
  go_big_region
  all_goals go_wp2
  all_goals go_ret
  all_goals exact ⟨rfl, B.out.drew⟩
set_option maxHeartbeats 8000000 in
theorem progTurns_ok {X : World → Prop} (hXb : Lasts X) (P : SimC X) (L : SimL X) (t : Rx) (ht : t.Ok) (v : Value) (s : ByteArray) (hs : s.size ≤ maxLen) (i : Nat) (w : World) (hX : X w) (hN : NsIn w v t.flat) (wN : ∀ n ∈ t.flat, n.wf) (hf : faultL t.flat = 0) (hz : simE t.prog s.size i = 0) :
    Calls Try.prog 3 #[v, .string s, .int .i64 (i : Int)] w fun e w' => e = .returned (.bool true) ∧ Below w.heap.size w w' := by
  have HO : Hid (∀ w', Below w.heap.size w w' → _) := fun w' _ => ofA w'
  have HT1 : Hid (∀ (t : Rx), t.Ok → ∀ v w', NsIn w' v t.flat → faultL t.flat = 0 → _) := fun t ht v w' h hf => pof_tree t ht v w' h hf
  have HS1 : Hid (∀ v w', Below w.heap.size w w' → SsIn w' v tA.prog → _) := fun v w' hb h => tA_long L ⟨#[97]⟩ (by decide) tA_a v w' (hXb w w' hX hb) h
  have HTU : Hid (∀ (ms : List Nd) v w', NsIn w' v ms → _) := fun ms v w' h => rturn_any ms v w' h
  have B := hid (Below.refl w.heap.size w)
  unfold maxLen at hs
  obtain ⟨h60, hops, hv⟩ := (faultL_zero t.flat).1 hf
  have hpf := prog_fault t h60
  have hpw := prog_wf t h60 wN
  have e2 : turE (turE t.flat) = t.flat := turn_twice t.flat hv
  have hf2 : faultL (turE t.flat) = 0 := turn_good t.flat hf
  obtain ⟨l, hl⟩ := run_total t.prog s.data.toList i
  have HP : Hid (∀ u w', Below w.heap.size w w' → SsIn w' u t.prog → _) := fun u w' hb h => P.ends t.prog u s i l w' (hXb w w' hX hb) h hpw hz hl
  have HB : Hid (∀ w', Below w.heap.size w w' → _) := fun w' hb => HTU.out t.flat v w' (hN.below hb)
  rw [hf, if_pos rfl, show errV 0 = .nilIface from rfl] at HB
  have HB2 : Hid (∀ u w', NsIn w' u (turE t.flat) → _) := fun u w' h => HTU.out (turE t.flat) u w' h
  rw [hf2, if_pos rfl, e2, show errV 0 = .nilIface from rfl] at HB2
  have HO1 : Hid (∀ w', Below w.heap.size w w' → _) := fun w' hb => pof_tree t ht v w' (hN.below hb) hf
  have HO2 : Hid (∀ u w', NsIn w' u t.flat → _) := fun u w' h => pof_tree t ht u w' h hf
  obtain ⟨va, vc, rfl, vm⟩ := nsIn_form hN
  clear hN P L hX hXb hpf hpw HTU
  go_enter Try.func3, Try.ntmps3
  go_wp2_with fail
  refine Calls.mono (HO.out _ B.out) ?_
  rintro e w1 ⟨rfl, hb⟩
  replace B := hid (B.out.trans (hb.mono B.out.size))
  clear hb
  go_wp2_with fail
  obtain ⟨o, ho⟩ : ∃ o : Obj, o = .cells #[.int .i64 1, .int .u64 kA.a, .int .u64 kA.b, .int .u64 kA.c, .int .u64 kA.d] 33 := ⟨_, rfl⟩
  have hone := nsIn_one w1 ⟨1, kA⟩
  rw [← ho] at hone ⊢
  have HBo : Hid (Below w1.heap.size w1 (w1.alloc o)) := (Below.refl _ _).alloc (Nat.le_refl _) _
  have HOF := hid (HT1.out tA tA_ok _ (w1.alloc o) hone tA_fault)
  clear ho hone
  refine Calls.mono HOF.out ?_
  rintro e w2 ⟨u, rfl, hu, hb⟩
  replace B := hid (B.out.trans ((HBo.out.trans (hb.mono HBo.out.size)).mono B.out.size))
  have HU := hid hu
  obtain ⟨ua, uc, rfl, _⟩ := ssIn_form hu
  clear hb hu HOF HBo
  go_wp2_with fail
  refine Calls.mono (HS1.out _ _ B.out HU.out) ?_
  rintro e w3 ⟨rfl, hb⟩
  replace B := hid (B.out.trans (hb.mono B.out.size))
  clear hb
  clear HU
  go_wp2_with fail
  refine Calls.mono (HB.out _ B.out) ?_
  rintro e w5 ⟨u5, rfl, hb, hu5⟩
  replace B := hid (B.out.trans (hb.mono B.out.size))
  clear hb
  have HU5 := hid hu5
  obtain ⟨ua5, uc5, rfl, _⟩ := nsIn_form hu5
  clear hu5
  go_wp2_with fail
  refine Calls.mono (HB2.out _ _ HU5.out) ?_
  rintro e w6 ⟨u6, rfl, hb, hu6⟩
  replace B := hid (B.out.trans (hb.mono B.out.size))
  clear hb
  have HU6 := hid hu6
  obtain ⟨ua6, uc6, rfl, _⟩ := nsIn_form hu6
  clear hu6 HU5
  go_wp2_with fail
  refine Calls.mono (HO1.out _ B.out) ?_
  rintro e w7 ⟨p7, rfl, hp7, hb⟩
  replace HU6 := hid (HU6.out.below hb)
  replace B := hid (B.out.trans (hb.mono B.out.size))
  clear hb
  have HP7 := hid hp7
  obtain ⟨pa7, pc7, rfl, _⟩ := ssIn_form hp7
  clear hp7
  go_wp2_with fail
  refine Calls.mono (HO2.out _ _ HU6.out) ?_
  rintro e w8 ⟨p8, rfl, hp8, hb⟩
  replace HP7 := hid (HP7.out.below hb)
  replace B := hid (B.out.trans (hb.mono B.out.size))
  clear hb
  have HP8 := hid hp8
  obtain ⟨pa8, pc8, rfl, _⟩ := ssIn_form hp8
  clear hp8 HU6
  go_wp2_with fail
  refine Calls.mono (HP.out _ _ B.out HP7.out) ?_
  rintro e w9 ⟨x9, rfl, hb, hx9⟩
  replace HP8 := hid (HP8.out.below hb)
  replace B := hid (B.out.trans (hb.mono B.out.size))
  clear hb
  have HX9 := hid hx9
  obtain ⟨xa9, xc9, rfl, _⟩ := isIn_form hx9
  clear hx9 HP7
  go_wp2_with fail
  refine Calls.mono (HP.out _ _ B.out HP8.out) ?_
  rintro e w10 ⟨x10, rfl, hb, hx10⟩
  replace HX9 := hid (HX9.out.below hb)
  replace B := hid (B.out.trans (hb.mono B.out.size))
  clear hb
  obtain ⟨xa10, xc10, rfl, _⟩ := isIn_form hx10
  have HI8 := hid (ints_any l l _ _ w10 HX9.out hx10)
  rw [beq_self_eq_true] at HI8
  clear hx10 HX9 HP8
  go_wp2_with fail
  refine Calls.mono HI8.out ?_
  rintro e w11 ⟨rfl, hb⟩
  replace B := hid (B.out.trans (hb.mono B.out.size))
  clear hb
  go_wp2_with fail
  go_big_region
  all_goals go_wp2
  all_goals go_ret
  all_goals exact ⟨rfl, B.out.drew⟩
theorem progTurns_any {X : World → Prop} (hXb : Lasts X) (P : SimC X) (L : SimL X) (ns : List Nd) (v : Value) (s : ByteArray) (hs : s.size ≤ maxLen) (i : Int) (w : World) (hX : X w) (hN : NsIn w v ns) (wN : ∀ n ∈ ns, n.wf) :
    Calls Try.prog 3 #[v, .string s, .int .i64 i] w fun e w' => e = .returned (.bool true) ∧ Below w.heap.size w w' := by
  by_cases hf : faultL ns = 0
  · obtain ⟨t, ht, rfl⟩ := tree_of ns ((faultL_zero ns).1 hf).2.2
    by_cases hz : simE t.prog s.size i = 0
    · obtain ⟨_, _, hi0, _⟩ := (simE_zero _ _ _).1 hz
      obtain ⟨k, rfl⟩ : ∃ k : Nat, i = (k : Int) := ⟨i.toNat, by omega⟩
      exact progTurns_ok hXb P L t ht v s hs k w hX hN wN hf hz
    · exact progTurns_err hXb P L t ht v s hs i w hX hN wN hf hz
  · exact progTurns_bad hXb P L ns v s hs i w hX hN wN hf
end Go.Proofs.Ytopoiljgghglaaa
namespace Go.Proofs.Ytopoiljgghglaaa
set_option linter.unusedSimpArgs false
set_option linter.unusedVariables false
set_option maxRecDepth 100000
open Go.RowKit
theorem isStep_any (N : Nat) (hN : N ≤ 9223372036854775807) (x : Int) (b : Nat) (a : Option Addr) (cap : Nat) (w : World) (hb : w.cell? ⟨b, 0, none⟩ = some (.slice a N cap)) :
    Calls Try.prog 32 #[.int .i64 x, .pointer (some ⟨b, 0, none⟩)] w fun e w' => e = .returned (.bool (decide (0 ≤ x ∧ x < (N : Int)))) ∧ w' = w := by
  by_cases h0 : 0 ≤ x
  · by_cases h1 : x < (N : Int)
    · go_enter Try.func32, Try.ntmps32
      go_wp2
      go_ret
      exact ⟨by first | (simp [h0, h1]; done) | (simp [h0]; omega), rfl⟩
    · go_enter Try.func32, Try.ntmps32
      go_wp2
      go_ret
      exact ⟨by first | (simp [h0, h1]; done) | (simp [h0]; omega), rfl⟩
  · go_enter Try.func32, Try.ntmps32
    go_wp2
    go_ret
    exact ⟨by first | (simp [h0]; done) | (simp; omega), rfl⟩
/-- A step with the fields alone that its Op has. -/
def bareS (s : St) : St := if s.op = 1 then ⟨s.op, s.c, s.x, 0⟩ else if s.op = 2 then ⟨s.op, z4, s.x, s.y⟩ else if s.op = 3 ∨ s.op = 4 then ⟨s.op, z4, s.x, 0⟩ else ⟨s.op, z4, 0, 0⟩
theorem bare_any (s : St) (w : World) : Calls Try.prog 36 #[s.v] w fun e w' => e = .returned (bareS s).v ∧ Below w.heap.size w w' := by
  obtain ⟨op, c, x, y⟩ := s
  have HB : Hid (∀ o1 o2, Below w.heap.size w ((w.alloc o1).alloc o2)) := fun o1 o2 => ((Below.refl _ _).alloc (Nat.le_refl _) _).alloc (by simp) _
  by_cases h1 : op = 1
  · subst h1
    have HF : Hid (bareS ⟨1, c, x, y⟩ = ⟨1, c, x, 0⟩) := by show _ = _; unfold bareS; rw [if_pos rfl]
    go_enter Try.func36, Try.ntmps36
    go_wp2
    rw [HF.out]
    refine bodyPost_ret (by simp [results, Try.results36, go_sem, z4]) rfl ⟨rfl, HB.out _ _⟩
  by_cases h2 : op = 2
  · subst h2
    have HF : Hid (bareS ⟨2, c, x, y⟩ = ⟨2, z4, x, y⟩) := by show _ = _; unfold bareS; rw [if_neg (by simp), if_pos rfl]
    go_enter Try.func36, Try.ntmps36
    go_wp2
    rw [HF.out]
    refine bodyPost_ret (by simp [results, Try.results36, go_sem, z4]) rfl ⟨rfl, HB.out _ _⟩
  by_cases h3 : op = 3
  · subst h3
    have HF : Hid (bareS ⟨3, c, x, y⟩ = ⟨3, z4, x, 0⟩) := by show _ = _; unfold bareS; rw [if_neg (by simp), if_neg (by simp), if_pos (by simp)]
    go_enter Try.func36, Try.ntmps36
    go_wp2
    rw [HF.out]
    refine bodyPost_ret (by simp [results, Try.results36, go_sem, z4]) rfl ⟨rfl, HB.out _ _⟩
  by_cases h4 : op = 4
  · subst h4
    have HF : Hid (bareS ⟨4, c, x, y⟩ = ⟨4, z4, x, 0⟩) := by show _ = _; unfold bareS; rw [if_neg (by simp), if_neg (by simp), if_pos (by simp)]
    go_enter Try.func36, Try.ntmps36
    go_wp2
    rw [HF.out]
    refine bodyPost_ret (by simp [results, Try.results36, go_sem, z4]) rfl ⟨rfl, HB.out _ _⟩
  have HF : Hid (bareS ⟨op, c, x, y⟩ = ⟨op, z4, 0, 0⟩) := by show _ = _; unfold bareS; rw [if_neg h1, if_neg h2, if_neg (by simp; omega)]
  have g1 : (op == 1) = false := by simp [h1]
  have g2 : (op == 2) = false := by simp [h2]
  have g3 : (op == 3) = false := by simp [h3]
  have g4 : (op == 4) = false := by simp [h4]
  clear h1 h2 h3 h4
  go_enter Try.func36, Try.ntmps36
  go_wp2
  rw [HF.out]
  refine bodyPost_ret (by simp [results, Try.results36, go_sem, z4]) rfl ⟨rfl, HB.out _ _⟩
end Go.Proofs.Ytopoiljgghglaaa
namespace Go.Proofs.Ytopoiljgghglaaa
set_option linter.unusedSimpArgs false
set_option linter.unusedVariables false
set_option maxRecDepth 100000
open Go.RowKit
theorem bareS_eqb (s : St) (h1 : ¬ s.op < 1) (h5 : ¬ 5 < s.op) : s.eqb (bareS s) = ! decide (stShape s) := by
  obtain ⟨op, c, x, y⟩ := s
  have hc : c.eqb c = true := eqb_self c
  have hop : op = 1 ∨ op = 2 ∨ op = 3 ∨ op = 4 ∨ op = 5 := by simp only at h1 h5; omega
  unfold stShape
  rcases hop with rfl | rfl | rfl | rfl | rfl <;> cases h : c.eqb z4 <;> by_cases hy : y = 0 <;> by_cases hx : x = 0 <;> simp [bareS, St.eqb, hc, h, hy, hx]
/-- What a step is held against: any step's number. -/
abbrev isV (b : Nat) : Value := .func (.func 32) #[] #[.pointer (some ⟨b, 0, none⟩)]
set_option maxHeartbeats 8000000 in
theorem checkStep_any (N : Nat) (hN : N ≤ 9223372036854775807) (s : St) (b : Nat) (a : Option Addr) (cap : Nat) (w : World) (hb : w.cell? ⟨b, 0, none⟩ = some (.slice a N cap)) :
    Calls Try.prog 33 #[s.v, isV b] w fun e w' => e = .returned (errV (stBad N s)) ∧ Below w.heap.size w w' := by
  obtain ⟨op, c, x, y⟩ := s
  have hbl : b < w.heap.size := by
    rcases Nat.lt_or_ge b w.heap.size with h | h
    · exact h
    · simp [World.cell?, Array.getElem?_eq_none h] at hb
  obtain ⟨o, ho⟩ : ∃ o : Obj, o = .cells #[.int .i64 op, .int .u64 c.a, .int .u64 c.b, .int .u64 c.c, .int .u64 c.d, .int .i64 x, .int .i64 y] 49 := ⟨_, rfl⟩
  have HC' : Hid (∀ (z : Int), Calls Try.prog 32 #[.int .i64 z, .pointer (some ⟨b, 0, none⟩)] (w.alloc o) fun e w' => e = .returned (.bool (decide (0 ≤ z ∧ z < (N : Int)))) ∧ w' = w.alloc o) := fun z =>
    isStep_any N hN z b a cap _ ((World.cell?_of_block (a := ⟨b, 0, none⟩) (Below.heap_alloc w o b hbl)).trans hb)
  have HB : Hid (Below w.heap.size w (w.alloc o)) := (Below.refl _ _).alloc (Nat.le_refl _) _
  obtain ⟨t, HT⟩ : ∃ t, Hid (t = bareS ⟨op, c, x, y⟩) := ⟨_, Eq.refl _⟩
  have BA : Hid (∀ W, Calls Try.prog 36 #[.agg #[.int .i64 op, .int .u64 c.a, .int .u64 c.b, .int .u64 c.c, .int .u64 c.d, .int .i64 x, .int .i64 y]] W fun e w' => e = .returned (.agg #[.int .i64 t.op, .int .u64 t.c.a, .int .u64 t.c.b, .int .u64 t.c.c, .int .u64 t.c.d, .int .i64 t.x, .int .i64 t.y]) ∧ Below W.heap.size W w') := by
    intro W
    rw [HT.out]
    exact bare_any ⟨op, c, x, y⟩ W
  have RC : Hid ((∀ d os, (Go.Sort.grow (redrawn (w.alloc o) d) os).cell? ⟨w.heap.size, 0, none⟩ = some (.int .i64 op)) ∧ (∀ d os, (Go.Sort.grow (redrawn (w.alloc o) d) os).cell? ⟨w.heap.size, 1, none⟩ = some (.int .u64 c.a)) ∧ (∀ d os, (Go.Sort.grow (redrawn (w.alloc o) d) os).cell? ⟨w.heap.size, 2, none⟩ = some (.int .u64 c.b)) ∧ (∀ d os, (Go.Sort.grow (redrawn (w.alloc o) d) os).cell? ⟨w.heap.size, 3, none⟩ = some (.int .u64 c.c)) ∧ (∀ d os, (Go.Sort.grow (redrawn (w.alloc o) d) os).cell? ⟨w.heap.size, 4, none⟩ = some (.int .u64 c.d)) ∧ (∀ d os, (Go.Sort.grow (redrawn (w.alloc o) d) os).cell? ⟨w.heap.size, 5, none⟩ = some (.int .i64 x)) ∧ (∀ d os, (Go.Sort.grow (redrawn (w.alloc o) d) os).cell? ⟨w.heap.size, 6, none⟩ = some (.int .i64 y))) := by
    refine ⟨?_, ?_, ?_, ?_, ?_, ?_, ?_⟩ <;> exact cell_regrown (by rw [ho]; simp)
  clear hb
  by_cases h1 : op < 1
  · have HF : Hid (stBad N ⟨op, c, x, y⟩ = 1) := stBad_range (Or.inl h1)
    go_enter Try.func33, Try.ntmps33
    go_wp2
    go_ret
    exact ⟨by rw [HF.out]; rfl, by rw [← ho]; exact HB.out⟩
  by_cases h5 : 5 < op
  · have HF : Hid (stBad N ⟨op, c, x, y⟩ = 1) := stBad_range (Or.inr (Or.inl h5))
    go_enter Try.func33, Try.ntmps33
    go_wp2
    go_ret
    exact ⟨by rw [HF.out]; rfl, by rw [← ho]; exact HB.out⟩
  have HC : Hid (∀ (z : Int), Calls Try.prog 32 #[.int .i64 z, .pointer (some ⟨b, 0, none⟩)] (w.alloc (.cells #[.int .i64 op, .int .u64 c.a, .int .u64 c.b, .int .u64 c.c, .int .u64 c.d, .int .i64 x, .int .i64 y] 49)) fun e w' => e = .returned (.bool (decide (0 ≤ z ∧ z < (N : Int)))) ∧ w' = w.alloc (.cells #[.int .i64 op, .int .u64 c.a, .int .u64 c.b, .int .u64 c.c, .int .u64 c.d, .int .i64 x, .int .i64 y] 49)) := by
    rw [← ho]
    exact HC'
  clear HC'
  by_cases hd : op = 5
  · subst hd
    have hr : ¬ stRange N ⟨5, c, x, y⟩ := by unfold stRange; simp
    by_cases hs : stShape ⟨5, c, x, y⟩
    · have HF : Hid (stBad N ⟨5, c, x, y⟩ = 2) := stBad_shape hr hs
      have he : ∀ w, (Op.equalIn 10000 49 (.agg #[.int .i64 5, .int .u64 c.a, .int .u64 c.b, .int .u64 c.c, .int .u64 c.d, .int .i64 x, .int .i64 y]) (.agg #[.int .i64 t.op, .int .u64 t.c.a, .int .u64 t.c.b, .int .u64 t.c.c, .int .u64 t.c.d, .int .i64 t.x, .int .i64 t.y])).run Try.prog w = .ok false w := fun w => (eqS ⟨5, c, x, y⟩ t w).trans (by rw [HT.out, bareS_eqb _ (by show ¬ 5 < 1; omega) (by show ¬ 5 < 5; omega)]; simp only [hs, decide_true, decide_false, Bool.not_true, Bool.not_false])
      go_enter Try.func33, Try.ntmps33
      go_wp2_with fail
      rw [← ho]
      clear ho
      obtain ⟨r0, r1, r2, r3, r4, r5, r6⟩ := RC.out
      refine wp_region_quiet_below (by kernel_rfl) (by kernel_rfl) ?_
      repeat (go_big_quiet_step (first
        | (go_at_call 36; exact Calls.regrown_of (BA.out _))))
      refine wpQuiet_nil ?_
      intro _ hw'
      obtain ⟨⟨dq, osq⟩, hw''⟩ := hw'
      have B2 : Hid (Below w.heap.size w (Go.Sort.grow (redrawn (w.alloc o) dq) osq)) := HB.out.trans ((below_regrown (w.alloc o) dq osq).mono (by simp))
      subst hw''
      generalize Go.Sort.grow (redrawn (w.alloc o) dq) osq = W at *
      clear RC r0 r1 r2 r3 r4 r5 r6
      go_wp2
      go_ret
      exact ⟨by rw [HF.out]; rfl, B2.out⟩
    · have HF : Hid (stBad N ⟨5, c, x, y⟩ = 0) := stBad_ok hr hs
      have he : ∀ w, (Op.equalIn 10000 49 (.agg #[.int .i64 5, .int .u64 c.a, .int .u64 c.b, .int .u64 c.c, .int .u64 c.d, .int .i64 x, .int .i64 y]) (.agg #[.int .i64 t.op, .int .u64 t.c.a, .int .u64 t.c.b, .int .u64 t.c.c, .int .u64 t.c.d, .int .i64 t.x, .int .i64 t.y])).run Try.prog w = .ok true w := fun w => (eqS ⟨5, c, x, y⟩ t w).trans (by rw [HT.out, bareS_eqb _ (by show ¬ 5 < 1; omega) (by show ¬ 5 < 5; omega)]; simp only [hs, decide_true, decide_false, Bool.not_true, Bool.not_false])
      go_enter Try.func33, Try.ntmps33
      go_wp2_with fail
      rw [← ho]
      clear ho
      obtain ⟨r0, r1, r2, r3, r4, r5, r6⟩ := RC.out
      refine wp_region_quiet_below (by kernel_rfl) (by kernel_rfl) ?_
      repeat (go_big_quiet_step (first
        | (go_at_call 36; exact Calls.regrown_of (BA.out _))))
      refine wpQuiet_nil ?_
      intro _ hw'
      obtain ⟨⟨dq, osq⟩, hw''⟩ := hw'
      have B2 : Hid (Below w.heap.size w (Go.Sort.grow (redrawn (w.alloc o) dq) osq)) := HB.out.trans ((below_regrown (w.alloc o) dq osq).mono (by simp))
      subst hw''
      generalize Go.Sort.grow (redrawn (w.alloc o) dq) osq = W at *
      clear RC r0 r1 r2 r3 r4 r5 r6
      go_wp2
      go_ret
      exact ⟨by rw [HF.out]; rfl, B2.out⟩
  have g5 : (op != 5) = true := by simp [hd]
  by_cases hx : 0 ≤ x ∧ x < (N : Int)
  case neg =>
    have HF : Hid (stBad N ⟨op, c, x, y⟩ = 1) := stBad_range (Or.inr (Or.inr (Or.inl ⟨hd, by show x < 0 ∨ (N : Int) ≤ x; omega⟩)))
    have hxd : decide (0 ≤ x ∧ x < (N : Int)) = false := by simp only [hx, decide_false]
    go_enter Try.func33, Try.ntmps33
    go_wp2_with fail
    refine Calls.mono (HC.out _) ?_
    rintro e w1 ⟨rfl, rfl⟩
    rw [hxd]
    go_wp2
    go_ret
    exact ⟨by rw [HF.out]; rfl, by rw [← ho]; exact HB.out⟩
  have hxd : decide (0 ≤ x ∧ x < (N : Int)) = true := by simp only [hx, and_self, decide_true]
  by_cases hf : op = 2
  · subst hf
    by_cases hy : 0 ≤ y ∧ y < (N : Int)
    case neg =>
      have HF : Hid (stBad N ⟨2, c, x, y⟩ = 1) := stBad_range (Or.inr (Or.inr (Or.inr ⟨rfl, by show y < 0 ∨ (N : Int) ≤ y; omega⟩)))
      have hyd : decide (0 ≤ y ∧ y < (N : Int)) = false := by simp only [hy, decide_false]
      go_enter Try.func33, Try.ntmps33
      go_wp2_with fail
      refine Calls.mono (HC.out _) ?_
      rintro e w1 ⟨rfl, rfl⟩
      rw [hxd]
      go_wp2_with fail
      refine Calls.mono (HC.out _) ?_
      rintro e w1 ⟨rfl, rfl⟩
      rw [hyd]
      go_wp2
      go_ret
      exact ⟨by rw [HF.out]; rfl, by rw [← ho]; exact HB.out⟩
    have hyd : decide (0 ≤ y ∧ y < (N : Int)) = true := by simp only [hy, and_self, decide_true]
    have hr : ¬ stRange N ⟨2, c, x, y⟩ := by
      show ¬ ((2 : Int) < 1 ∨ (5 : Int) < 2 ∨ ((2 : Int) ≠ 5 ∧ (x < 0 ∨ (N : Int) ≤ x)) ∨ ((2 : Int) = 2 ∧ (y < 0 ∨ (N : Int) ≤ y)))
      omega
    by_cases hs : stShape ⟨2, c, x, y⟩
    · have HF : Hid (stBad N ⟨2, c, x, y⟩ = 2) := stBad_shape hr hs
      have he : ∀ w, (Op.equalIn 10000 49 (.agg #[.int .i64 2, .int .u64 c.a, .int .u64 c.b, .int .u64 c.c, .int .u64 c.d, .int .i64 x, .int .i64 y]) (.agg #[.int .i64 t.op, .int .u64 t.c.a, .int .u64 t.c.b, .int .u64 t.c.c, .int .u64 t.c.d, .int .i64 t.x, .int .i64 t.y])).run Try.prog w = .ok false w := fun w => (eqS ⟨2, c, x, y⟩ t w).trans (by rw [HT.out, bareS_eqb _ (by show ¬ 2 < 1; omega) (by show ¬ 5 < 2; omega)]; simp only [hs, decide_true, decide_false, Bool.not_true, Bool.not_false])
      go_enter Try.func33, Try.ntmps33
      go_wp2_with fail
      refine Calls.mono (HC.out _) ?_
      rintro e w1 ⟨rfl, rfl⟩
      rw [hxd]
      go_wp2_with fail
      refine Calls.mono (HC.out _) ?_
      rintro e w1 ⟨rfl, rfl⟩
      rw [hyd]
      go_wp2_with fail
      rw [← ho]
      clear ho
      obtain ⟨r0, r1, r2, r3, r4, r5, r6⟩ := RC.out
      refine wp_region_quiet_below (by kernel_rfl) (by kernel_rfl) ?_
      repeat (go_big_quiet_step (first
        | (go_at_call 36; exact Calls.regrown_of (BA.out _))))
      refine wpQuiet_nil ?_
      intro _ hw'
      obtain ⟨⟨dq, osq⟩, hw''⟩ := hw'
      have B2 : Hid (Below w.heap.size w (Go.Sort.grow (redrawn (w.alloc o) dq) osq)) := HB.out.trans ((below_regrown (w.alloc o) dq osq).mono (by simp))
      subst hw''
      generalize Go.Sort.grow (redrawn (w.alloc o) dq) osq = W at *
      clear RC r0 r1 r2 r3 r4 r5 r6
      go_wp2
      go_ret
      exact ⟨by rw [HF.out]; rfl, B2.out⟩
    · have HF : Hid (stBad N ⟨2, c, x, y⟩ = 0) := stBad_ok hr hs
      have he : ∀ w, (Op.equalIn 10000 49 (.agg #[.int .i64 2, .int .u64 c.a, .int .u64 c.b, .int .u64 c.c, .int .u64 c.d, .int .i64 x, .int .i64 y]) (.agg #[.int .i64 t.op, .int .u64 t.c.a, .int .u64 t.c.b, .int .u64 t.c.c, .int .u64 t.c.d, .int .i64 t.x, .int .i64 t.y])).run Try.prog w = .ok true w := fun w => (eqS ⟨2, c, x, y⟩ t w).trans (by rw [HT.out, bareS_eqb _ (by show ¬ 2 < 1; omega) (by show ¬ 5 < 2; omega)]; simp only [hs, decide_true, decide_false, Bool.not_true, Bool.not_false])
      go_enter Try.func33, Try.ntmps33
      go_wp2_with fail
      refine Calls.mono (HC.out _) ?_
      rintro e w1 ⟨rfl, rfl⟩
      rw [hxd]
      go_wp2_with fail
      refine Calls.mono (HC.out _) ?_
      rintro e w1 ⟨rfl, rfl⟩
      rw [hyd]
      go_wp2_with fail
      rw [← ho]
      clear ho
      obtain ⟨r0, r1, r2, r3, r4, r5, r6⟩ := RC.out
      refine wp_region_quiet_below (by kernel_rfl) (by kernel_rfl) ?_
      repeat (go_big_quiet_step (first
        | (go_at_call 36; exact Calls.regrown_of (BA.out _))))
      refine wpQuiet_nil ?_
      intro _ hw'
      obtain ⟨⟨dq, osq⟩, hw''⟩ := hw'
      have B2 : Hid (Below w.heap.size w (Go.Sort.grow (redrawn (w.alloc o) dq) osq)) := HB.out.trans ((below_regrown (w.alloc o) dq osq).mono (by simp))
      subst hw''
      generalize Go.Sort.grow (redrawn (w.alloc o) dq) osq = W at *
      clear RC r0 r1 r2 r3 r4 r5 r6
      go_wp2
      go_ret
      exact ⟨by rw [HF.out]; rfl, B2.out⟩
  have g2 : (op == 2) = false := by simp [hf]
  have hr : ¬ stRange N ⟨op, c, x, y⟩ := by
    show ¬ (op < 1 ∨ 5 < op ∨ (op ≠ 5 ∧ (x < 0 ∨ (N : Int) ≤ x)) ∨ (op = 2 ∧ (y < 0 ∨ (N : Int) ≤ y)))
    omega
  by_cases hs : stShape ⟨op, c, x, y⟩
  · have HF : Hid (stBad N ⟨op, c, x, y⟩ = 2) := stBad_shape hr hs
    have he : ∀ w, (Op.equalIn 10000 49 (.agg #[.int .i64 op, .int .u64 c.a, .int .u64 c.b, .int .u64 c.c, .int .u64 c.d, .int .i64 x, .int .i64 y]) (.agg #[.int .i64 t.op, .int .u64 t.c.a, .int .u64 t.c.b, .int .u64 t.c.c, .int .u64 t.c.d, .int .i64 t.x, .int .i64 t.y])).run Try.prog w = .ok false w := fun w => (eqS ⟨op, c, x, y⟩ t w).trans (by rw [HT.out, bareS_eqb _ (by show ¬ op < 1; omega) (by show ¬ 5 < op; omega)]; simp only [hs, decide_true, decide_false, Bool.not_true, Bool.not_false])
    go_enter Try.func33, Try.ntmps33
    go_wp2_with fail
    refine Calls.mono (HC.out _) ?_
    rintro e w1 ⟨rfl, rfl⟩
    rw [hxd]
    go_wp2_with fail
    rw [← ho]
    clear ho
    obtain ⟨r0, r1, r2, r3, r4, r5, r6⟩ := RC.out
    refine wp_region_quiet_below (by kernel_rfl) (by kernel_rfl) ?_
    repeat (go_big_quiet_step (first
      | (go_at_call 36; exact Calls.regrown_of (BA.out _))))
    refine wpQuiet_nil ?_
    intro _ hw'
    obtain ⟨⟨dq, osq⟩, hw''⟩ := hw'
    have B2 : Hid (Below w.heap.size w (Go.Sort.grow (redrawn (w.alloc o) dq) osq)) := HB.out.trans ((below_regrown (w.alloc o) dq osq).mono (by simp))
    subst hw''
    generalize Go.Sort.grow (redrawn (w.alloc o) dq) osq = W at *
    clear RC r0 r1 r2 r3 r4 r5 r6
    go_wp2
    go_ret
    exact ⟨by rw [HF.out]; rfl, B2.out⟩
  · have HF : Hid (stBad N ⟨op, c, x, y⟩ = 0) := stBad_ok hr hs
    have he : ∀ w, (Op.equalIn 10000 49 (.agg #[.int .i64 op, .int .u64 c.a, .int .u64 c.b, .int .u64 c.c, .int .u64 c.d, .int .i64 x, .int .i64 y]) (.agg #[.int .i64 t.op, .int .u64 t.c.a, .int .u64 t.c.b, .int .u64 t.c.c, .int .u64 t.c.d, .int .i64 t.x, .int .i64 t.y])).run Try.prog w = .ok true w := fun w => (eqS ⟨op, c, x, y⟩ t w).trans (by rw [HT.out, bareS_eqb _ (by show ¬ op < 1; omega) (by show ¬ 5 < op; omega)]; simp only [hs, decide_true, decide_false, Bool.not_true, Bool.not_false])
    go_enter Try.func33, Try.ntmps33
    go_wp2_with fail
    refine Calls.mono (HC.out _) ?_
    rintro e w1 ⟨rfl, rfl⟩
    rw [hxd]
    go_wp2_with fail
    rw [← ho]
    clear ho
    obtain ⟨r0, r1, r2, r3, r4, r5, r6⟩ := RC.out
    refine wp_region_quiet_below (by kernel_rfl) (by kernel_rfl) ?_
    repeat (go_big_quiet_step (first
      | (go_at_call 36; exact Calls.regrown_of (BA.out _))))
    refine wpQuiet_nil ?_
    intro _ hw'
    obtain ⟨⟨dq, osq⟩, hw''⟩ := hw'
    have B2 : Hid (Below w.heap.size w (Go.Sort.grow (redrawn (w.alloc o) dq) osq)) := HB.out.trans ((below_regrown (w.alloc o) dq osq).mono (by simp))
    subst hw''
    generalize Go.Sort.grow (redrawn (w.alloc o) dq) osq = W at *
    clear RC r0 r1 r2 r3 r4 r5 r6
    go_wp2
    go_ret
    exact ⟨by rw [HF.out]; rfl, B2.out⟩
end Go.Proofs.Ytopoiljgghglaaa
namespace Go.Proofs.Ytopoiljgghglaaa
set_option linter.unusedSimpArgs false
set_option linter.unusedVariables false
set_option maxRecDepth 100000
open Go.RowKit
theorem pcheck_full (ss : List St) (v : Value) (w : World) (h : SsIn w v ss) (h200 : 200 < ss.length) :
    Calls Try.prog 23 #[v] w fun e w' => e = .returned (errV (stepsF ss)) ∧ Below w.heap.size w w' := by
  obtain ⟨a, cap, rfl, hm⟩ := ssIn_form h
  unfold maxLen at hm
  have g200 : (200 : Int) < (ss.length : Int) := by omega
  have HF : Hid (stepsF ss = 3) := by show _ = _; rw [stepsF, if_pos h200]
  clear h
  go_enter Try.func23, Try.ntmps23
  go_wp2
  go_ret
  exact ⟨by rw [HF.out]; rfl, (Below.refl _ _).alloc (Nat.le_refl _) _⟩
theorem pcheck_none (v : Value) (w : World) (h : SsIn w v []) :
    Calls Try.prog 23 #[v] w fun e w' => e = .returned (errV (stepsF [])) ∧ Below w.heap.size w w' := by
  obtain ⟨a, cap, rfl, hm⟩ := ssIn_form h
  simp only [List.length_nil]
  clear h
  go_enter Try.func23, Try.ntmps23
  go_wp2
  go_ret
  exact ⟨rfl, (Below.refl _ _).alloc (Nat.le_refl _) _⟩
set_option maxHeartbeats 4000000 in
theorem pcheck_at (ss : List St) (b off cap : Nat) (w : World) (hlt : b < w.heap.size) (hN : SsAt w b off ss) (h0 : 0 < ss.length) (h200 : ¬ 200 < ss.length) :
    Calls Try.prog 23 #[.slice (some ⟨b, off, none⟩) ss.length cap] w fun e w' => e = .returned (errV (stepsF ss)) ∧ Below w.heap.size w w' := by
  have g200 : (ss.length : Int) ≤ 200 := by omega
  have z0 : ((ss.length : Int) == 0) = false := by rw [beq_eq_false_iff_ne]; omega
  obtain ⟨o, ho⟩ : ∃ o : Obj, o = .cells #[.slice (some ⟨b, off, none⟩) ss.length cap] 23 := ⟨_, rfl⟩
  have hcell : (w.alloc o).cell? ⟨w.heap.size, 0, none⟩ = some (.slice (some ⟨b, off, none⟩) ss.length cap) := by rw [ho]; simp
  have hB0 : Below w.heap.size w (w.alloc o) := (Below.refl _ _).alloc (Nat.le_refl _) _
  have HCK : Hid (∀ (W : World) (n : St), Below (w.alloc o).heap.size (w.alloc o) W → Calls Try.prog 33 #[n.v, isV w.heap.size] W fun e w' => e = .returned (errV (stBad ss.length n)) ∧ Below W.heap.size W w') := fun W n hW =>
    checkStep_any ss.length (by omega) n w.heap.size _ cap W ((hW.cell (p := ⟨w.heap.size, 0, none⟩) (by simp)).trans hcell)
  have HN : Hid (SsAt (w.alloc o) b off ss) := hN.below hB0 hlt
  have HFZ : Hid (stScan ss.length ss = stepsF ss) := by show _ = _; rw [stepsF, if_neg h200, if_neg (by omega)]
  clear hcell hN
  go_enter Try.func23, Try.ntmps23
  go_wp2_with fail
  rw [← ho]
  clear ho
  go_loopw [18] (fun v wr => ∃ i : Nat, i ≤ ss.length ∧ v = .int .i64 i ∧ Hid (stScan ss.length ss = stScan ss.length (ss.drop i)) ∧ Hid (Below (w.alloc o).heap.size (w.alloc o) wr)) (fun v _ => ss.length - (intOf v).toNat)
  case atStart => exact ⟨0, by omega, rfl, Eq.refl _, Below.refl _ _⟩
  case round =>
    obtain ⟨i, hi, rfl, HS, HB⟩ := hrel
    by_cases hil : i < ss.length
    · obtain ⟨n, hn⟩ : ∃ n, ss[i]? = some n := ⟨ss[i], List.getElem?_eq_getElem hil⟩
      obtain ⟨c0, c1, c2, c3, c4, c5, c6⟩ := (HN.out.below HB.out (by simp; omega)) i n hn
      have hlt1 : (i : Int) < (ss.length : Int) := by omega
      have HSD := hid (stScan_drop ss.length ss i n hn)
      go_wp2_with fail
      refine Calls.mono (HCK.out _ n (HB.out.alloc HB.out.size _)) ?_
      rintro e w1 ⟨rfl, hb1⟩
      have B1 : Hid (Below (w.alloc o).heap.size (w.alloc o) w1) := (HB.out.alloc HB.out.size _).trans (hb1.mono (by have := HB.out.size; simp at this ⊢; omega))
      by_cases hz : stBad ss.length n = 0
      · have HS2 : Hid (stScan ss.length ss = stScan ss.length (ss.drop (i + 1))) := by show _ = _; rw [HS.out, HSD.out, if_pos hz]
        have e0 : errV (stBad ss.length n) = .nilIface := by rw [hz]; rfl
        rw [e0]
        clear hb1 c0 c1 c2 c3 c4 c5 c6 e0 hz
        go_wp2
        exact ⟨⟨i + 1, by omega, by go_num, HS2, B1⟩, by simp [intOf]; omega⟩
      · have HS2 : Hid (stepsF ss = stBad ss.length n) := by show _ = _; rw [← HFZ.out, HS.out, HSD.out, if_neg hz]
        have e0 : errV (stBad ss.length n) = .iface 58 (.int .i64 (stBad ss.length n)) := by unfold errV; rw [if_neg hz]
        rw [e0]
        clear hb1 c0 c1 c2 c3 c4 c5 c6
        go_wp2
        go_ret
        refine ⟨by rw [HS2.out, e0]; rfl, hB0.trans (B1.out.mono (by simp))⟩
    · have he : i = ss.length := by omega
      have hg1 : ¬ (i : Int) < (ss.length : Int) := by omega
      have HE : Hid (stepsF ss = 0) := by
        show _ = _
        rw [← HFZ.out, HS.out, he, List.drop_length]
        rfl
      go_wp2
      go_ret
      exact ⟨by rw [HE.out]; rfl, hB0.trans (HB.out.mono (by simp))⟩
theorem pcheck_any (ss : List St) (v : Value) (w : World) (h : SsIn w v ss) :
    Calls Try.prog 23 #[v] w fun e w' => e = .returned (errV (stepsF ss)) ∧ Below w.heap.size w w' := by
  by_cases h200 : 200 < ss.length
  · exact pcheck_full ss v w h h200
  rcases Nat.eq_zero_or_pos ss.length with h0 | h0
  · have e : ss = [] := List.eq_nil_of_length_eq_zero h0
    subst e
    exact pcheck_none v w h
  · obtain ⟨a, cap, rfl, hm, h | ⟨b, off, rfl, hlt, hn⟩⟩ := h
    · subst h
      simp at h0
    · exact pcheck_at ss b off cap w hlt hn h0 h200
end Go.Proofs.Ytopoiljgghglaaa
