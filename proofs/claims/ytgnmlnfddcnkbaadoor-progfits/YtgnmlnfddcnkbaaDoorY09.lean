/- The law ProgFits, walked from what the document asks of packages mean and sim, over the landed prog. (Made by wip/tools/genpfi.py.) Sets of places in memory: of no Go function. What a pattern fits, as sets of places: plain mathematics. Package mean: sets of places: with, has, joined, when. -/
import Derived.Test.YtgnmlnfddcnkbaaDoorY06
import Derived.Test.YtgnmlnfddcnkbaaDoorY08
import Derived.Test.YtgnmlnfddcnkbaaDoorY03
import Derived.Test.YtgnmlnfddcnkbaaDoorY01
import Derived.Maps.AppendAt
import Derived.Test.YtgnmlnfddcnkbaaDoorY04
namespace Go.Proofs.YtgnmlnfddcnkbaaDoor
set_option linter.unusedSimpArgs false
set_option linter.unusedVariables false
set_option maxRecDepth 100000
open Go.RowKit
set_option maxHeartbeats 8000000 in
theorem progFits_bad {X : World → Prop} (hXb : Lasts X) (P : SimC X) (N : MeanN) (ns : List Nd) (v : Value) (s : ByteArray) (hs : s.size ≤ maxLen) (i : Int) (w : World) (hX : X w) (hT : Tab w) (hN : NsIn w v ns) (wN : ∀ n ∈ ns, n.wf) (hf : ¬ faultL ns = 0) :
    Calls Tryd.prog 3 #[v, .string s, .int .i64 i] w fun e w' => e = .returned (.bool true) ∧ Below w.heap.size w w' := by
  have HO : Hid (∀ w', Below w.heap.size w w' → _) := fun w' _ => ofA w'
  have HT1 : Hid (∀ (t : Rx), t.Ok → ∀ v w', NsIn w' v t.flat → faultL t.flat = 0 → _) := fun t ht v w' h hf => pof_tree t ht v w' h hf
  have HS1 : Hid (∀ v w', Below w.heap.size w w' → SsIn w' v tA.prog → _) := fun v w' hb h => tA_run P ⟨#[97, 98]⟩ (by decide) tA_ab v w' (hXb w w' hX hb) h
  have B := hid (Below.refl w.heap.size w)
  unfold maxLen at hs
  have HB : Hid (∀ w', Below w.heap.size w w' → _) := fun w' hb => pof_bad ns v w' (hN.below hb) hf
  rw [show errV (faultL ns) = .iface 45 (.int .i64 (faultL ns)) by unfold errV; rw [if_neg hf]] at HB
  obtain ⟨va, vc, rfl, vm⟩ := nsIn_form hN
  unfold maxLen at vm
  clear hN P N hX hXb hT
  go_enter Tryd.func3, Tryd.ntmps3
  go_wp2_with fail
  refine Calls.mono (HO.out _ B.out) ?_
  rintro e w1 ⟨rfl, hb⟩
  replace B := hid (B.out.trans (hb.mono B.out.size))
  clear hb
  go_wp2_with fail
  obtain ⟨o, ho⟩ : ∃ o : Obj, o = .cells #[.int .i64 1, .int .u64 kA.a, .int .u64 kA.b, .int .u64 kA.c, .int .u64 kA.d] 33 := ⟨_, rfl⟩
  have hone := nsIn_one w1 ⟨1, kA⟩
  rw [← ho] at hone ⊢
  have HBo : Hid (Below w1.heap.size w1 (w1.alloc o)) := (Below.refl _ _).alloc (Nat.le_refl _) _
  have HOF := hid (HT1.out tA tA_ok _ (w1.alloc o) hone tA_fault)
  clear ho hone
  refine Calls.mono HOF.out ?_
  rintro e w2 ⟨u, rfl, hu, hb⟩
  replace B := hid (B.out.trans ((HBo.out.trans (hb.mono HBo.out.size)).mono B.out.size))
  have HU := hid hu
  obtain ⟨ua, uc, rfl, _⟩ := ssIn_form hu
  clear hb hu HOF HBo
  go_wp2_with fail
  refine Calls.mono (HS1.out _ _ B.out HU.out) ?_
  rintro e w3 ⟨x, rfl, hb, hx⟩
  replace B := hid (B.out.trans (hb.mono B.out.size))
  clear hb
  obtain ⟨xa, xc, rfl, _⟩ := isIn_form hx
  have HX3 := hid hx
  clear hx HU
  go_wp2_with fail
  obtain ⟨o, ho⟩ : ∃ o : Obj, o = .cells #[.int .i64 1] 3 := ⟨_, rfl⟩
  have hone := isIn_one w3 1
  have HBo : Hid (Below w3.heap.size w3 (w3.alloc (.cells #[.int .i64 (1 : Nat)] 3))) := (Below.refl _ _).alloc (Nat.le_refl _) _
  have HI := hid (ints_any [1] [1] _ _ _ (HX3.out.below HBo.out) hone)
  rw [beq_self_eq_true] at HI
  clear hone ho
  refine Calls.mono HI.out ?_
  rintro e w4 ⟨rfl, hb⟩
  replace B := hid (B.out.trans ((HBo.out.trans (hb.mono HBo.out.size)).mono B.out.size))
  clear hb HI HBo HX3
  go_wp2_with fail
  refine Calls.mono (HB.out _ B.out) ?_
  rintro e w5 ⟨a5, c5, rfl, hb⟩
  replace B := hid (B.out.trans (hb.mono B.out.size))
  clear hb
  go_wp2
  go_ret
  exact ⟨rfl, B.out⟩
set_option maxHeartbeats 8000000 in
theorem progFits_err {X : World → Prop} (hXb : Lasts X) (P : SimC X) (N : MeanN) (t : Rx) (ht : t.Ok) (v : Value) (s : ByteArray) (hs : s.size ≤ maxLen) (i : Int) (w : World) (hX : X w) (hT : Tab w) (hN : NsIn w v t.flat) (wN : ∀ n ∈ t.flat, n.wf) (hf : faultL t.flat = 0) (hz : ¬ simE t.prog s.size i = 0) :
    Calls Tryd.prog 3 #[v, .string s, .int .i64 i] w fun e w' => e = .returned (.bool true) ∧ Below w.heap.size w w' := by
  have HO : Hid (∀ w', Below w.heap.size w w' → _) := fun w' _ => ofA w'
  have HT1 : Hid (∀ (t : Rx), t.Ok → ∀ v w', NsIn w' v t.flat → faultL t.flat = 0 → _) := fun t ht v w' h hf => pof_tree t ht v w' h hf
  have HS1 : Hid (∀ v w', Below w.heap.size w w' → SsIn w' v tA.prog → _) := fun v w' hb h => tA_run P ⟨#[97, 98]⟩ (by decide) tA_ab v w' (hXb w w' hX hb) h
  have B := hid (Below.refl w.heap.size w)
  unfold maxLen at hs
  obtain ⟨h60, hops, -⟩ := (faultL_zero t.flat).1 hf
  have hpf := prog_fault t h60
  have hpw := prog_wf t h60 wN
  have hpl := prog_len t
  have hcl := t.cod_len 0
  have hm : ¬ meanE t.flat s.size i = 0 := by
    rw [simE_zero] at hz
    rw [meanE_zero]
    intro h
    exact hz ⟨hpf, h.2⟩
  have HP : Hid (∀ u w', Below w.heap.size w w' → SsIn w' u t.prog → _) := fun u w' hb h => P.bad t.prog u s i w' h hpw hs hz
  have HM : Hid (∀ w', Below w.heap.size w w' → _) := fun w' hb => N.bad t.flat v s i w' (hN.below hb) wN hs hm
  rw [show errV (simE t.prog s.size i) = .iface 45 (.int .i64 (simE t.prog s.size i)) by unfold errV; rw [if_neg hz]] at HP
  rw [show errV (meanE t.flat s.size i) = .iface 45 (.int .i64 (meanE t.flat s.size i)) by unfold errV; rw [if_neg hm]] at HM
  have HB : Hid (∀ w', Below w.heap.size w w' → _) := fun w' hb => pof_tree t ht v w' (hN.below hb) hf
  have HCK : Hid (∀ u w', SsIn w' u t.prog → _) := fun u w' h => pcheck_any t.prog u w' h
  rw [hpf, show errV 0 = .nilIface from rfl] at HCK
  have hpl2 : Hid (t.prog.length ≤ 2 * t.flat.length + 1) := by show _ ≤ _; omega
  obtain ⟨va, vc, rfl, vm⟩ := nsIn_form hN
  clear hN P N hX hXb hT hpf hpw
  go_enter Tryd.func3, Tryd.ntmps3
  go_wp2_with fail
  refine Calls.mono (HO.out _ B.out) ?_
  rintro e w1 ⟨rfl, hb⟩
  replace B := hid (B.out.trans (hb.mono B.out.size))
  clear hb
  go_wp2_with fail
  obtain ⟨o, ho⟩ : ∃ o : Obj, o = .cells #[.int .i64 1, .int .u64 kA.a, .int .u64 kA.b, .int .u64 kA.c, .int .u64 kA.d] 33 := ⟨_, rfl⟩
  have hone := nsIn_one w1 ⟨1, kA⟩
  rw [← ho] at hone ⊢
  have HBo : Hid (Below w1.heap.size w1 (w1.alloc o)) := (Below.refl _ _).alloc (Nat.le_refl _) _
  have HOF := hid (HT1.out tA tA_ok _ (w1.alloc o) hone tA_fault)
  clear ho hone
  refine Calls.mono HOF.out ?_
  rintro e w2 ⟨u, rfl, hu, hb⟩
  replace B := hid (B.out.trans ((HBo.out.trans (hb.mono HBo.out.size)).mono B.out.size))
  have HU := hid hu
  obtain ⟨ua, uc, rfl, _⟩ := ssIn_form hu
  clear hb hu HOF HBo
  go_wp2_with fail
  refine Calls.mono (HS1.out _ _ B.out HU.out) ?_
  rintro e w3 ⟨x, rfl, hb, hx⟩
  replace B := hid (B.out.trans (hb.mono B.out.size))
  clear hb
  obtain ⟨xa, xc, rfl, _⟩ := isIn_form hx
  have HX3 := hid hx
  clear hx HU
  go_wp2_with fail
  obtain ⟨o, ho⟩ : ∃ o : Obj, o = .cells #[.int .i64 1] 3 := ⟨_, rfl⟩
  have hone := isIn_one w3 1
  have HBo : Hid (Below w3.heap.size w3 (w3.alloc (.cells #[.int .i64 (1 : Nat)] 3))) := (Below.refl _ _).alloc (Nat.le_refl _) _
  have HI := hid (ints_any [1] [1] _ _ _ (HX3.out.below HBo.out) hone)
  rw [beq_self_eq_true] at HI
  clear hone ho
  refine Calls.mono HI.out ?_
  rintro e w4 ⟨rfl, hb⟩
  replace B := hid (B.out.trans ((HBo.out.trans (hb.mono HBo.out.size)).mono B.out.size))
  clear hb HI HBo HX3
  go_wp2_with fail
  refine Calls.mono (HB.out _ B.out) ?_
  rintro e w5 ⟨u, rfl, hu, hb⟩
  replace B := hid (B.out.trans (hb.mono B.out.size))
  clear hb
  have HU := hid hu
  obtain ⟨ua5, uc5, rfl, _⟩ := ssIn_form hu
  clear hu
  have g1 : ¬ (2 * (t.flat.length : Int) + 1) < (t.prog.length : Int) := by have := hpl2.out; omega
  have g2 : t.flat.length ≤ 60 := h60
  have g3 : t.prog.length ≤ 121 := by have := hpl2.out; omega
  clear hpl hcl
  go_wp2_with fail
  refine Calls.mono (HCK.out _ _ HU.out) ?_
  rintro e w6 ⟨rfl, hb⟩
  replace HU := hid (HU.out.below hb)
  replace B := hid (B.out.trans (hb.mono B.out.size))
  clear hb
  go_wp2_with fail
  refine Calls.mono (HP.out _ _ B.out HU.out) ?_
  rintro e w7 ⟨x7, rfl, hb, hx7⟩
  replace B := hid (B.out.trans (hb.mono B.out.size))
  clear hb
  obtain ⟨xa7, xc7, rfl, _⟩ := isIn_form hx7
  have HX7 := hid hx7
  clear hx7 HU
  go_wp2_with fail
  refine Calls.mono (HM.out _ B.out) ?_
  rintro e w8 ⟨x8, rfl, hb, hx8⟩
  replace HX7 := hid (HX7.out.below hb)
  replace B := hid (B.out.trans (hb.mono B.out.size))
  clear hb
  obtain ⟨xa8, xc8, rfl, _⟩ := isIn_form hx8
  have HI8 := hid (ints_any ([] : List Nat) ([] : List Nat) _ _ w8 HX7.out hx8)
  rw [beq_self_eq_true] at HI8
  clear hx8 HX7
  go_wp2_with fail
  refine Calls.mono HI8.out ?_
  rintro e w9 ⟨rfl, hb⟩
  replace B := hid (B.out.trans (hb.mono B.out.size))
  clear hb
  go_wp2_with fail
  go_big_region
  all_goals go_wp2
  all_goals go_ret
  all_goals exact ⟨rfl, B.out.drew⟩
set_option maxHeartbeats 8000000 in
theorem progFits_ok {X : World → Prop} (hXb : Lasts X) (P : SimC X) (N : MeanN) (t : Rx) (ht : t.Ok) (v : Value) (s : ByteArray) (hs : s.size ≤ maxLen) (i : Nat) (w : World) (hX : X w) (hT : Tab w) (hN : NsIn w v t.flat) (wN : ∀ n ∈ t.flat, n.wf) (hf : faultL t.flat = 0) (hz : simE t.prog s.size i = 0) :
    Calls Tryd.prog 3 #[v, .string s, .int .i64 (i : Int)] w fun e w' => e = .returned (.bool true) ∧ Below w.heap.size w w' := by
  have HO : Hid (∀ w', Below w.heap.size w w' → _) := fun w' _ => ofA w'
  have HT1 : Hid (∀ (t : Rx), t.Ok → ∀ v w', NsIn w' v t.flat → faultL t.flat = 0 → _) := fun t ht v w' h hf => pof_tree t ht v w' h hf
  have HS1 : Hid (∀ v w', Below w.heap.size w w' → SsIn w' v tA.prog → _) := fun v w' hb h => tA_run P ⟨#[97, 98]⟩ (by decide) tA_ab v w' (hXb w w' hX hb) h
  have B := hid (Below.refl w.heap.size w)
  unfold maxLen at hs
  obtain ⟨h60, hops, -⟩ := (faultL_zero t.flat).1 hf
  have hpf := prog_fault t h60
  have hpw := prog_wf t h60 wN
  have hpl := prog_len t
  have hcl := t.cod_len 0
  obtain ⟨_, h400, hi0, hi⟩ := (simE_zero _ _ _).1 hz
  have hm : meanE t.flat s.size i = 0 := (meanE_zero _ _ _).2 ⟨hf, h400, hi0, hi⟩
  obtain ⟨l, hl⟩ := ends_total s.data.toList t i
  have hr := (run_ends t ht (fun n hn => (hops n hn).1) s.data.toList i (by rw [Array.length_toList]; exact Int.ofNat_le.1 hi) l).2 hl
  have HP : Hid (∀ u w', Below w.heap.size w w' → SsIn w' u t.prog → _) := fun u w' hb h => P.ends t.prog u s i l w' (hXb w w' hX hb) h hpw hz hr
  have HM : Hid (∀ w', Below w.heap.size w w' → _) := fun w' hb => N.ends t v s i l w' (hT.below hb (Nat.le_refl _)) ht (hN.below hb) wN hm hl
  have HB : Hid (∀ w', Below w.heap.size w w' → _) := fun w' hb => pof_tree t ht v w' (hN.below hb) hf
  have HCK : Hid (∀ u w', SsIn w' u t.prog → _) := fun u w' h => pcheck_any t.prog u w' h
  rw [hpf, show errV 0 = .nilIface from rfl] at HCK
  have hpl2 : Hid (t.prog.length ≤ 2 * t.flat.length + 1) := by show _ ≤ _; omega
  obtain ⟨va, vc, rfl, vm⟩ := nsIn_form hN
  clear hN P N hX hXb hT hpf hpw
  go_enter Tryd.func3, Tryd.ntmps3
  go_wp2_with fail
  refine Calls.mono (HO.out _ B.out) ?_
  rintro e w1 ⟨rfl, hb⟩
  replace B := hid (B.out.trans (hb.mono B.out.size))
  clear hb
  go_wp2_with fail
  obtain ⟨o, ho⟩ : ∃ o : Obj, o = .cells #[.int .i64 1, .int .u64 kA.a, .int .u64 kA.b, .int .u64 kA.c, .int .u64 kA.d] 33 := ⟨_, rfl⟩
  have hone := nsIn_one w1 ⟨1, kA⟩
  rw [← ho] at hone ⊢
  have HBo : Hid (Below w1.heap.size w1 (w1.alloc o)) := (Below.refl _ _).alloc (Nat.le_refl _) _
  have HOF := hid (HT1.out tA tA_ok _ (w1.alloc o) hone tA_fault)
  clear ho hone
  refine Calls.mono HOF.out ?_
  rintro e w2 ⟨u, rfl, hu, hb⟩
  replace B := hid (B.out.trans ((HBo.out.trans (hb.mono HBo.out.size)).mono B.out.size))
  have HU := hid hu
  obtain ⟨ua, uc, rfl, _⟩ := ssIn_form hu
  clear hb hu HOF HBo
  go_wp2_with fail
  refine Calls.mono (HS1.out _ _ B.out HU.out) ?_
  rintro e w3 ⟨x, rfl, hb, hx⟩
  replace B := hid (B.out.trans (hb.mono B.out.size))
  clear hb
  obtain ⟨xa, xc, rfl, _⟩ := isIn_form hx
  have HX3 := hid hx
  clear hx HU
  go_wp2_with fail
  obtain ⟨o, ho⟩ : ∃ o : Obj, o = .cells #[.int .i64 1] 3 := ⟨_, rfl⟩
  have hone := isIn_one w3 1
  have HBo : Hid (Below w3.heap.size w3 (w3.alloc (.cells #[.int .i64 (1 : Nat)] 3))) := (Below.refl _ _).alloc (Nat.le_refl _) _
  have HI := hid (ints_any [1] [1] _ _ _ (HX3.out.below HBo.out) hone)
  rw [beq_self_eq_true] at HI
  clear hone ho
  refine Calls.mono HI.out ?_
  rintro e w4 ⟨rfl, hb⟩
  replace B := hid (B.out.trans ((HBo.out.trans (hb.mono HBo.out.size)).mono B.out.size))
  clear hb HI HBo HX3
  go_wp2_with fail
  refine Calls.mono (HB.out _ B.out) ?_
  rintro e w5 ⟨u, rfl, hu, hb⟩
  replace B := hid (B.out.trans (hb.mono B.out.size))
  clear hb
  have HU := hid hu
  obtain ⟨ua5, uc5, rfl, _⟩ := ssIn_form hu
  clear hu
  have g1 : ¬ (2 * (t.flat.length : Int) + 1) < (t.prog.length : Int) := by have := hpl2.out; omega
  have g2 : t.flat.length ≤ 60 := h60
  have g3 : t.prog.length ≤ 121 := by have := hpl2.out; omega
  clear hpl hcl
  go_wp2_with fail
  refine Calls.mono (HCK.out _ _ HU.out) ?_
  rintro e w6 ⟨rfl, hb⟩
  replace HU := hid (HU.out.below hb)
  replace B := hid (B.out.trans (hb.mono B.out.size))
  clear hb
  go_wp2_with fail
  refine Calls.mono (HP.out _ _ B.out HU.out) ?_
  rintro e w7 ⟨x7, rfl, hb, hx7⟩
  replace B := hid (B.out.trans (hb.mono B.out.size))
  clear hb
  obtain ⟨xa7, xc7, rfl, _⟩ := isIn_form hx7
  have HX7 := hid hx7
  clear hx7 HU
  go_wp2_with fail
  refine Calls.mono (HM.out _ B.out) ?_
  rintro e w8 ⟨x8, rfl, hb, hx8⟩
  replace HX7 := hid (HX7.out.below hb)
  replace B := hid (B.out.trans (hb.mono B.out.size))
  clear hb
  obtain ⟨xa8, xc8, rfl, _⟩ := isIn_form hx8
  have HI8 := hid (ints_any l l _ _ w8 HX7.out hx8)
  rw [beq_self_eq_true] at HI8
  clear hx8 HX7
  go_wp2_with fail
  refine Calls.mono HI8.out ?_
  rintro e w9 ⟨rfl, hb⟩
  replace B := hid (B.out.trans (hb.mono B.out.size))
  clear hb
  go_wp2_with fail
  go_big_region
  all_goals go_wp2
  all_goals go_ret
  all_goals exact ⟨rfl, B.out.drew⟩
theorem progFits_any {X : World → Prop} (hXb : Lasts X) (P : SimC X) (N : MeanN) (ns : List Nd) (v : Value) (s : ByteArray) (hs : s.size ≤ maxLen) (i : Int) (w : World) (hX : X w) (hT : Tab w) (hN : NsIn w v ns) (wN : ∀ n ∈ ns, n.wf) :
    Calls Tryd.prog 3 #[v, .string s, .int .i64 i] w fun e w' => e = .returned (.bool true) ∧ Below w.heap.size w w' := by
  by_cases hf : faultL ns = 0
  · obtain ⟨t, ht, rfl⟩ := tree_of ns ((faultL_zero ns).1 hf).2.2
    by_cases hz : simE t.prog s.size i = 0
    · obtain ⟨_, _, hi0, _⟩ := (simE_zero _ _ _).1 hz
      obtain ⟨k, rfl⟩ : ∃ k : Nat, i = (k : Int) := ⟨i.toNat, by omega⟩
      exact progFits_ok hXb P N t ht v s hs k w hX hT hN wN hf hz
    · exact progFits_err hXb P N t ht v s hs i w hX hT hN wN hf hz
  · exact progFits_bad hXb P N ns v s hs i w hX hT hN wN hf
end Go.Proofs.YtgnmlnfddcnkbaaDoor
namespace Go.Proofs.YtgnmlnfddcnkbaaDoor
set_option linter.unusedSimpArgs false
set_option linter.unusedVariables false
open Go.RowKit

/-- Block b holds a set of places. -/
def Hp (w : World) (b : Nat) (p : Nat → Bool) : Prop := w.heap[b]? = some (.cells #[.int .u64 (wd p 0), .int .u64 (wd p 1), .int .u64 (wd p 2), .int .u64 (wd p 3), .int .u64 (wd p 4), .int .u64 (wd p 5), .int .u64 (wd p 6)] 78 (0, 0))
theorem Hp.cell {w : World} {b : Nat} {p : Nat → Bool} (h : Hp w b p) (i : Nat) (hi : i < 7) : w.cell? ⟨b, i, none⟩ = some (.int .u64 (wd p i)) := by
  rw [Lib.cell_of_heap h]
  have := cellsP_get p i hi
  simpa [cellsP] using this
theorem Hp.frozen {w : World} {b : Nat} {p : Nat → Bool} (h : Hp w b p) (i : Nat) : w.frozen? ⟨b, i, none⟩ = false := Lib.frozen_of_heap h i
theorem Hp.all {w : World} {b : Nat} {p : Nat → Bool} (h : Hp w b p) : w.cell? ⟨b, 0, none⟩ = some (.int .u64 (wd p 0)) ∧ w.cell? ⟨b, 1, none⟩ = some (.int .u64 (wd p 1)) ∧ w.cell? ⟨b, 2, none⟩ = some (.int .u64 (wd p 2)) ∧ w.cell? ⟨b, 3, none⟩ = some (.int .u64 (wd p 3)) ∧ w.cell? ⟨b, 4, none⟩ = some (.int .u64 (wd p 4)) ∧ w.cell? ⟨b, 5, none⟩ = some (.int .u64 (wd p 5)) ∧ w.cell? ⟨b, 6, none⟩ = some (.int .u64 (wd p 6)) :=
  ⟨h.cell 0 (by decide), h.cell 1 (by decide), h.cell 2 (by decide), h.cell 3 (by decide), h.cell 4 (by decide), h.cell 5 (by decide), h.cell 6 (by decide)⟩
theorem Hp.frz {w : World} {b : Nat} {p : Nat → Bool} (h : Hp w b p) : w.frozen? ⟨b, 0, none⟩ = false ∧ w.frozen? ⟨b, 1, none⟩ = false ∧ w.frozen? ⟨b, 2, none⟩ = false ∧ w.frozen? ⟨b, 3, none⟩ = false ∧ w.frozen? ⟨b, 4, none⟩ = false ∧ w.frozen? ⟨b, 5, none⟩ = false ∧ w.frozen? ⟨b, 6, none⟩ = false :=
  ⟨h.frozen 0, h.frozen 1, h.frozen 2, h.frozen 3, h.frozen 4, h.frozen 5, h.frozen 6⟩
theorem Hp.lt {w : World} {b : Nat} {p : Nat → Bool} (h : Hp w b p) : b < w.heap.size := by
  rcases Nat.lt_or_ge b w.heap.size with h' | h'
  · exact h'
  · simp [Hp, Array.getElem?_eq_none h'] at h
theorem Hp.drew {w : World} {b : Nat} {p : Nat → Bool} (h : Hp w b p) : Hp w.drew b p := h
theorem Hp.below {w w' : World} {B b : Nat} {p : Nat → Bool} (h : Hp w b p) (hb : Below B w w') (hlt : b < B) : Hp w' b p := (hb.block b hlt).trans h
theorem Hp.grown {w w' : World} {b : Nat} {p : Nat → Bool} {row : Option Nat} (h : Hp w b p) (hg : w.grownBy w' row) (hne : some b ≠ row) : Hp w' b p := (hg.block b h.lt hne).trans h
theorem Hp.alloc {w : World} {b : Nat} {p : Nat → Bool} (h : Hp w b p) (o : Obj) : Hp (w.alloc o) b p := (Below.heap_alloc w o b h.lt).trans h
theorem Hp.new (w : World) (p : Nat → Bool) (b : Nat) (hb : b = w.heap.size) : Hp (w.alloc (.cells #[.int .u64 (wd p 0), .int .u64 (wd p 1), .int .u64 (wd p 2), .int .u64 (wd p 3), .int .u64 (wd p 4), .int .u64 (wd p 5), .int .u64 (wd p 6)] 78)) b p := by subst hb; exact heap_alloc_new w _
theorem Hp.zero (w : World) (b : Nat) (hb : b = w.heap.size) : Hp (w.alloc (.cells #[.int .u64 0, .int .u64 0, .int .u64 0, .int .u64 0, .int .u64 0, .int .u64 0, .int .u64 0] 78)) b noP := by
  subst hb
  unfold Hp
  rw [wd_no, wd_no, wd_no, wd_no, wd_no, wd_no, wd_no]
  exact heap_alloc_new w _
theorem Hp.congr {w : World} {b : Nat} {p q : Nat → Bool} (h : Hp w b p) (hpq : ∀ j, j < 448 → p j = q j) : Hp w b q := by
  have e := cellsP_congr hpq
  unfold cellsP at e
  unfold Hp at h ⊢
  rw [h]
  simp only [Option.some.injEq, Obj.cells.injEq, and_true]
  simpa using e
theorem Hp.other {w : World} {b : Nat} {p : Nat → Bool} (h : Hp w b p) (a : Addr) (v : Value) (hp : b ≠ a.block) : Hp (w.setCell a v) b p := (Below.heap_setCell w a v b hp).trans h
/-- One word is set. -/
theorem Hp.store {w : World} {b : Nat} {p q : Nat → Bool} (h : Hp w b p) (i : Nat) (hi : i < 7) (z : Int) (hs : (cellsP p).set i (.int .u64 z) = cellsP q) : Hp (w.setCell ⟨b, i, none⟩ (.int .u64 z)) b q := by
  unfold cellsP at hs
  unfold Hp at h ⊢
  simp [World.setCell, Array.getElem?_modify, h, hs]
/-- All seven words are set. -/
abbrev put7 (w : World) (b : Nat) (q : Nat → Bool) : World := ((((((w.setCell ⟨b, 0, none⟩ (.int .u64 (wd q 0))).setCell ⟨b, 1, none⟩ (.int .u64 (wd q 1))).setCell ⟨b, 2, none⟩ (.int .u64 (wd q 2))).setCell ⟨b, 3, none⟩ (.int .u64 (wd q 3))).setCell ⟨b, 4, none⟩ (.int .u64 (wd q 4))).setCell ⟨b, 5, none⟩ (.int .u64 (wd q 5))).setCell ⟨b, 6, none⟩ (.int .u64 (wd q 6))
theorem Hp.put7 {w : World} {b : Nat} {p : Nat → Bool} (h : Hp w b p) (q : Nat → Bool) : Hp (put7 w b q) b q := by
  unfold Hp at h ⊢
  simp [World.setCell, Array.getElem?_modify, h]
theorem Hp.other7 {w : World} {b c : Nat} {p : Nat → Bool} (h : Hp w b p) (q : Nat → Bool) (hc : b ≠ c) : Hp (Go.Proofs.YtgnmlnfddcnkbaaDoor.put7 w c q) b p :=
  ((((((h.other _ _ hc).other _ _ hc).other _ _ hc).other _ _ hc).other _ _ hc).other _ _ hc).other _ _ hc
theorem below_put7 {w0 w : World} {B b : Nat} (h : Below B w0 w) (hb : B ≤ b) (q : Nat → Bool) : Below B w0 (put7 w b q) :=
  ((((((h.setCell hb _).setCell hb _).setCell hb _).setCell hb _).setCell hb _).setCell hb _).setCell hb _
theorem put7_size (w : World) (b : Nat) (q : Nat → Bool) : (put7 w b q).heap.size = w.heap.size := by simp [World.setCell]
theorem grown_set (w : World) (b i : Nat) (v : Value) : w.grownBy (w.setCell ⟨b, i, none⟩ v) (some b) :=
  ⟨rfl, rfl, rfl, by simp [World.setCell], fun k _ hk => Below.heap_setCell _ _ _ _ (fun e => hk (by rw [e]))⟩
theorem grown_put7 (w : World) (b : Nat) (q : Nat → Bool) : w.grownBy (put7 w b q) (some b) :=
  ((((((grown_set w b 0 _).trans (grown_set _ b 1 _)).trans (grown_set _ b 2 _)).trans (grown_set _ b 3 _)).trans (grown_set _ b 4 _)).trans (grown_set _ b 5 _)).trans (grown_set _ b 6 _)
theorem below_grown {w w' : World} (h : Below w.heap.size w w') (row : Option Nat) : w.grownBy w' row := ⟨h.1, h.2, h.3, h.size, fun i hi _ => h.block i hi⟩
theorem agg7 {p q : Nat → Bool} (h : p = q) : Ending.returned (plV p) = .returned (plV q) := by rw [h]
end Go.Proofs.YtgnmlnfddcnkbaaDoor
namespace Go.Proofs.YtgnmlnfddcnkbaaDoor
set_option linter.unusedSimpArgs false
set_option linter.unusedVariables false
set_option maxRecDepth 100000
open Go.RowKit

/-- The places that stand in a relation to one. -/
noncomputable def rs (R : Nat → Nat → Prop) (i : Nat) : Nat → Bool := fun j => @decide (R i j) (Classical.propDecidable _)
theorem rs_iff {R : Nat → Nat → Prop} {i j : Nat} : rs R i j = true ↔ R i j := @decide_eq_true_iff (R i j) (Classical.propDecidable _)
/-- .. to one of some. -/
noncomputable def ov (R : Nat → Nat → Prop) (l : List Nat) : Nat → Bool := fun j => @decide (∃ k ∈ l, R k j) (Classical.propDecidable _)
theorem ov_iff {R : Nat → Nat → Prop} {l : List Nat} {j : Nat} : ov R l j = true ↔ ∃ k ∈ l, R k j := @decide_eq_true_iff (∃ k ∈ l, R k j) (Classical.propDecidable _)
noncomputable def fs (s : List UInt8) (t : Rx) (i : Nat) : Nat → Bool := rs (Fit s t) i
theorem fs_iff {s : List UInt8} {t : Rx} {i j : Nat} : fs s t i j = true ↔ Fit s t i j := rs_iff
theorem set_ext {p q : Nat → Bool} (h : ∀ j, p j = true ↔ q j = true) : p = q := by
  funext j
  have := h j
  cases hp : p j <;> cases hq : q j <;> simp_all
theorem join_iff {p q : Nat → Bool} {j : Nat} : joinP p q j = true ↔ p j = true ∨ q j = true := by simp [joinP]
theorem with_iff {p : Nat → Bool} {a j : Nat} : withP p a j = true ↔ p j = true ∨ j = a := by simp [withP]
theorem when_iff {so : Bool} {a j : Nat} : whenP so a j = true ↔ so = true ∧ j = a := by simp [whenP]
theorem ov_nil (R : Nat → Nat → Prop) : ov R [] = noP := set_ext fun j => by
  rw [ov_iff]
  simp [noP]
theorem ov_snoc (R : Nat → Nat → Prop) (l : List Nat) (x : Nat) : joinP (ov R l) (rs R x) = ov R (l ++ [x]) := set_ext fun j => by
  rw [join_iff, ov_iff, ov_iff, rs_iff]
  constructor
  · rintro (⟨k, hk, h⟩ | h)
    · exact ⟨k, by simp [hk], h⟩
    · exact ⟨x, by simp, h⟩
  · rintro ⟨k, hk, h⟩
    rw [List.mem_append, List.mem_singleton] at hk
    rcases hk with hk | rfl
    · exact Or.inl ⟨k, hk, h⟩
    · exact Or.inr h
theorem when_true (a : Nat) : whenP true a = withP noP a := set_ext fun j => by rw [when_iff, with_iff]; simp [noP]
theorem when_false (a : Nat) : whenP false a = noP := set_ext fun j => by rw [when_iff]; simp [noP]
/-- Ends, as a list. -/
theorem el_ends {s : List UInt8} {t : Rx} {i : Nat} {l : List Nat} (h : EndsR s t i l) (hs : s.length ≤ 400) : el (fs s t i) 448 = l := by
  refine rise_eq _ _ (List.Pairwise.filter _ List.pairwise_lt_range) h.1 (fun j => ?_)
  rw [el_mem, fs_iff, h.2]
  exact ⟨fun h => h.2, fun h => ⟨by have := fit_le s t i j h; omega, h⟩⟩
/-- The parts of a tree. -/
theorem fs_cat {s : List UInt8} (hs : s.length ≤ 400) (n : Nd) (a b : Rx) (i : Nat) (h3 : n.op = 3) : fs s (.two n a b) i = ov (Fit s b) (el (fs s a i) 448) := set_ext fun j => by
  rw [fs_iff, ov_iff]
  conv => lhs; unfold Fit
  rw [if_pos h3]
  constructor
  · rintro ⟨k, h1, h2⟩
    exact ⟨k, (el_mem _ _ _).2 ⟨by have := fit_le s a i k h1; omega, fs_iff.2 h1⟩, h2⟩
  · rintro ⟨k, h1, h2⟩
    exact ⟨k, fs_iff.1 ((el_mem _ _ _).1 h1).2, h2⟩
theorem fs_or {s : List UInt8} (n : Nd) (a b : Rx) (i : Nat) (h3 : ¬ n.op = 3) : fs s (.two n a b) i = joinP (fs s a i) (fs s b i) := set_ext fun j => by
  rw [fs_iff, join_iff, fs_iff, fs_iff]
  conv => lhs; unfold Fit
  rw [if_neg h3]
theorem fs_opt {s : List UInt8} (n : Nd) (a : Rx) (i : Nat) (hi : i ≤ s.length) (h5 : ¬ n.op = 5) (h6 : ¬ n.op = 6) : fs s (.one n a) i = withP (fs s a i) i := set_ext fun j => by
  rw [fs_iff, with_iff, fs_iff]
  conv => lhs; unfold Fit
  rw [if_neg h5, if_neg h6]
  constructor
  · rintro (⟨h, _⟩ | h)
    · exact Or.inr h.symm
    · exact Or.inl h
  · rintro (h | h)
    · exact Or.inr h
    · exact Or.inl ⟨h.symm, hi⟩
theorem Str.go {N : Nat} {R : Nat → Nat → Prop} (h : ∀ i j, R i j → i ≤ j ∧ j ≤ N) {i j : Nat} (hs : Str N R i j) : j = i ∨ ∃ k, i < k ∧ R i k ∧ Str N R k j := by
  induction hs with
  | nil i hi => exact Or.inl rfl
  | cons i k j h1 h2 ih =>
    rcases Nat.lt_or_ge i k with hik | hik
    · exact Or.inr ⟨k, hik, h1, h2⟩
    · have := (h i k h1).1
      obtain rfl : k = i := by omega
      exact ih
/-- Behind a place ahead. -/
def hop (s : List UInt8) (t : Rx) (i : Nat) : Nat → Nat → Prop := fun k j => i < k ∧ Fit s t k j
theorem fit_star_trans {s : List UInt8} (n : Nd) (a : Rx) (h : n.op = 5 ∨ n.op = 6) {i j k : Nat} (h1 : Fit s (.one n a) i j) (h2 : Fit s (.one n a) j k) : Fit s (.one n a) i k := by
  unfold Fit at h1 h2 ⊢
  by_cases h5 : n.op = 5
  · rw [if_pos h5] at h1 h2 ⊢
    exact h1.trans h2
  · have h6 : n.op = 6 := by omega
    rw [if_neg h5, if_pos h6] at h1 h2 ⊢
    obtain ⟨x, hx, hx'⟩ := h1
    obtain ⟨y, hy, hy'⟩ := h2
    exact ⟨x, hx, hx'.trans (.cons _ y _ hy hy')⟩
theorem fs_plus {s : List UInt8} (hs : s.length ≤ 400) (n : Nd) (a : Rx) (i : Nat) (h6 : n.op = 6) : fs s (.one n a) i = joinP (ov (hop s (.one n a) i) (el (fs s a i) 448)) (fs s a i) := set_ext fun j => by
  have h5 : ¬ n.op = 5 := by omega
  have hfit : ∀ x y, Fit s (.one n a) x y ↔ ∃ k, Fit s a x k ∧ Str s.length (Fit s a) k y := fun x y => by
    conv => lhs; unfold Fit
    rw [if_neg h5, if_pos h6]
  rw [fs_iff, join_iff, ov_iff, fs_iff, hfit]
  constructor
  · rintro ⟨k, h1, h2⟩
    have hle := fit_le s a i k h1
    rcases Str.go (fit_le s a) h2 with rfl | ⟨m, hm, h3, h4⟩
    · exact Or.inr h1
    · rcases Nat.lt_or_ge i k with hik | hik
      · exact Or.inl ⟨k, (el_mem _ _ _).2 ⟨by omega, fs_iff.2 h1⟩, hik, (hfit k j).2 ⟨m, h3, h4⟩⟩
      · obtain rfl : k = i := by omega
        have hle2 := fit_le s a k m h3
        rcases Str.go (fit_le s a) h4 with rfl | ⟨m', hm', h5', h6'⟩
        · exact Or.inr h3
        · exact Or.inl ⟨m, (el_mem _ _ _).2 ⟨by omega, fs_iff.2 h3⟩, hm, (hfit m j).2 ⟨m', h5', h6'⟩⟩
  · rintro (⟨k, h1, h2, h3⟩ | h1)
    · obtain ⟨m, h4, h5'⟩ := (hfit k j).1 h3
      exact ⟨k, fs_iff.1 ((el_mem _ _ _).1 h1).2, .cons _ m _ h4 h5'⟩
    · exact ⟨j, h1, .nil _ (fit_le s a i j h1).2⟩
theorem fs_star {s : List UInt8} (hs : s.length ≤ 400) (n : Nd) (a : Rx) (i : Nat) (hi : i ≤ s.length) (h5 : n.op = 5) : fs s (.one n a) i = withP (joinP (ov (hop s (.one n a) i) (el (fs s a i) 448)) (fs s a i)) i := set_ext fun j => by
  have hfit : ∀ x y, Fit s (.one n a) x y ↔ Str s.length (Fit s a) x y := fun x y => by
    conv => lhs; unfold Fit
    rw [if_pos h5]
  rw [fs_iff, with_iff, join_iff, ov_iff, fs_iff, hfit]
  constructor
  · intro h
    rcases Str.go (fit_le s a) h with rfl | ⟨k, hk, h1, h2⟩
    · exact Or.inr rfl
    · exact Or.inl (Or.inl ⟨k, (el_mem _ _ _).2 ⟨by have := fit_le s a i k h1; omega, fs_iff.2 h1⟩, hk, (hfit k j).2 h2⟩)
  · rintro ((⟨k, h1, h2, h3⟩ | h1) | rfl)
    · exact .cons _ k _ (fs_iff.1 ((el_mem _ _ _).1 h1).2) ((hfit k j).1 h3)
    · exact Str.one (fit_le s a) h1
    · exact .nil _ hi
/-- What follows a place that is there already is there already. -/
theorem hop_known {s : List UInt8} (n : Nd) (a : Rx) (h : n.op = 5 ∨ n.op = 6) (i : Nat) (l : List Nat) (x : Nat) (hx : ov (hop s (.one n a) i) l x = true) : ov (hop s (.one n a) i) (l ++ [x]) = ov (hop s (.one n a) i) l := set_ext fun j => by
  rw [ov_iff, ov_iff]
  constructor
  · rintro ⟨k, hk, h1, h2⟩
    rw [List.mem_append, List.mem_singleton] at hk
    rcases hk with hk | rfl
    · exact ⟨k, hk, h1, h2⟩
    · obtain ⟨m, hm, h3, h4⟩ := ov_iff.1 hx
      exact ⟨m, hm, h3, fit_star_trans n a h h4 h2⟩
  · rintro ⟨k, hk, h1⟩
    exact ⟨k, by simp [hk], h1⟩
theorem hop_back {s : List UInt8} (t : Rx) (i : Nat) (l : List Nat) (x : Nat) (hx : ¬ i < x) : ov (hop s t i) (l ++ [x]) = ov (hop s t i) l := set_ext fun j => by
  rw [ov_iff, ov_iff]
  constructor
  · rintro ⟨k, hk, h1, h2⟩
    rw [List.mem_append, List.mem_singleton] at hk
    rcases hk with hk | rfl
    · exact ⟨k, hk, h1, h2⟩
    · exact absurd h1 hx
  · rintro ⟨k, hk, h1⟩
    exact ⟨k, by simp [hk], h1⟩
theorem hop_on {s : List UInt8} (t : Rx) (i : Nat) (l : List Nat) (x : Nat) (hx : i < x) : joinP (ov (hop s t i) l) (fs s t x) = ov (hop s t i) (l ++ [x]) := by
  rw [← ov_snoc]
  congr 1
  refine set_ext fun j => ?_
  rw [fs_iff, rs_iff]
  exact ⟨fun h => ⟨hx, h⟩, fun h => h.2⟩
theorem fs_byte {s : List UInt8} (n : Nd) (i : Nat) (h1 : n.op = 1) : fs s (.leaf n) i = whenP (match s[i]? with | some c => n.c.has c.toNat | none => false) (i + 1) := set_ext fun j => by
  rw [fs_iff, when_iff]
  unfold Fit
  rw [if_pos h1]
  cases hc : s[i]? with
  | none => simp
  | some c => simp
theorem fs_begin {s : List UInt8} (n : Nd) (i : Nat) (h8 : n.op = 8) : fs s (.leaf n) i = whenP (decide (i = 0)) i := set_ext fun j => by
  rw [fs_iff, when_iff]
  unfold Fit
  rw [if_neg (by omega), if_pos h8]
  simp
  omega
theorem fs_end {s : List UInt8} (n : Nd) (i : Nat) (h9 : n.op = 9) : fs s (.leaf n) i = whenP (decide (i = s.length)) i := set_ext fun j => by
  rw [fs_iff, when_iff]
  unfold Fit
  rw [if_neg (by omega), if_neg (by omega), if_pos h9]
  simp
  omega
theorem fs_empty {s : List UInt8} (n : Nd) (i : Nat) (hi : i ≤ s.length) (h1 : ¬ n.op = 1) (h8 : ¬ n.op = 8) (h9 : ¬ n.op = 9) : fs s (.leaf n) i = whenP true i := set_ext fun j => by
  rw [fs_iff, when_iff]
  unfold Fit
  rw [if_neg h1, if_neg h8, if_neg h9]
  simp
  omega
/-- A tree is told by its nodes, whatever is behind. -/
theorem flat_pre : ∀ (t u : Rx), t.Ok → u.Ok → ∀ (q r : List Nd), t.flat ++ q = u.flat ++ r → t = u ∧ q = r
  | .leaf n, .leaf m, _, _, q, r, h => by
    simp [Rx.flat] at h
    exact ⟨by rw [h.1], h.2⟩
  | .leaf n, .one m a, ht, hu, q, r, h => by
    simp [Rx.flat] at h
    simp only [Rx.Ok] at ht hu
    rw [h.1] at ht
    omega
  | .leaf n, .two m a b, ht, hu, q, r, h => by
    simp [Rx.flat] at h
    simp only [Rx.Ok] at ht hu
    rw [h.1] at ht
    omega
  | .one n a, .leaf m, ht, hu, q, r, h => by
    simp [Rx.flat] at h
    simp only [Rx.Ok] at ht hu
    rw [h.1] at ht
    omega
  | .one n a, .one m b, ht, hu, q, r, h => by
    simp [Rx.flat] at h
    obtain ⟨h1, h2⟩ := flat_pre a b ht.2 hu.2 _ _ h.2
    exact ⟨by rw [h.1, h1], h2⟩
  | .one n a, .two m b c, ht, hu, q, r, h => by
    simp [Rx.flat] at h
    simp only [Rx.Ok] at ht hu
    rw [h.1] at ht
    omega
  | .two n a b, .leaf m, ht, hu, q, r, h => by
    simp [Rx.flat] at h
    simp only [Rx.Ok] at ht hu
    rw [h.1] at ht
    omega
  | .two n a b, .one m c, ht, hu, q, r, h => by
    simp [Rx.flat] at h
    simp only [Rx.Ok] at ht hu
    rw [h.1] at ht
    omega
  | .two n a b, .two m c d, ht, hu, q, r, h => by
    simp [Rx.flat] at h
    obtain ⟨h1, h2⟩ := flat_pre a c ht.2.1 hu.2.1 _ _ h.2
    obtain ⟨h3, h4⟩ := flat_pre b d ht.2.2 hu.2.2 _ _ h2
    exact ⟨by rw [h.1, h1, h3], h4⟩
/-- A list of things that are apart, each one of N, has at most N. -/
theorem pigeon {α : Type} (f : Nat → α) : ∀ (N : Nat) (l : List α), l.Pairwise (fun a b => a ≠ b) → (∀ k ∈ l, ∃ c, c < N ∧ k = f c) → l.length ≤ N
  | 0, [], _, _ => Nat.le_refl _
  | 0, a :: l, _, h => by obtain ⟨c, hc, _⟩ := h a (by simp); omega
  | N + 1, l, hp, h => by
    haveI : DecidableEq α := fun a b => Classical.propDecidable (a = b)
    have h1 := pigeon f N (l.filter fun a => !decide (a = f N)) (hp.filter _) (fun k hk => by
      rw [List.mem_filter] at hk
      obtain ⟨c, hc, rfl⟩ := h k hk.1
      refine ⟨c, ?_, rfl⟩
      rcases Nat.lt_or_ge c N with h' | h'
      · exact h'
      · obtain rfl : c = N := by omega
        simp at hk)
    have h2 : ∀ (l : List α), l.Pairwise (fun a b => a ≠ b) → l.length ≤ (l.filter fun a => !decide (a = f N)).length + 1 := by
      intro l
      induction l with
      | nil => intro _; simp
      | cons a l ih =>
        intro hp
        rw [List.pairwise_cons] at hp
        by_cases ha : a = f N
        · have e : l.filter (fun a => !decide (a = f N)) = l := List.filter_eq_self.2 fun b hb => by
            have := hp.1 b hb
            simp
            intro e
            exact this (ha.trans e.symm)
          rw [List.filter_cons, e]
          simp [ha]
        · rw [List.filter_cons]
          have := ih hp.2
          simp [ha]
          omega
    have := h2 l hp
    omega
end Go.Proofs.YtgnmlnfddcnkbaaDoor
namespace Go.Proofs.YtgnmlnfddcnkbaaDoor
set_option linter.unusedSimpArgs false
set_option linter.unusedVariables false
set_option maxRecDepth 100000
open Go.RowKit

theorem td64 (a : Nat) : (a : Int).tdiv 64 = ((a / 64 : Nat) : Int) := by
  rw [Int.tdiv_eq_ediv_of_nonneg (by omega)]; omega
theorem tm64 (a : Nat) : (a : Int).tmod 64 = ((a % 64 : Nat) : Int) := by
  rw [Int.tmod_eq_emod_of_nonneg (by omega)]; omega
set_option maxHeartbeats 400000 in
theorem phas_any (p : Nat → Bool) (a : Nat) (ha : a < 448) (w : World) :
    Calls Tryd.prog 83 #[plV p, .int .i64 (a : Int)] w fun e w' => e = .returned (.bool (p a)) ∧ Below w.heap.size w w' := by
  have hw := (Hp.new w p _ rfl).cell (a / 64) (by omega)
  have h1 := td64 a
  have h2 := tm64 a
  have hx := has_word p a
  unfold plV
  go_enter Tryd.func83, Tryd.ntmps83
  go_wp2
  go_ret
  exact ⟨rfl, (Below.refl _ _).alloc (Nat.le_refl _) _⟩
set_option maxHeartbeats 400000 in
theorem pwith_any (p : Nat → Bool) (a : Nat) (ha : a < 448) (w : World) :
    Calls Tryd.prog 74 #[plV p, .int .i64 (a : Int)] w fun e w' => e = .returned (plV (withP p a)) ∧ Below w.heap.size w w' := by
  have h1 := td64 a
  have h2 := tm64 a
  have i0 : (0 : Int) ≤ (a : Int) / 64 := by omega
  have i1 : (a : Int) / 64 < 7 := by omega
  have i2 : ((a : Int) / 64).toNat = a / 64 := by omega
  have i3 : ((a : Int) % 64).toNat = a % 64 := by omega
  have i4 : (0 : Int) ≤ (a : Int) % 64 := by omega
  obtain ⟨w0, hw0⟩ : ∃ w0, w0 = (w.alloc (.cells #[.int .u64 (wd p 0), .int .u64 (wd p 1), .int .u64 (wd p 2), .int .u64 (wd p 3), .int .u64 (wd p 4), .int .u64 (wd p 5), .int .u64 (wd p 6)] 78)).alloc (.cells #[.int .u64 0, .int .u64 0, .int .u64 0, .int .u64 0, .int .u64 0, .int .u64 0, .int .u64 0] 78) := ⟨_, rfl⟩
  have hP : Hp w0 w.heap.size p := by rw [hw0]; exact (Hp.new w p _ rfl).alloc _
  have hZ : Hp w0 (w.heap.size + 1) noP := by rw [hw0]; exact Hp.zero _ _ (by simp)
  have hB : Below w.heap.size w w0 := by rw [hw0]; exact ((Below.refl _ w).alloc (Nat.le_refl _) _).alloc (by simp) _
  have hc := hP.cell (a / 64) (by omega)
  have hf := hP.frozen (a / 64)
  unfold plV
  go_enter Tryd.func74, Tryd.ntmps74
  go_wp2_with fail
  rw [← hw0]
  clear hw0
  go_region
  have hP1 : Hp (w0.setCell ⟨w.heap.size, a / 64, none⟩ (.int .u64 (bits .or .u64 (wd p (a / 64)) (IntKind.u64.wrap (2 ^ (a % 64)))))).drew w.heap.size (withP p a) := (hP.store (a / 64) (by omega) _ (with_set p a ha)).drew
  have hZ1 : Hp (w0.setCell ⟨w.heap.size, a / 64, none⟩ (.int .u64 (bits .or .u64 (wd p (a / 64)) (IntKind.u64.wrap (2 ^ (a % 64)))))).drew (w.heap.size + 1) noP := (hZ.other _ _ (by simp)).drew
  have hB1 : Below w.heap.size w (w0.setCell ⟨w.heap.size, a / 64, none⟩ (.int .u64 (bits .or .u64 (wd p (a / 64)) (IntKind.u64.wrap (2 ^ (a % 64)))))).drew := (hB.setCell (Nat.le_refl _) _).drew
  generalize (w0.setCell ⟨w.heap.size, a / 64, none⟩ (.int .u64 (bits .or .u64 (wd p (a / 64)) (IntKind.u64.wrap (2 ^ (a % 64)))))).drew = w1 at hP1 hZ1 hB1 ⊢
  clear hP hZ hB hc hf
  obtain ⟨c0, c1, c2, c3, c4, c5, c6⟩ := hP1.all
  obtain ⟨d0, d1, d2, d3, d4, d5, d6⟩ := hZ1.all
  obtain ⟨f0, f1, f2, f3, f4, f5, f6⟩ := hZ1.frz
  go_wp2
  have hq := hZ1.put7 (withP p a)
  obtain ⟨e0, e1, e2, e3, e4, e5, e6⟩ := hq.all
  refine bodyPost_ret (v := plV (withP p a)) (by simp [results, Tryd.results74, go_sem, plV, e0, e1, e2, e3, e4, e5, e6]) rfl ⟨rfl, ?_⟩
  exact below_put7 hB1 (by omega) _
set_option maxHeartbeats 400000 in
theorem pwhen_any (so : Bool) (a : Nat) (ha : a < 448) (w : World) :
    Calls Tryd.prog 70 #[.bool so, .int .i64 (a : Int)] w fun e w' => e = .returned (plV (whenP so a)) ∧ Below w.heap.size w w' := by
  have hZ : Hp (w.alloc (.cells #[.int .u64 0, .int .u64 0, .int .u64 0, .int .u64 0, .int .u64 0, .int .u64 0, .int .u64 0] 78)) w.heap.size noP := Hp.zero _ _ rfl
  have hB : Below w.heap.size w (w.alloc (.cells #[.int .u64 0, .int .u64 0, .int .u64 0, .int .u64 0, .int .u64 0, .int .u64 0, .int .u64 0] 78)) := (Below.refl _ w).alloc (Nat.le_refl _) _
  have hs : w.heap.size < (w.alloc (.cells #[.int .u64 0, .int .u64 0, .int .u64 0, .int .u64 0, .int .u64 0, .int .u64 0, .int .u64 0] 78)).heap.size := by simp
  have hwd : plV noP = .agg #[.int .u64 0, .int .u64 0, .int .u64 0, .int .u64 0, .int .u64 0, .int .u64 0, .int .u64 0] := by
    unfold plV
    rw [wd_no, wd_no, wd_no, wd_no, wd_no, wd_no, wd_no]
  have C : Hid _ := pwith_any noP a ha
  cases so with
  | false =>
    go_enter Tryd.func70, Tryd.ntmps70
    go_wp2_with fail
    refine bodyPost_ret (v := plV (whenP false a)) (by rw [when_false, hwd]; simp [results, Tryd.results70, go_sem]) rfl ⟨rfl, ?_⟩
    exact hB
  | true =>
    go_enter Tryd.func70, Tryd.ntmps70
    go_wp2_with fail
    rw [← hwd]
    refine (C.out _).mono ?_
    rintro e w1 ⟨rfl, hb⟩
    have hZ1 := hZ.below hb hs
    have hB1 : Below w.heap.size w w1 := hB.trans (hb.mono (by simp))
    clear C hZ hB
    obtain ⟨d0, d1, d2, d3, d4, d5, d6⟩ := hZ1.all
    obtain ⟨f0, f1, f2, f3, f4, f5, f6⟩ := hZ1.frz
    unfold plV
    go_wp2
    have hq := hZ1.put7 (withP noP a)
    obtain ⟨e0, e1, e2, e3, e4, e5, e6⟩ := hq.all
    refine bodyPost_ret (v := plV (withP noP a)) (by simp [results, Tryd.results70, go_sem, plV, e0, e1, e2, e3, e4, e5, e6]) rfl ⟨by rw [when_true], ?_⟩
    exact below_put7 hB1 (by omega) _
theorem idx7_0 (a0 a1 a2 a3 a4 a5 a6 : Int) (w : World) : (Instr.index 76 (.agg #[.int .u64 a0, .int .u64 a1, .int .u64 a2, .int .u64 a3, .int .u64 a4, .int .u64 a5, .int .u64 a6]) (.int .i64 0)).run Tryd.prog w = .ok (.int .u64 a0) w := by kernel_rfl
theorem idx7_1 (a0 a1 a2 a3 a4 a5 a6 : Int) (w : World) : (Instr.index 76 (.agg #[.int .u64 a0, .int .u64 a1, .int .u64 a2, .int .u64 a3, .int .u64 a4, .int .u64 a5, .int .u64 a6]) (.int .i64 1)).run Tryd.prog w = .ok (.int .u64 a1) w := by kernel_rfl
theorem idx7_2 (a0 a1 a2 a3 a4 a5 a6 : Int) (w : World) : (Instr.index 76 (.agg #[.int .u64 a0, .int .u64 a1, .int .u64 a2, .int .u64 a3, .int .u64 a4, .int .u64 a5, .int .u64 a6]) (.int .i64 2)).run Tryd.prog w = .ok (.int .u64 a2) w := by kernel_rfl
theorem idx7_3 (a0 a1 a2 a3 a4 a5 a6 : Int) (w : World) : (Instr.index 76 (.agg #[.int .u64 a0, .int .u64 a1, .int .u64 a2, .int .u64 a3, .int .u64 a4, .int .u64 a5, .int .u64 a6]) (.int .i64 3)).run Tryd.prog w = .ok (.int .u64 a3) w := by kernel_rfl
theorem idx7_4 (a0 a1 a2 a3 a4 a5 a6 : Int) (w : World) : (Instr.index 76 (.agg #[.int .u64 a0, .int .u64 a1, .int .u64 a2, .int .u64 a3, .int .u64 a4, .int .u64 a5, .int .u64 a6]) (.int .i64 4)).run Tryd.prog w = .ok (.int .u64 a4) w := by kernel_rfl
theorem idx7_5 (a0 a1 a2 a3 a4 a5 a6 : Int) (w : World) : (Instr.index 76 (.agg #[.int .u64 a0, .int .u64 a1, .int .u64 a2, .int .u64 a3, .int .u64 a4, .int .u64 a5, .int .u64 a6]) (.int .i64 5)).run Tryd.prog w = .ok (.int .u64 a5) w := by kernel_rfl
theorem idx7_6 (a0 a1 a2 a3 a4 a5 a6 : Int) (w : World) : (Instr.index 76 (.agg #[.int .u64 a0, .int .u64 a1, .int .u64 a2, .int .u64 a3, .int .u64 a4, .int .u64 a5, .int .u64 a6]) (.int .i64 6)).run Tryd.prog w = .ok (.int .u64 a6) w := by kernel_rfl
/-- A word of seven. -/
theorem idx7 (q : Nat → Bool) (k : Nat) (hk : k < 7) (w : World) : (Instr.index 76 (.agg #[.int .u64 (wd q 0), .int .u64 (wd q 1), .int .u64 (wd q 2), .int .u64 (wd q 3), .int .u64 (wd q 4), .int .u64 (wd q 5), .int .u64 (wd q 6)]) (.int .i64 (k : Int))).run Tryd.prog w = .ok (.int .u64 (wd q k)) w := by
  rcases (by omega : k = 0 ∨ k = 1 ∨ k = 2 ∨ k = 3 ∨ k = 4 ∨ k = 5 ∨ k = 6) with rfl | rfl | rfl | rfl | rfl | rfl | rfl
  · exact idx7_0 _ _ _ _ _ _ _ w
  · exact idx7_1 _ _ _ _ _ _ _ w
  · exact idx7_2 _ _ _ _ _ _ _ w
  · exact idx7_3 _ _ _ _ _ _ _ w
  · exact idx7_4 _ _ _ _ _ _ _ w
  · exact idx7_5 _ _ _ _ _ _ _ w
  · exact idx7_6 _ _ _ _ _ _ _ w
set_option maxHeartbeats 1000000 in
theorem pjoined_any (p q : Nat → Bool) (w : World) :
    Calls Tryd.prog 73 #[plV p, plV q] w fun e w' => e = .returned (plV (joinP p q)) ∧ Below w.heap.size w w' := by
  unfold plV
  go_enter Tryd.func73, Tryd.ntmps73
  go_wp2
  go_loopw [9] (fun i wr => ∃ k : Nat, k ≤ 7 ∧ i = .int .i64 k ∧ Below w.heap.size w wr ∧ Hp wr w.heap.size (joinK p q k) ∧ Hp wr (w.heap.size + 1 + 1) noP) (fun i _ => 7 - (intOf i).toNat)
  case atStart =>
    refine ⟨0, by omega, rfl, ?_, ?_, ?_⟩
    · exact (((Below.refl _ _).alloc (Nat.le_refl _) _).alloc (by simp) _).alloc (by simp; omega) _
    · rw [joinK_zero]; exact ((Hp.new _ p _ rfl).alloc _).alloc _
    · exact Hp.zero _ _ (by simp)
  case round =>
    obtain ⟨k, hk, rfl, hB, hJ, hZ⟩ := hrel
    by_cases hlt : k < 7
    · have cj := hJ.cell k hlt
      have fj := hJ.frozen k
      have i0 : (0 : Int) ≤ (k : Int) := by omega
      have i1 : (k : Int) < 7 := by omega
      have hqk := idx7 q k hlt
      go_wp2_with fail
      refine ⟨⟨k + 1, by omega, by go_num, hB.setCell (Nat.le_refl _) _, hJ.store k hlt _ (join_set p q k hlt), hZ.other _ _ (by simp only; omega)⟩, by simp [intOf]; omega⟩
    · have hk7 : k = 7 := by omega
      subst hk7
      obtain ⟨c0, c1, c2, c3, c4, c5, c6⟩ := hJ.all
      obtain ⟨d0, d1, d2, d3, d4, d5, d6⟩ := hZ.all
      obtain ⟨f0, f1, f2, f3, f4, f5, f6⟩ := hZ.frz
      go_wp2
      have hq := hZ.put7 (joinP p q)
      have e7 := joinK_end p q
      unfold cellsP at e7
      simp only [List.cons.injEq, Value.int.injEq, true_and, and_true] at e7
      obtain ⟨g0, g1, g2, g3, g4, g5, g6⟩ := e7
      rw [g0, g1, g2, g3, g4, g5, g6]
      obtain ⟨e0, e1, e2, e3, e4, e5, e6⟩ := hq.all
      refine bodyPost_ret (v := plV (joinP p q)) (by simp [results, Tryd.results73, go_sem, plV, e0, e1, e2, e3, e4, e5, e6]) rfl ⟨rfl, ?_⟩
      exact below_put7 hB (by omega) _
end Go.Proofs.YtgnmlnfddcnkbaaDoor
