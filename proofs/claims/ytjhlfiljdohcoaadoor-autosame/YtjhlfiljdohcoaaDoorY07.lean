/- The law AutoSame, walked from what the document asks of packages auto and sim. (Made by wip/tools/genaus.py.) A program, all ways at once: what is come to at one place, and the next one: plain mathematics. -/
import Derived.Test.YtjhlfiljdohcoaaDoorY05
import Derived.Test.YtjhlfiljdohcoaaDoorY06
import Derived.Test.YtjhlfiljdohcoaaDoorY03
import Derived.Deep.RegionHeld3
import Derived.BigRegion
import Derived.BigQuiet
import Derived.Lib.QuietBelow
import Derived.Deep.LoopGhost
namespace Go.Proofs.YtjhlfiljdohcoaaDoor
set_option linter.unusedSimpArgs false
set_option linter.unusedVariables false
set_option maxRecDepth 100000
open Go.RowKit
theorem ssIn_two (w : World) (n m : St) : SsIn (w.alloc (.cells #[.int .i64 n.op, .int .u64 n.c.a, .int .u64 n.c.b, .int .u64 n.c.c, .int .u64 n.c.d, .int .i64 n.x, .int .i64 n.y, .int .i64 m.op, .int .u64 m.c.a, .int .u64 m.c.b, .int .u64 m.c.c, .int .u64 m.c.d, .int .i64 m.x, .int .i64 m.y] 52)) (.slice (some ⟨w.heap.size, 0, none⟩) 2 2) [n, m] := by
  refine ⟨_, 2, rfl, by simp [maxLen], Or.inr ⟨w.heap.size, 0, rfl, by simp, ?_⟩⟩
  intro i x hx
  match i, hx with
  | 0, hx =>
    simp at hx
    subst hx
    refine ⟨?_, ?_, ?_, ?_, ?_, ?_, ?_⟩ <;> simp
  | 1, hx =>
    simp at hx
    subst hx
    refine ⟨?_, ?_, ?_, ?_, ?_, ?_, ?_⟩ <;> simp
  | i + 2, hx => simp at hx
theorem tA_prog : tA.prog = [⟨1, kA, 1, 0⟩, ⟨5, z4, 0, 0⟩] := rfl
set_option maxHeartbeats 8000000 in
theorem autoSame_bad {X : World → Prop} {Au : Nat → World → Value → List St → Prop} (hXb : Lasts X) (C : AutoC X Au) (L : SimL X) (ss : List St) (v : Value) (ts : List ByteArray) (tv : Value) (zs : List Int) (zv : Value) (w : World) (hX : X w) (hS : SsIn w v ss) (wS : ∀ n ∈ ss, n.wf) (hTs : TsIn w tv ts) (wT : ∀ t ∈ ts, t.size ≤ maxLen) (hZs : ZsIn w zv zs) (wZ : ∀ z ∈ zs, (Lit.int .i64 z).wf = true) (hE : w.cell? ⟨1, 0, none⟩ = some (rty 25)) (h0 : 1 < w.heap.size) (hf : ¬ stepsF ss = 0) :
    Calls Tryd.prog 6 #[v, tv, zv] w fun e w' => e = .returned (.bool true) ∧ Below w.heap.size w w' := by
  have HOS : SsOk ss := fun s hs => C4.wf_ok (wS s hs).2.1
  have HO : Hid (∀ w', Below w.heap.size w w' → _) := fun w' _ => ofA w'
  have HN1 : Hid (∀ v w', Below w.heap.size w w' → SsIn w' v tA.prog → _) := fun v w' hb h => C.new tA.prog v w' (hXb w w' hX hb) h (prog_wf tA (by simp [Rx.flat]) tA_wf) (prog_fault tA (by simp [Rx.flat]))
  have hz1 : simE tA.prog (⟨#[97, 98]⟩ : ByteArray).size (0 : Nat) = 0 := (simE_zero _ _ _).2 ⟨prog_fault tA (by simp [Rx.flat]), by decide, by simp, by simp⟩
  have HL1 : Hid (∀ B u w', Below w.heap.size w w' → Au B w' u tA.prog → B ≤ w'.heap.size → _) := fun B u w' hb h hB => C.long B tA.prog u ⟨#[97, 98]⟩ 0 [1] w' (hXb w w' hX hb) h hB hz1 ((run_ends tA tA_ok (fun n hn => by simp [Rx.flat] at hn; subst hn; simp) [97, 98] 0 (Nat.zero_le _) [1]).2 tA_ab)
  rw [show lastI [1] = 1 from rfl] at HL1
  have HKP : Hid (∀ B w w' u ss, Au B w u ss → Below w.heap.size w w' → Au B w' u ss) := C.keep
  have HSF : Hid (∀ w', Below w.heap.size w w' → _) := fun w' hb => stepsFault_any ss HOS v w' (hS.below hb)
  have HE1 : Hid (∀ w', Below w.heap.size w w' → _) := fun w' hb => error_self (stepsF ss) w' ((hb.cell (p := ⟨1, 0, none⟩) h0).trans hE)
  have B := hid (Below.refl w.heap.size w)
  have HNB : Hid (∀ w', Below w.heap.size w w' → _) := fun w' hb => C.newBad ss v w' (hS.below hb) wS hf
  rw [show errV (stepsF ss) = .iface 45 (.int .i64 (stepsF ss)) by unfold errV; rw [if_neg hf]] at HNB HE1
  obtain ⟨va, vc, rfl, vm⟩ := ssIn_form hS
  obtain ⟨ta, tc, rfl, tm, hT⟩ := hTs
  obtain ⟨za, zc, rfl, zm, hZ⟩ := hZs
  unfold maxLen at vm tm zm
  clear hS C L hX hXb hT hZ hz1
  go_enter Tryd.func6, Tryd.ntmps6
  go_wp2_with fail
  refine Calls.mono (HO.out _ B.out) ?_
  rintro e w1 ⟨rfl, hb⟩
  replace B := hid (B.out.trans (hb.mono B.out.size))
  clear hb
  go_wp2_with fail
  obtain ⟨o, ho⟩ : ∃ o : Obj, o = .cells #[.int .i64 1, .int .u64 kA.a, .int .u64 kA.b, .int .u64 kA.c, .int .u64 kA.d, .int .i64 1, .int .i64 0, .int .i64 5, .int .u64 0, .int .u64 0, .int .u64 0, .int .u64 0, .int .i64 0, .int .i64 0] 52 := ⟨_, rfl⟩
  have hone : SsIn (w1.alloc o) (.slice (some ⟨w1.heap.size, 0, none⟩) 2 2) tA.prog := by rw [ho]; exact ssIn_two w1 ⟨1, kA, 1, 0⟩ ⟨5, z4, 0, 0⟩
  rw [← ho]
  have HBo : Hid (Below w1.heap.size w1 (w1.alloc o)) := (Below.refl _ _).alloc (Nat.le_refl _) _
  replace B := hid (B.out.trans (HBo.out.mono B.out.size))
  have HNN := hid (HN1.out _ (w1.alloc o) B.out hone)
  have HBB := hid B.out.size
  generalize w1.alloc o = W1 at *
  clear ho hone HBo
  refine Calls.mono HNN.out ?_
  rintro e w2 ⟨zp, rfl, hau, hb, hst⟩
  have HB2 := hid hb.size
  replace B := hid (B.out.trans (hb.mono B.out.size))
  clear hb
  have HAU := hid hau
  have HST := hid hst
  clear hau hst HNN
  go_wp2_with fail
  refine Calls.mono HST.out ?_
  rintro e w3 ⟨rfl, hb⟩
  replace HAU := hid (HKP.out _ _ _ _ _ HAU.out hb)
  replace HB2 := hid (Nat.le_trans HB2.out hb.size)
  replace B := hid (B.out.trans (hb.mono B.out.size))
  clear hb
  go_wp2_with fail
  refine Calls.mono (HL1.out _ _ _ B.out HAU.out HB2.out) ?_
  rintro e w4 ⟨rfl, _, hb⟩
  replace B := hid (B.out.trans (hb.mono HBB.out))
  clear hb HAU HST HB2 HBB
  go_wp2_with fail
  refine Calls.mono (HNB.out _ B.out) ?_
  rintro e w5 ⟨ap, rfl, hb⟩
  replace B := hid (B.out.trans (hb.mono B.out.size))
  clear hb
  go_wp2_with fail
  refine Calls.mono (HSF.out _ B.out) ?_
  rintro e w6 ⟨rfl, hb⟩
  replace B := hid (B.out.trans (hb.mono B.out.size))
  clear hb
  go_wp2_with fail
  refine Calls.mono (HE1.out _ B.out) ?_
  rintro e w7 ⟨rfl, hb⟩
  replace B := hid (B.out.trans (hb.mono B.out.size))
  clear hb
  go_wp2
  go_ret
  exact ⟨rfl, B.out⟩
set_option maxHeartbeats 40000000 in
theorem autoSame_ok {X : World → Prop} {Au : Nat → World → Value → List St → Prop} (hXb : Lasts X) (C : AutoC X Au) (L : SimL X) (ss : List St) (v : Value) (ts : List ByteArray) (tv : Value) (zs : List Int) (zv : Value) (w : World) (hX : X w) (hS : SsIn w v ss) (wS : ∀ n ∈ ss, n.wf) (hTs : TsIn w tv ts) (wT : ∀ t ∈ ts, t.size ≤ maxLen) (hZs : ZsIn w zv zs) (wZ : ∀ z ∈ zs, (Lit.int .i64 z).wf = true) (hE : w.cell? ⟨1, 0, none⟩ = some (rty 25)) (h0 : 1 < w.heap.size) (hf : stepsF ss = 0) :
    Calls Tryd.prog 6 #[v, tv, zv] w fun e w' => e = .returned (.bool true) ∧ Below w.heap.size w w' := by
  have HOS : SsOk ss := fun s hs => C4.wf_ok (wS s hs).2.1
  have HO : Hid (∀ w', Below w.heap.size w w' → _) := fun w' _ => ofA w'
  have HN1 : Hid (∀ v w', Below w.heap.size w w' → SsIn w' v tA.prog → _) := fun v w' hb h => C.new tA.prog v w' (hXb w w' hX hb) h (prog_wf tA (by simp [Rx.flat]) tA_wf) (prog_fault tA (by simp [Rx.flat]))
  have hz1 : simE tA.prog (⟨#[97, 98]⟩ : ByteArray).size (0 : Nat) = 0 := (simE_zero _ _ _).2 ⟨prog_fault tA (by simp [Rx.flat]), by decide, by simp, by simp⟩
  have HL1 : Hid (∀ B u w', Below w.heap.size w w' → Au B w' u tA.prog → B ≤ w'.heap.size → _) := fun B u w' hb h hB => C.long B tA.prog u ⟨#[97, 98]⟩ 0 [1] w' (hXb w w' hX hb) h hB hz1 ((run_ends tA tA_ok (fun n hn => by simp [Rx.flat] at hn; subst hn; simp) [97, 98] 0 (Nat.zero_le _) [1]).2 tA_ab)
  rw [show lastI [1] = 1 from rfl] at HL1
  have HKP : Hid (∀ B w w' u ss, Au B w u ss → Below w.heap.size w w' → Au B w' u ss) := C.keep
  have HSF : Hid (∀ w', Below w.heap.size w w' → _) := fun w' hb => stepsFault_any ss HOS v w' (hS.below hb)
  have HE1 : Hid (∀ w', Below w.heap.size w w' → _) := fun w' hb => error_self (stepsF ss) w' ((hb.cell (p := ⟨1, 0, none⟩) h0).trans hE)
  have B := hid (Below.refl w.heap.size w)
  have HNG : Hid (∀ w', Below w.heap.size w w' → _) := fun w' hb => C.new ss v w' (hXb w w' hX hb) (hS.below hb) wS hf
  rw [hf, show errV 0 = .nilIface from rfl] at HE1
  rw [hf] at HSF
  have HSTA : Hid (∀ B w u ss, Au B w u ss → _) := C.states
  have HSLG : Hid (∀ (t : ByteArray) (i : Nat) l w', Below w.heap.size w w' → simE ss t.size i = 0 → RunR ss t.data.toList i l → _) := fun t i l w' hb hz hl => L.long ss v t i l w' (hXb w w' hX hb) (hS.below hb) wS hz hl
  have HSLB : Hid (∀ (t : ByteArray) (i : Int) w', Below w.heap.size w w' → t.size ≤ maxLen → ¬ simE ss t.size i = 0 → _) := fun t i w' hb ht hz => L.bad ss v t i w' (hS.below hb) wS ht hz
  have HCL : Hid (∀ B u (s : ByteArray) (i : Nat) l w', Below w.heap.size w w' → Au B w' u ss → B ≤ w'.heap.size → simE ss s.size i = 0 → RunR ss s.data.toList i l → _) := fun B u s i l w' hb ha hB hz hl => C.long B ss u s i l w' (hXb w w' hX hb) ha hB hz hl
  have HCB : Hid (∀ B u (s : ByteArray) (i : Int) w', Au B w' u ss → B ≤ w'.heap.size → s.size ≤ maxLen → ¬ simE ss s.size i = 0 → _) := fun B u s i w' ha hB hs hz => C.bad B ss u s i w' ha hB hf hs hz
  obtain ⟨va, vc, rfl, vm⟩ := ssIn_form hS
  obtain ⟨ta, tc, rfl, tm, hT⟩ := hTs
  obtain ⟨za, zc, rfl, zm, hZ⟩ := hZs
  have HWT := hid wT
  have HT := hid hT
  have HZ := hid hZ
  unfold maxLen at vm tm zm
  clear hS C L hX hXb hz1 wT hT hZ
  go_enter Tryd.func6, Tryd.ntmps6
  go_wp2_with fail
  refine Calls.mono (HO.out _ B.out) ?_
  rintro e w1 ⟨rfl, hb⟩
  replace B := hid (B.out.trans (hb.mono B.out.size))
  clear hb
  go_wp2_with fail
  obtain ⟨o, ho⟩ : ∃ o : Obj, o = .cells #[.int .i64 1, .int .u64 kA.a, .int .u64 kA.b, .int .u64 kA.c, .int .u64 kA.d, .int .i64 1, .int .i64 0, .int .i64 5, .int .u64 0, .int .u64 0, .int .u64 0, .int .u64 0, .int .i64 0, .int .i64 0] 52 := ⟨_, rfl⟩
  have hone : SsIn (w1.alloc o) (.slice (some ⟨w1.heap.size, 0, none⟩) 2 2) tA.prog := by rw [ho]; exact ssIn_two w1 ⟨1, kA, 1, 0⟩ ⟨5, z4, 0, 0⟩
  rw [← ho]
  have HBo : Hid (Below w1.heap.size w1 (w1.alloc o)) := (Below.refl _ _).alloc (Nat.le_refl _) _
  replace B := hid (B.out.trans (HBo.out.mono B.out.size))
  have HNN := hid (HN1.out _ (w1.alloc o) B.out hone)
  have HBB := hid B.out.size
  generalize w1.alloc o = W1 at *
  clear ho hone HBo
  refine Calls.mono HNN.out ?_
  rintro e w2 ⟨zp, rfl, hau, hb, hst⟩
  have HB2 := hid hb.size
  replace B := hid (B.out.trans (hb.mono B.out.size))
  clear hb
  have HAU := hid hau
  have HST := hid hst
  clear hau hst HNN
  go_wp2_with fail
  refine Calls.mono HST.out ?_
  rintro e w3 ⟨rfl, hb⟩
  replace HAU := hid (HKP.out _ _ _ _ _ HAU.out hb)
  replace HB2 := hid (Nat.le_trans HB2.out hb.size)
  replace B := hid (B.out.trans (hb.mono B.out.size))
  clear hb
  go_wp2_with fail
  refine Calls.mono (HL1.out _ _ _ B.out HAU.out HB2.out) ?_
  rintro e w4 ⟨rfl, _, hb⟩
  replace B := hid (B.out.trans (hb.mono HBB.out))
  clear hb HAU HST HB2 HBB
  go_wp2_with fail
  refine Calls.mono (HNG.out _ B.out) ?_
  rintro e w5 ⟨ap, rfl, hau, hb, _⟩
  obtain ⟨BB, HBE⟩ : ∃ BB, Hid (BB = w4.heap.size) := ⟨_, Eq.refl _⟩
  rw [← HBE.out] at hau
  have HAW := hid hau
  have HSZ : Hid (BB ≤ w5.heap.size) := by rw [HBE.out]; exact hb.size
  have HBB2 : Hid (w.heap.size ≤ BB) := by rw [HBE.out]; exact B.out.size
  have HLG := hid (HCL.out BB)
  have HLB := hid (HCB.out BB)
  clear hau
  replace B := hid (B.out.trans (hb.mono B.out.size))
  clear hb
  go_wp2_with fail
  refine Calls.mono (HSF.out _ B.out) ?_
  rintro e w6 ⟨rfl, hb⟩
  replace HAW := hid (HKP.out _ _ _ _ _ HAW.out hb)
  replace HSZ := hid (Nat.le_trans HSZ.out hb.size)
  replace B := hid (B.out.trans (hb.mono B.out.size))
  clear hb
  go_wp2_with fail
  refine Calls.mono (HE1.out _ B.out) ?_
  rintro e w7 ⟨rfl, hb⟩
  replace HAW := hid (HKP.out _ _ _ _ _ HAW.out hb)
  replace HSZ := hid (Nat.le_trans HSZ.out hb.size)
  replace B := hid (B.out.trans (hb.mono B.out.size))
  clear hb
  go_wp2_with fail
  go_loopg [14] ts.length (fun k v wz => ∃ j : Nat, v = .int .i64 (j : Int) ∧ j ≤ ts.length ∧ k = ts.length - j ∧ Hid (Au BB wz (.pointer ap) ss) ∧ Hid (Below w.heap.size w wz) ∧ Hid (BB ≤ wz.heap.size))
  case atStart => exact ⟨0, rfl, by omega, rfl, HAW, B, HSZ⟩
  case round =>
    clear HAW B HSZ
    obtain ⟨j, rfl, hj, hgk, HAW, B, HSZ⟩ := hrel
    by_cases hjt : j < ts.length
    case neg =>
      have g1 : ¬ (j : Int) < (ts.length : Int) := by omega
      go_wp2
      go_ret
      exact ⟨rfl, B.out⟩
    by_cases hj10 : j < 10
    case neg =>
      have g1 : (j : Int) < (ts.length : Int) := by omega
      have g2 : ¬ (j : Int) < 10 := by omega
      go_wp2
      go_ret
      exact ⟨rfl, B.out⟩
    have g1 : (j : Int) < (ts.length : Int) := by omega
    have g2 : (j : Int) < 10 := by omega
    have g3 : (0 : Int) ≤ (j : Int) := by omega
    obtain ⟨t, ht⟩ : ∃ t, ts[j]? = some t := ⟨ts[j], List.getElem?_eq_getElem hjt⟩
    have htm := HWT.out t (List.mem_of_getElem? ht)
    rcases HT.out with hT | ⟨tb, to, rfl, htb, hcell⟩
    · rw [hT] at hjt; simp at hjt
    have HTC : Hid (∀ w', Below w.heap.size w w' → w'.cell? ⟨tb, to + j, none⟩ = some (.string t)) := fun w' hb => (hb.cell (p := ⟨tb, _, none⟩) htb).trans (hcell j t ht)
    have c0 := HTC.out wr B.out
    clear ht hcell
    by_cases hjz : j < zs.length
    · obtain ⟨z, hz0⟩ : ∃ z, zs[j]? = some z := ⟨zs[j], List.getElem?_eq_getElem hjz⟩
      rcases HZ.out with hZ | ⟨zb, zo, rfl, hzb, hcell⟩
      · rw [hZ] at hjz; simp at hjz
      have c1 : wr.cell? ⟨zb, zo + j, none⟩ = some (.int .i64 z) := (B.out.cell (p := ⟨zb, _, none⟩) hzb).trans (hcell j z hz0)
      have g4 : (j : Int) < (zs.length : Int) := by omega
      clear hz0 hcell
      by_cases hz : simE ss t.size z = 0
      · obtain ⟨l, hl⟩ := run_total ss t.data.toList (z).toNat
        have hzn : (z : Int) = (((z).toNat : Nat) : Int) := by have := ((simE_zero _ _ _).1 hz).2.2; omega
        have hz' : simE ss t.size ((((z).toNat : Nat) : Int)) = 0 := by rw [← hzn]; exact hz
        have HLO : Hid (∀ w', Below wr.heap.size wr w' → _) := fun w' hb => HLG.out (.pointer ap) t (z).toNat l w' (B.out.trans (hb.mono B.out.size)) (HKP.out _ _ _ _ _ HAW.out hb) (Nat.le_trans HSZ.out hb.size) hz' hl
        have HSL : Hid (∀ w', Below w.heap.size w w' → _) := fun w' hb => HSLG.out t (z).toNat l w' hb hz' hl
        rw [← hzn] at HLO HSL
        have g0 : (lastI l != lastI l) = false := by simp
        clear hl hz hz' hzn
        go_wp2_with fail
        refine Calls.mono (HLO.out _ (Below.refl _ _)) ?_
        rintro e wa ⟨rfl, hau, hb⟩
        have HA2 := hid hau
        have HS2 : Hid (BB ≤ wa.heap.size) := Nat.le_trans HSZ.out hb.size
        replace B := hid (B.out.trans (hb.mono HBB2.out))
        clear hau hb
        have d0 := HTC.out wa B.out
        go_wp2_with fail
        refine Calls.mono (HSL.out _ B.out) ?_
        rintro e wb ⟨rfl, hb⟩
        replace HA2 := hid (HKP.out _ _ _ _ _ HA2.out hb)
        replace HS2 := hid (Nat.le_trans HS2.out hb.size)
        replace B := hid (B.out.trans (hb.mono B.out.size))
        clear hb
        obtain ⟨kk, hk100, hks⟩ := HSTA.out _ _ _ _ HA2.out
        have HKS := hid hks
        have k1 : ¬ (100 : Int) < (kk : Int) := by omega
        have k2 : decide ((100 : Int) < (kk : Int)) = false := by simp only [k1, decide_false]
        clear hks hk100
        go_wp2_with fail
        refine wp_region_quiet_below (by kernel_rfl) (by kernel_rfl) ?_
        repeat (go_big_quiet_step (first
          | (go_at_call 19; exact Calls.regrown_of (HKS.out _ (below_regrown _ _ _)))))
        refine wpQuiet_nil ?_
        intro _ hw'
        obtain ⟨⟨dq, osq⟩, hw''⟩ := hw'
        have hbz := below_regrown wb dq osq
        subst hw''
        generalize Go.Sort.grow (redrawn wb dq) osq = wz at *
        replace HA2 := hid (HKP.out _ _ _ _ _ HA2.out hbz)
        replace HS2 := hid (Nat.le_trans HS2.out hbz.size)
        replace B := hid (B.out.trans (hbz.mono B.out.size))
        clear hbz HKS
        go_wp2
        go_roundg (ts.length - (j + 1))
        case measure => omega
        case rel => exact ⟨j + 1, by go_num, by omega, rfl, HA2, B, HS2⟩
      · have HLO : Hid (∀ w', Below wr.heap.size wr w' → _) := fun w' hb => HLB.out (.pointer ap) t z w' (HKP.out _ _ _ _ _ HAW.out hb) (Nat.le_trans HSZ.out hb.size) htm hz
        have HSL : Hid (∀ w', Below w.heap.size w w' → _) := fun w' hb => HSLB.out t z w' hb htm hz
        rw [show errV (simE ss t.size z) = .iface 45 (.int .i64 (simE ss t.size z)) by unfold errV; rw [if_neg hz]] at HLO HSL
        clear hz
        go_wp2_with fail
        refine Calls.mono (HLO.out _ (Below.refl _ _)) ?_
        rintro e wa ⟨rfl, hau, hb⟩
        have HA2 := hid hau
        have HS2 : Hid (BB ≤ wa.heap.size) := Nat.le_trans HSZ.out hb.size
        replace B := hid (B.out.trans (hb.mono HBB2.out))
        clear hau hb
        have d0 := HTC.out wa B.out
        go_wp2_with fail
        refine Calls.mono (HSL.out _ B.out) ?_
        rintro e wb ⟨rfl, hb⟩
        replace HA2 := hid (HKP.out _ _ _ _ _ HA2.out hb)
        replace HS2 := hid (Nat.le_trans HS2.out hb.size)
        replace B := hid (B.out.trans (hb.mono B.out.size))
        clear hb
        obtain ⟨kk, hk100, hks⟩ := HSTA.out _ _ _ _ HA2.out
        have HKS := hid hks
        have k1 : ¬ (100 : Int) < (kk : Int) := by omega
        have k2 : decide ((100 : Int) < (kk : Int)) = false := by simp only [k1, decide_false]
        clear hks hk100
        go_wp2_with fail
        refine wp_region_quiet_below (by kernel_rfl) (by kernel_rfl) ?_
        repeat (go_big_quiet_step (first
          | (go_at_call 19; exact Calls.regrown_of (HKS.out _ (below_regrown _ _ _)))))
        refine wpQuiet_nil ?_
        intro _ hw'
        obtain ⟨⟨dq, osq⟩, hw''⟩ := hw'
        have hbz := below_regrown wb dq osq
        subst hw''
        generalize Go.Sort.grow (redrawn wb dq) osq = wz at *
        replace HA2 := hid (HKP.out _ _ _ _ _ HA2.out hbz)
        replace HS2 := hid (Nat.le_trans HS2.out hbz.size)
        replace B := hid (B.out.trans (hbz.mono B.out.size))
        clear hbz HKS
        go_wp2
        go_roundg (ts.length - (j + 1))
        case measure => omega
        case rel => exact ⟨j + 1, by go_num, by omega, rfl, HA2, B, HS2⟩
    · have g4 : ¬ (j : Int) < (zs.length : Int) := by omega
      by_cases hz : simE ss t.size (0 : Int) = 0
      · obtain ⟨l, hl⟩ := run_total ss t.data.toList ((0 : Int)).toNat
        have hzn : ((0 : Int) : Int) = ((((0 : Int)).toNat : Nat) : Int) := by have := ((simE_zero _ _ _).1 hz).2.2; omega
        have hz' : simE ss t.size (((((0 : Int)).toNat : Nat) : Int)) = 0 := by rw [← hzn]; exact hz
        have HLO : Hid (∀ w', Below wr.heap.size wr w' → _) := fun w' hb => HLG.out (.pointer ap) t ((0 : Int)).toNat l w' (B.out.trans (hb.mono B.out.size)) (HKP.out _ _ _ _ _ HAW.out hb) (Nat.le_trans HSZ.out hb.size) hz' hl
        have HSL : Hid (∀ w', Below w.heap.size w w' → _) := fun w' hb => HSLG.out t ((0 : Int)).toNat l w' hb hz' hl
        rw [← hzn] at HLO HSL
        have g0 : (lastI l != lastI l) = false := by simp
        clear hl hz hz' hzn
        go_wp2_with fail
        refine Calls.mono (HLO.out _ (Below.refl _ _)) ?_
        rintro e wa ⟨rfl, hau, hb⟩
        have HA2 := hid hau
        have HS2 : Hid (BB ≤ wa.heap.size) := Nat.le_trans HSZ.out hb.size
        replace B := hid (B.out.trans (hb.mono HBB2.out))
        clear hau hb
        have d0 := HTC.out wa B.out
        go_wp2_with fail
        refine Calls.mono (HSL.out _ B.out) ?_
        rintro e wb ⟨rfl, hb⟩
        replace HA2 := hid (HKP.out _ _ _ _ _ HA2.out hb)
        replace HS2 := hid (Nat.le_trans HS2.out hb.size)
        replace B := hid (B.out.trans (hb.mono B.out.size))
        clear hb
        obtain ⟨kk, hk100, hks⟩ := HSTA.out _ _ _ _ HA2.out
        have HKS := hid hks
        have k1 : ¬ (100 : Int) < (kk : Int) := by omega
        have k2 : decide ((100 : Int) < (kk : Int)) = false := by simp only [k1, decide_false]
        clear hks hk100
        go_wp2_with fail
        refine wp_region_quiet_below (by kernel_rfl) (by kernel_rfl) ?_
        repeat (go_big_quiet_step (first
          | (go_at_call 19; exact Calls.regrown_of (HKS.out _ (below_regrown _ _ _)))))
        refine wpQuiet_nil ?_
        intro _ hw'
        obtain ⟨⟨dq, osq⟩, hw''⟩ := hw'
        have hbz := below_regrown wb dq osq
        subst hw''
        generalize Go.Sort.grow (redrawn wb dq) osq = wz at *
        replace HA2 := hid (HKP.out _ _ _ _ _ HA2.out hbz)
        replace HS2 := hid (Nat.le_trans HS2.out hbz.size)
        replace B := hid (B.out.trans (hbz.mono B.out.size))
        clear hbz HKS
        go_wp2
        go_roundg (ts.length - (j + 1))
        case measure => omega
        case rel => exact ⟨j + 1, by go_num, by omega, rfl, HA2, B, HS2⟩
      · have HLO : Hid (∀ w', Below wr.heap.size wr w' → _) := fun w' hb => HLB.out (.pointer ap) t (0 : Int) w' (HKP.out _ _ _ _ _ HAW.out hb) (Nat.le_trans HSZ.out hb.size) htm hz
        have HSL : Hid (∀ w', Below w.heap.size w w' → _) := fun w' hb => HSLB.out t (0 : Int) w' hb htm hz
        rw [show errV (simE ss t.size (0 : Int)) = .iface 45 (.int .i64 (simE ss t.size (0 : Int))) by unfold errV; rw [if_neg hz]] at HLO HSL
        clear hz
        go_wp2_with fail
        refine Calls.mono (HLO.out _ (Below.refl _ _)) ?_
        rintro e wa ⟨rfl, hau, hb⟩
        have HA2 := hid hau
        have HS2 : Hid (BB ≤ wa.heap.size) := Nat.le_trans HSZ.out hb.size
        replace B := hid (B.out.trans (hb.mono HBB2.out))
        clear hau hb
        have d0 := HTC.out wa B.out
        go_wp2_with fail
        refine Calls.mono (HSL.out _ B.out) ?_
        rintro e wb ⟨rfl, hb⟩
        replace HA2 := hid (HKP.out _ _ _ _ _ HA2.out hb)
        replace HS2 := hid (Nat.le_trans HS2.out hb.size)
        replace B := hid (B.out.trans (hb.mono B.out.size))
        clear hb
        obtain ⟨kk, hk100, hks⟩ := HSTA.out _ _ _ _ HA2.out
        have HKS := hid hks
        have k1 : ¬ (100 : Int) < (kk : Int) := by omega
        have k2 : decide ((100 : Int) < (kk : Int)) = false := by simp only [k1, decide_false]
        clear hks hk100
        go_wp2_with fail
        refine wp_region_quiet_below (by kernel_rfl) (by kernel_rfl) ?_
        repeat (go_big_quiet_step (first
          | (go_at_call 19; exact Calls.regrown_of (HKS.out _ (below_regrown _ _ _)))))
        refine wpQuiet_nil ?_
        intro _ hw'
        obtain ⟨⟨dq, osq⟩, hw''⟩ := hw'
        have hbz := below_regrown wb dq osq
        subst hw''
        generalize Go.Sort.grow (redrawn wb dq) osq = wz at *
        replace HA2 := hid (HKP.out _ _ _ _ _ HA2.out hbz)
        replace HS2 := hid (Nat.le_trans HS2.out hbz.size)
        replace B := hid (B.out.trans (hbz.mono B.out.size))
        clear hbz HKS
        go_wp2
        go_roundg (ts.length - (j + 1))
        case measure => omega
        case rel => exact ⟨j + 1, by go_num, by omega, rfl, HA2, B, HS2⟩
theorem autoSame_any {X : World → Prop} {Au : Nat → World → Value → List St → Prop} (hXb : Lasts X) (C : AutoC X Au) (L : SimL X) (ss : List St) (v : Value) (ts : List ByteArray) (tv : Value) (zs : List Int) (zv : Value) (w : World) (hX : X w) (hS : SsIn w v ss) (wS : ∀ n ∈ ss, n.wf) (hTs : TsIn w tv ts) (wT : ∀ t ∈ ts, t.size ≤ maxLen) (hZs : ZsIn w zv zs) (wZ : ∀ z ∈ zs, (Lit.int .i64 z).wf = true) (hE : w.cell? ⟨1, 0, none⟩ = some (rty 25)) (h0 : 1 < w.heap.size) :
    Calls Tryd.prog 6 #[v, tv, zv] w fun e w' => e = .returned (.bool true) ∧ Below w.heap.size w w' := by
  by_cases hf : stepsF ss = 0
  · exact autoSame_ok hXb C L ss v ts tv zs zv w hX hS wS hTs wT hZs wZ hE h0 hf
  · exact autoSame_bad hXb C L ss v ts tv zs zv w hX hS wS hTs wT hZs wZ hE h0 hf
end Go.Proofs.YtjhlfiljdohcoaaDoor
namespace Go.Proofs.YtjhlfiljdohcoaaDoor
set_option linter.unusedSimpArgs false
set_option linter.unusedVariables false
set_option maxRecDepth 100000
open Go.RowKit

/-- As many steps as one likes at one place. -/
inductive Sta (ss : List St) (s : List UInt8) (a : Nat) : Nat → Nat → Prop
  | nil (k : Nat) : Sta ss s a k k
  | cons (k k1 k2 : Nat) : Stp ss s k a k1 a → Sta ss s a k1 k2 → Sta ss s a k k2
theorem Sta.snoc {ss : List St} {s : List UInt8} {a k k1 k2 : Nat} (h : Sta ss s a k k1) (h2 : Stp ss s k1 a k2 a) : Sta ss s a k k2 := by
  induction h with
  | nil k => exact .cons _ _ _ h2 (.nil _)
  | cons k k1 k2 h _ ih => exact .cons _ _ _ h (ih h2)
theorem Sta.trans {ss : List St} {s : List UInt8} {a k k1 k2 : Nat} (h : Sta ss s a k k1) (h2 : Sta ss s a k1 k2) : Sta ss s a k k2 := by
  induction h with
  | nil k => exact h2
  | cons k k1 k2 h _ ih => exact .cons _ _ _ h (ih h2)
/-- What is seen, S, has become S' by going on from the steps K. -/
structure Vst (ss : List St) (s : List UInt8) (a : Nat) (S S' K : List Nat) : Prop where
  pre : ∃ m, S' = S ++ m
  has : ∀ k ∈ K, k ∈ S'
  sound : ∀ x ∈ S', x ∈ S ∨ ∃ k ∈ K, Sta ss s a k x
  shut : ∀ x ∈ S', x ∈ S ∨ ∀ y, Stp ss s x a y a → y ∈ S'
theorem Vst.sub {ss : List St} {s : List UInt8} {a : Nat} {S S' K : List Nat} (h : Vst ss s a S S' K) : ∀ x ∈ S, x ∈ S' := fun x hx => by
  obtain ⟨m, rfl⟩ := h.pre
  simp [hx]
theorem Vst.refl (ss : List St) (s : List UInt8) (a : Nat) (S K : List Nat) (h : ∀ k ∈ K, k ∈ S) : Vst ss s a S S K := ⟨⟨[], by simp⟩, h, fun x hx => Or.inl hx, fun x hx => Or.inl hx⟩
theorem Vst.comp {ss : List St} {s : List UInt8} {a : Nat} {S S1 S2 K L : List Nat} (h : Vst ss s a S S1 K) (g : Vst ss s a S1 S2 L) : Vst ss s a S S2 (K ++ L) where
  pre := by
    obtain ⟨m, rfl⟩ := h.pre
    obtain ⟨m', rfl⟩ := g.pre
    exact ⟨m ++ m', by simp⟩
  has := fun k hk => by
    rcases List.mem_append.1 hk with hk | hk
    · exact g.sub k (h.has k hk)
    · exact g.has k hk
  sound := fun x hx => by
    rcases g.sound x hx with h1 | ⟨k, hk, h1⟩
    · rcases h.sound x h1 with h2 | ⟨k, hk, h2⟩
      · exact Or.inl h2
      · exact Or.inr ⟨k, by simp [hk], h2⟩
    · exact Or.inr ⟨k, by simp [hk], h1⟩
  shut := fun x hx => by
    rcases g.shut x hx with h1 | h1
    · rcases h.shut x h1 with h2 | h2
      · exact Or.inl h2
      · exact Or.inr fun y hy => g.sub y (h2 y hy)
    · exact Or.inr h1
/-- One that was not seen is entered; behind it are K. -/
theorem Vst.enter {ss : List St} {s : List UInt8} {a k : Nat} {S S' K : List Nat} (h : Vst ss s a (S ++ [k]) S' K) (hK : ∀ y, Stp ss s k a y a ↔ y ∈ K) : Vst ss s a S S' [k] where
  pre := by
    obtain ⟨m, rfl⟩ := h.pre
    exact ⟨k :: m, by simp⟩
  has := fun x hx => by
    rw [List.mem_singleton.1 hx]
    exact h.sub k (by simp)
  sound := fun x hx => by
    rcases h.sound x hx with h1 | ⟨y, hy, h1⟩
    · rcases List.mem_append.1 h1 with h2 | h2
      · exact Or.inl h2
      · rw [List.mem_singleton.1 h2]
        exact Or.inr ⟨k, by simp, .nil _⟩
    · exact Or.inr ⟨k, by simp, .cons _ _ _ ((hK y).2 hy) h1⟩
  shut := fun x hx => by
    rcases h.shut x hx with h1 | h1
    · rcases List.mem_append.1 h1 with h2 | h2
      · exact Or.inl h2
      · rw [List.mem_singleton.1 h2]
        exact Or.inr fun y hy => h.has y ((hK y).1 hy)
    · exact Or.inr h1
/-- F is what is come to from b, at a place. -/
def Clo (ss : List St) (s : List UInt8) (a : Nat) (b F : List Nat) : Prop := ∀ k, k ∈ F ↔ ∃ k0 ∈ b, Sta ss s a k0 k
theorem Vst.clo {ss : List St} {s : List UInt8} {a : Nat} {b F : List Nat} (h : Vst ss s a [] F b) : Clo ss s a b F := by
  intro k
  constructor
  · intro hk
    rcases h.sound k hk with h1 | h1
    · cases h1
    · exact h1
  · rintro ⟨k0, hk0, h1⟩
    have h2 := h.has k0 hk0
    clear hk0
    induction h1 with
    | nil k => exact h2
    | cons k k1 k2 hs _ ih =>
      refine ih ?_
      rcases h.shut k h2 with h3 | h3
      · cases h3
      · exact h3 k1 hs
/-- What is come to from step 0 at place i. -/
inductive Rc (ss : List St) (s : List UInt8) (i : Nat) : Nat → Nat → Prop
  | base : Rc ss s i 0 i
  | step (k a k' a' : Nat) : Rc ss s i k a → Stp ss s k a k' a' → Rc ss s i k' a'
theorem Rc.sta {ss : List St} {s : List UInt8} {i k a k' : Nat} (h : Rc ss s i k a) (h2 : Sta ss s a k k') : Rc ss s i k' a := by
  induction h2 with
  | nil k => exact h
  | cons k k1 k2 hs _ ih => exact ih (.step _ _ _ _ h hs)
theorem Rc.le {ss : List St} {s : List UInt8} {i k a : Nat} (hi : i ≤ s.length) (h : Rc ss s i k a) : i ≤ a ∧ a ≤ s.length := by
  induction h with
  | base => exact ⟨Nat.le_refl _, hi⟩
  | step k a k' a' _ hs ih =>
    refine ⟨?_, stp_le ih.2 hs⟩
    obtain ⟨n, _, ⟨_, _, h, _⟩ | ⟨_, _, h⟩ | ⟨_, _, h, _⟩ | ⟨_, _, h, _⟩⟩ := hs <;> omega
theorem stp_place {ss : List St} {s : List UInt8} {k a k' a' : Nat} (hs : Stp ss s k a k' a') : a' = a ∨ a' = a + 1 := by
  obtain ⟨n, _, ⟨_, _, h, _⟩ | ⟨_, _, h⟩ | ⟨_, _, h, _⟩ | ⟨_, _, h, _⟩⟩ := hs <;> omega
/-- The last byte that was taken. -/
theorem Rc.last {ss : List St} {s : List UInt8} {i k a : Nat} (h : Rc ss s i k a) : (a = i ∧ Sta ss s a 0 k) ∨ ∃ a0 k0 k1, a = a0 + 1 ∧ Rc ss s i k0 a0 ∧ Stp ss s k0 a0 k1 (a0 + 1) ∧ Sta ss s a k1 k := by
  induction h with
  | base => exact Or.inl ⟨rfl, .nil _⟩
  | step k a k' a' hr hs ih =>
    rcases stp_place hs with rfl | rfl
    · rcases ih with ⟨h1, h2⟩ | ⟨a0, k0, k1, h1, h2, h3, h4⟩
      · exact Or.inl ⟨h1, h2.snoc hs⟩
      · exact Or.inr ⟨a0, k0, k1, h1, h2, h3, h4.snoc hs⟩
    · exact Or.inr ⟨a, k, k', rfl, hr, hs, .nil _⟩
/-- b is where the program begins at place a. -/
def Bgn (ss : List St) (s : List UInt8) (i a : Nat) (b : List Nat) : Prop := ∀ k, Rc ss s i k a ↔ ∃ k0 ∈ b, Sta ss s a k0 k
/-- b' is where it goes on behind the byte at a place. -/
def Tkn (ss : List St) (s : List UInt8) (a : Nat) (F b' : List Nat) : Prop := ∀ k', k' ∈ b' ↔ ∃ k ∈ F, Stp ss s k a k' (a + 1)
theorem bgn_init (ss : List St) (s : List UInt8) (i : Nat) (hi : i ≤ s.length) : Bgn ss s i i [0] := by
  intro k
  constructor
  · intro h
    rcases h.last with ⟨_, h1⟩ | ⟨a0, k0, k1, h1, h2, _, _⟩
    · exact ⟨0, by simp, h1⟩
    · have := (h2.le hi).1
      omega
  · rintro ⟨k0, hk, h⟩
    rw [List.mem_singleton.1 hk] at h
    exact Rc.base.sta h
theorem Bgn.clo {ss : List St} {s : List UInt8} {i a : Nat} {b F : List Nat} (h : Bgn ss s i a b) (hF : Clo ss s a b F) (k : Nat) : k ∈ F ↔ Rc ss s i k a := (hF k).trans (h k).symm
theorem Bgn.next {ss : List St} {s : List UInt8} {i a : Nat} {b F b' : List Nat} (hia : i ≤ a) (h : Bgn ss s i a b) (hF : Clo ss s a b F) (hT : Tkn ss s a F b') : Bgn ss s i (a + 1) b' := by
  intro k
  constructor
  · intro hr
    rcases hr.last with ⟨h1, _⟩ | ⟨a0, k0, k1, h1, h2, h3, h4⟩
    · omega
    · obtain rfl : a0 = a := by omega
      exact ⟨k1, (hT k1).2 ⟨k0, (h.clo hF k0).2 h2, h3⟩, h4⟩
  · rintro ⟨k1, hk1, h4⟩
    obtain ⟨k0, hk0, h3⟩ := (hT k1).1 hk1
    exact (Rc.step _ _ _ _ ((h.clo hF k0).1 hk0) h3).sta h4
/-- A place at which it is done. -/
def Dne (ss : List St) (k : Nat) : Prop := ∃ n, ss[k]? = some n ∧ n.op = 5
theorem rc_rch {ss : List St} {s : List UInt8} {i k a : Nat} (hi : i ≤ s.length) (h : Rc ss s i k a) : Rch ss s i (k * (s.length + 1) + a) := by
  induction h with
  | base => simpa using Rch.base
  | step k a k' a' hr hs ih =>
    have ha := (hr.le hi).2
    exact .step _ _ ih ((nx_stp ss s ha).2 ⟨k', a', hs, stp_le ha hs, rfl⟩)
theorem pth_rc {ss : List St} {s : List UInt8} {i m k a k' a' : Nat} (h : Pth ss s m k a k' a') : Rc ss s i k a → Rc ss s i k' a' := by
  induction h with
  | nil k a => exact id
  | cons m k a k1 a1 k' a' hs _ ih => exact fun hr => ih (.step _ _ _ _ hr hs)
theorem run_mem {ss : List St} {s : List UInt8} {i : Nat} (hi : i ≤ s.length) {l : List Nat} (hl : RunR ss s i l) (j : Nat) : j ∈ l ↔ ∃ k, Rc ss s i k j ∧ Dne ss k := by
  rw [hl.2 j]
  constructor
  · rintro ⟨q, hq, hd, rfl⟩
    obtain ⟨n, k, a, ha, rfl, hp⟩ := rch_pth ss s hi hq
    have hsd := spot_div (N := s.length + 1) (k := k) (a := a) (by omega)
    rw [hsd.2]
    refine ⟨k, pth_rc hp .base, ?_⟩
    unfold dn at hd
    rw [hsd.1] at hd
    cases hn : ss[k]? with
    | none => rw [hn] at hd; cases hd
    | some n => rw [hn] at hd; exact ⟨n, hn, of_decide_eq_true hd⟩
  · rintro ⟨k, hr, n, hn, h5⟩
    have ha := (hr.le hi).2
    have hsd := spot_div (N := s.length + 1) (k := k) (a := j) (by omega)
    refine ⟨_, rc_rch hi hr, ?_, hsd.2⟩
    unfold dn
    rw [hsd.1, hn]
    exact decide_eq_true h5
/-- The ends ahead of a place. -/
def ahead (l : List Nat) (a : Nat) : List Nat := l.filter fun j => decide (j < a)
theorem ahead_yes {l : List Nat} (hl : l.Pairwise (· < ·)) (a : Nat) (ha : a ∈ l) : ahead l (a + 1) = ahead l a ++ [a] := by
  induction l with
  | nil => cases ha
  | cons x r ih =>
    rw [List.pairwise_cons] at hl
    rcases List.mem_cons.1 ha with rfl | ha
    · have h1 : ahead r (a + 1) = [] := List.filter_eq_nil_iff.2 fun j hj => by
        have := hl.1 j hj
        simp
        omega
      have h2 : ahead r a = [] := List.filter_eq_nil_iff.2 fun j hj => by
        have := hl.1 j hj
        simp
        omega
      unfold ahead at h1 h2 ⊢
      simp [h1, h2]
    · have hx := hl.1 a ha
      have := ih hl.2 ha
      unfold ahead at this ⊢
      simp [this, show x < a + 1 by omega, hx]
theorem ahead_no {l : List Nat} (a : Nat) (ha : ¬ a ∈ l) : ahead l (a + 1) = ahead l a := by
  unfold ahead
  refine List.filter_congr fun j hj => ?_
  have : j ≠ a := fun e => ha (e ▸ hj)
  rw [decide_eq_decide]
  omega
theorem ahead_all {l : List Nat} (a : Nat) (h : ∀ j ∈ l, j < a) : ahead l a = l := List.filter_eq_self.2 fun j hj => decide_eq_true (h j hj)
theorem ahead_none {l : List Nat} (a : Nat) (h : ∀ j ∈ l, a ≤ j) : ahead l a = [] := List.filter_eq_nil_iff.2 fun j hj => by
  have := h j hj
  simp
  omega
/-- Where nothing is begun nothing is come to, there and behind. -/
theorem Bgn.none {ss : List St} {s : List UInt8} {i a : Nat} (h : Bgn ss s i a []) (hia : i ≤ a) : ∀ k a', Rc ss s i k a' → a' < a := by
  have key : ∀ d k, ¬ Rc ss s i k (a + d) := by
    intro d
    induction d with
    | zero =>
      intro k hr
      obtain ⟨k0, hk0, _⟩ := (h k).1 hr
      cases hk0
    | succ d ih =>
      intro k hr
      rcases hr.last with ⟨h1, _⟩ | ⟨a0, k0, k1, h1, h2, _, _⟩
      · omega
      · obtain rfl : a0 = a + d := by omega
        exact ih k0 h2
  intro k a' hr
  rcases Nat.lt_or_ge a' a with h1 | h1
  · exact h1
  · obtain ⟨d, rfl⟩ : ∃ d, a' = a + d := ⟨a' - a, by omega⟩
    exact absurd hr (key d k)
/-- Numbers below N, each once, are N at most. -/
theorem nodup_le (N : Nat) : ∀ (l : List Nat), l.Nodup → (∀ x ∈ l, x < N) → l.length ≤ N := by
  induction N with
  | zero =>
    intro l _ h
    cases l with
    | nil => simp
    | cons x r => exact absurd (h x (by simp)) (by omega)
  | succ N ih =>
    intro l hn h
    have h1 := ih (l.erase N) (hn.erase N) fun x hx => by
      have h2 := h x (List.mem_of_mem_erase hx)
      have h3 : x ≠ N := fun e => by
        subst e
        exact hn.not_mem_erase hx
      omega
    by_cases hN : N ∈ l
    · rw [List.length_erase_of_mem hN] at h1
      omega
    · rw [List.erase_of_not_mem hN] at h1
      omega
end Go.Proofs.YtjhlfiljdohcoaaDoor
