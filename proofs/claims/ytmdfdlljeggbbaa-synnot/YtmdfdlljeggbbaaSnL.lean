/- The law SynNot: from what package syn answers. -/
import Derived.Test.YtmdfdlljeggbbaaSyC
import Derived.Test.YtmdfdlljeggbbaaPrn
import Derived.Test.YtmdfdlljeggbbaaNdS
import Derived.Test.YtmdfdlljeggbbaaWk2
import Derived.Test.YtmdfdlljeggbbaaRc4
import Derived.SizedLaws
set_option linter.unusedSimpArgs false
set_option linter.unusedVariables false
set_option maxRecDepth 100000
namespace Go.Proofs.Ytmdfdlljeggbbaa
open Go.RowKit
theorem add_str (a b : ByteArray) (h : a.size + b.size ≤ 9223372036854775807) (T : ByteArray) (hT : T = a ++ b) : ∀ w : World, (Op.stringOp .add a b).run Try.prog w = .ok (.string T) w := fun w => by rw [hT]; exact run_string_add_sum w a b h
theorem hat_a : bracket [94, 97, 93] = .ok ((C4.ofL [97]).not, []) := by rfl
theorem whole_a : Whole [91, 94, 97, 93] (.ok (.leaf ⟨1, (C4.ofL [97]).not⟩)) := class_whole [94, 97, 93] _ hat_a
/-- What the first part asks of items. -/
def ItOk (items : ByteArray) (ms1 : List Nd) (e1 : Int) (ms2 : List Nd) (e2 : Int) : Prop :=
  ∀ n, e1 = 0 → ms1 = [n] → n.op = 1 → items.size + 3 ≤ 200 → e2 = 0 ∧ ∃ m, ms2 = [m] ∧ m.c = n.c.not
theorem it_ok (items : ByteArray) (c : UInt8) (r : List UInt8) (hc : items.data.toList = c :: r) (h94 : c ≠ 94) (T1 T2 : ByteArray) (h1 : T1.data.toList = 91 :: (items.data.toList ++ [93])) (h2 : T2.data.toList = 91 :: 94 :: (items.data.toList ++ [93]))
    (ms1 ms2 : List Nd) (k1 k2 e1 e2 : Int) (p1 : PsR T1 ms1 k1 e1) (p2 : PsR T2 ms2 k2 e2) : ItOk items ms1 e1 ms2 e2 := by
  intro n he hms hop hsz
  have l2 : T2.size = items.size + 3 := by
    have a1 := str_len T2
    have a2 := str_len items
    rw [h2] at a1
    simp at a1 a2
    omega
  have hw : Whole T1.data.toList (.ok (.leaf n)) ∨ ∃ t, Whole T1.data.toList (.ok t) ∧ t.flat = [n] := by
    cases p1 with
    | full h => cases he
    | bad k h hW => cases he
    | many t h hW h6 => cases he
    | ok t h hW h6 => exact Or.inr ⟨t, hW, hms⟩
  obtain ⟨t, hW, hf⟩ : ∃ t, Whole T1.data.toList (.ok t) ∧ t.flat = [n] := by
    rcases hw with hW | hW
    · exact ⟨_, hW, rfl⟩
    · exact hW
  rw [h1] at hW
  have hb := whole_class items.data.toList t n hW hf hop
  have hb2 := bracket_hat items.data.toList (by rw [hc]; simp) (by rw [hc]; simpa using h94) n.c hb
  have hW2 := class_whole _ _ hb2
  rw [← h2] at hW2
  cases p2 with
  | full h => omega
  | bad k h hW' => cases whole_det _ _ _ hW2 hW'
  | many t' h hW' h6 =>
    have := whole_det _ _ _ hW2 hW'
    injection this with this
    rw [← this] at h6
    simp [Rx.flat] at h6
  | ok t' h hW' h6 =>
    have := whole_det _ _ _ hW2 hW'
    injection this with this
    refine ⟨rfl, ⟨1, n.c.not⟩, ?_, rfl⟩
    rw [← this]
    rfl
theorem br_ok (s T3 : ByteArray) (h3 : T3.data.toList = 40 :: (s.data.toList ++ [41])) (ms : List Nd) (k : Int) (p : PsR s ms k 0) (hsz : s.size + 2 ≤ 200) : PsR T3 ms 0 0 := by
  have l3 : T3.size = s.size + 2 := by
    have a1 := str_len T3
    have a2 := str_len s
    rw [h3] at a1
    simp at a1 a2
    omega
  cases p with
  | ok t h hW h6 =>
    refine PsR.ok t (by omega) ?_ h6
    rw [h3]
    exact whole_br _ t hW
theorem psR_err {s : ByteArray} {ms : List Nd} {k e : Int} (h : PsR s ms k e) : e = 0 ∨ (e ≠ 0 ∧ errV e = .iface 52 (.int .i64 e)) := by
  cases h with
  | full h => exact Or.inr ⟨by decide, rfl⟩
  | bad k h hW => exact Or.inr ⟨by decide, rfl⟩
  | many t h hW h6 => exact Or.inr ⟨by decide, rfl⟩
  | ok t h hW h6 => exact Or.inl rfl
/-- The first part, passed: from the world behind the first look on. -/
theorem nsEq_self (x : List Nd) : nsEq x x = true := (nsEq_iff x x).2 rfl
set_option maxHeartbeats 8000000 in
theorem not_none (ka : C4) (items s : ByteArray) (hi : items.size = 0 ∨ ∃ r, items.data.toList = 94 :: r) (his : items.size ≤ reachBytes) (hs : s.size ≤ reachBytes) (w : World)
    (R : SynR)
    (OF : Hid (∀ w, Calls Try.prog 7 #[.string ⟨#[97]⟩] w fun e w' => e = .returned ka.v ∧ Below w.heap.size w w'))
    (P0 : Hid (∀ w, Calls Try.prog 15 #[.string ⟨#[91, 94, 97, 93]⟩] w fun x w' => ∃ u, x = .returned (.tuple #[u, .int .i64 0, .nilIface]) ∧ Below w.heap.size w w' ∧ NsIn w' u [⟨1, ka.not⟩])) :
    Calls Try.prog 5 #[.string items, .string s] w fun e w' => e = .returned (.bool true) ∧ Below w.heap.size w w' := by
  have HRe := hid reachBytes_lt
  obtain ⟨S1, hS1⟩ : ∃ S1 : ByteArray, S1 = ⟨#[40]⟩ ++ s := ⟨_, rfl⟩
  obtain ⟨T3, hT3⟩ : ∃ T3 : ByteArray, T3 = S1 ++ ⟨#[41]⟩ := ⟨_, rfl⟩
  have sz1 : S1.size = 1 + s.size := by rw [hS1, ByteArray.size_append]; rfl
  have sz3 : T3.size = s.size + 2 := by rw [hT3, ByteArray.size_append, sz1]; show 1 + s.size + 1 = _; omega
  have hs1 := add_str ⟨#[40]⟩ s (by have := HRe.out; show 1 + s.size ≤ _; omega) S1 hS1
  have hs2 := add_str S1 ⟨#[41]⟩ (by have := HRe.out; show S1.size + 1 ≤ _; omega) T3 hT3
  have hT3l : T3.data.toList = 40 :: (s.data.toList ++ [41]) := by rw [hT3, hS1]; simp [ByteArray.data_append]
  have HT3 := hid (And.intro hT3l sz3)
  clear hS1 hT3 hT3l sz1 sz3
  obtain ⟨ms, kk, ee, hps⟩ := psR_total s
  have HSy := hid R
  have HPS := hid hps
  clear hps R
  go_enter Try.func5, Try.ntmps5
  go_wp2_with fail
  refine Calls.mono (P0.out _) ?_
  rintro e w1 ⟨u, rfl, hb, hu⟩
  have B1 : Hid (Below w.heap.size w w1) := hb
  obtain ⟨a, cap, rfl, hm, h | ⟨b, off, rfl, hlt, hn⟩⟩ := hu
  · cases h
  obtain ⟨c0, c1, c2, c3, c4⟩ := hn 0 ⟨1, ka.not⟩ rfl
  clear hb hn hm
  simp only [Nat.zero_mul, Nat.add_zero] at c0 c1 c2 c3 c4
  have r1 := cell_regrown c1
  have r2 := cell_regrown c2
  have r3 := cell_regrown c3
  have r4 := cell_regrown c4
  have he : ∀ w, (Op.equalIn 10000 24 ka.not.v ka.not.v).run Try.prog w = .ok true w := fun w => (eq4 ka.not ka.not w).trans (by rw [eqb_self])
  go_wp2_with fail
  refine wp_region_quiet_below (by kernel_rfl) (by kernel_rfl) ?_
  repeat (go_big_quiet_step (first
    | (go_at_call 7; exact Calls.regrown_of (OF.out _))
    | (go_at_call 10; exact Calls.regrown_of (not_any _ _))))
  refine wpQuiet_nil ?_
  intro _ hw'
  obtain ⟨⟨dq, osq⟩, hw''⟩ := hw'
  have hb := below_regrown w1 dq osq
  have B2 : Hid (Below w.heap.size w (Go.Sort.grow (redrawn w1 dq) osq)) := B1.out.trans (hb.mono B1.out.size)
  subst hw''
  clear hb r1 r2 r3 r4 c0 c1 c2 c3 c4 B1 P0 OF he
  generalize Go.Sort.grow (redrawn w1 dq) osq = w2 at *
  rcases hi with hi | ⟨r, hcr⟩
  · have hz : decide (0 < items.size) = false := decide_eq_false (by omega)
    have hz2 : ¬ (0 : Int) < (items.size : Int) := by omega
    clear hi
    go_wp2_with fail
    refine Calls.mono (HSy.out.parse s _ ms kk ee (by have := HRe.out; unfold maxLen; omega) HPS.out) ?_
    rintro e w5 ⟨u5, rfl, hb5, hu5⟩
    have B5 := hid (B2.out.trans (hb5.mono B2.out.size))
    have HU5 := hid hu5
    clear hb5 hu5
    rcases psR_err HPS.out with he0 | ⟨he1, hev⟩
    · subst he0
      have hev : errV 0 = .nilIface := rfl
      rw [hev]
      by_cases hsz : s.size + 2 ≤ 200
      · have z2 : ¬ (200 : Int) < (s.size : Int) + 2 := by omega
        have z3 : IntKind.i64.wrap ((s.size : Int) + 2) = (s.size : Int) + 2 := by rw [IntKind.wrap_i64]; omega
        have HP3 := hid (br_ok s T3 HT3.out.1 ms kk HPS.out hsz)
        clear hsz
        go_wp2_with fail
        refine Calls.mono (HSy.out.parse T3 _ ms 0 0 (by have := HRe.out; have := HT3.out.2; unfold maxLen; omega) HP3.out) ?_
        rintro e w6 ⟨u6, rfl, hb6, hu6⟩
        rw [hev]
        have B6 := hid (B5.out.trans (hb6.mono B5.out.size))
        have HU6 := hid hu6
        replace HU5 := hid (HU5.out.below hb6)
        clear hb6 hu6
        go_wp2_with fail
        refine Calls.mono (nodes_any ms ms u5 u6 _ HU5.out HU6.out) ?_
        rintro e w7 ⟨rfl, hb7⟩
        rw [nsEq_self]
        go_wp2
        go_ret
        exact ⟨rfl, B6.out.trans (hb7.mono B6.out.size)⟩
      · have z2 : (200 : Int) < (s.size : Int) + 2 := by omega
        have z3 : IntKind.i64.wrap ((s.size : Int) + 2) = (s.size : Int) + 2 := by rw [IntKind.wrap_i64]; have := HRe.out; omega
        go_wp2
        go_ret
        exact ⟨rfl, B5.out⟩
    · rw [hev]
      clear hev
      go_wp2
      go_ret
      exact ⟨rfl, B5.out⟩
  · have hz0 : 0 < items.size := by
      have := str_len items
      rw [hcr] at this
      simp at this
      omega
    have hz : decide (0 < items.size) = true := decide_eq_true hz0
    have hz2 : (0 : Int) < (items.size : Int) := by omega
    have hidx := str_idx items 0 94 (by rw [hcr]; rfl)
    simp only [Int.ofNat_zero, Int.natCast_zero] at hidx
    clear hcr
    go_wp2_with fail
    refine Calls.mono (HSy.out.parse s _ ms kk ee (by have := HRe.out; unfold maxLen; omega) HPS.out) ?_
    rintro e w5 ⟨u5, rfl, hb5, hu5⟩
    have B5 := hid (B2.out.trans (hb5.mono B2.out.size))
    have HU5 := hid hu5
    clear hb5 hu5
    rcases psR_err HPS.out with he0 | ⟨he1, hev⟩
    · subst he0
      have hev : errV 0 = .nilIface := rfl
      rw [hev]
      by_cases hsz : s.size + 2 ≤ 200
      · have z2 : ¬ (200 : Int) < (s.size : Int) + 2 := by omega
        have z3 : IntKind.i64.wrap ((s.size : Int) + 2) = (s.size : Int) + 2 := by rw [IntKind.wrap_i64]; omega
        have HP3 := hid (br_ok s T3 HT3.out.1 ms kk HPS.out hsz)
        clear hsz
        go_wp2_with fail
        refine Calls.mono (HSy.out.parse T3 _ ms 0 0 (by have := HRe.out; have := HT3.out.2; unfold maxLen; omega) HP3.out) ?_
        rintro e w6 ⟨u6, rfl, hb6, hu6⟩
        rw [hev]
        have B6 := hid (B5.out.trans (hb6.mono B5.out.size))
        have HU6 := hid hu6
        replace HU5 := hid (HU5.out.below hb6)
        clear hb6 hu6
        go_wp2_with fail
        refine Calls.mono (nodes_any ms ms u5 u6 _ HU5.out HU6.out) ?_
        rintro e w7 ⟨rfl, hb7⟩
        rw [nsEq_self]
        go_wp2
        go_ret
        exact ⟨rfl, B6.out.trans (hb7.mono B6.out.size)⟩
      · have z2 : (200 : Int) < (s.size : Int) + 2 := by omega
        have z3 : IntKind.i64.wrap ((s.size : Int) + 2) = (s.size : Int) + 2 := by rw [IntKind.wrap_i64]; have := HRe.out; omega
        go_wp2
        go_ret
        exact ⟨rfl, B5.out⟩
    · rw [hev]
      clear hev
      go_wp2
      go_ret
      exact ⟨rfl, B5.out⟩
set_option maxHeartbeats 8000000 in
theorem not_some (ka : C4) (items s : ByteArray) (c : UInt8) (r : List UInt8) (hcr : items.data.toList = c :: r) (h94 : c ≠ 94) (his : items.size ≤ reachBytes) (hs : s.size ≤ reachBytes) (w : World)
    (R : SynR)
    (OF : Hid (∀ w, Calls Try.prog 7 #[.string ⟨#[97]⟩] w fun e w' => e = .returned ka.v ∧ Below w.heap.size w w'))
    (P0 : Hid (∀ w, Calls Try.prog 15 #[.string ⟨#[91, 94, 97, 93]⟩] w fun x w' => ∃ u, x = .returned (.tuple #[u, .int .i64 0, .nilIface]) ∧ Below w.heap.size w w' ∧ NsIn w' u [⟨1, ka.not⟩])) :
    Calls Try.prog 5 #[.string items, .string s] w fun e w' => e = .returned (.bool true) ∧ Below w.heap.size w w' := by
  have HRe := hid reachBytes_lt
  obtain ⟨S1, hS1⟩ : ∃ S1 : ByteArray, S1 = ⟨#[40]⟩ ++ s := ⟨_, rfl⟩
  obtain ⟨T3, hT3⟩ : ∃ T3 : ByteArray, T3 = S1 ++ ⟨#[41]⟩ := ⟨_, rfl⟩
  have sz1 : S1.size = 1 + s.size := by rw [hS1, ByteArray.size_append]; rfl
  have sz3 : T3.size = s.size + 2 := by rw [hT3, ByteArray.size_append, sz1]; show 1 + s.size + 1 = _; omega
  have hs1 := add_str ⟨#[40]⟩ s (by have := HRe.out; show 1 + s.size ≤ _; omega) S1 hS1
  have hs2 := add_str S1 ⟨#[41]⟩ (by have := HRe.out; show S1.size + 1 ≤ _; omega) T3 hT3
  have hT3l : T3.data.toList = 40 :: (s.data.toList ++ [41]) := by rw [hT3, hS1]; simp [ByteArray.data_append]
  have HT3 := hid (And.intro hT3l sz3)
  clear hS1 hT3 hT3l sz1 sz3
  have it1 : items.size = r.length + 1 := by
    have := str_len items
    rw [hcr] at this
    simp at this
    omega
  obtain ⟨A1, hA1⟩ : ∃ A1 : ByteArray, A1 = ⟨#[91]⟩ ++ items := ⟨_, rfl⟩
  obtain ⟨T1, hT1⟩ : ∃ T1 : ByteArray, T1 = A1 ++ ⟨#[93]⟩ := ⟨_, rfl⟩
  obtain ⟨A2, hA2⟩ : ∃ A2 : ByteArray, A2 = ⟨#[91, 94]⟩ ++ items := ⟨_, rfl⟩
  obtain ⟨T2, hT2⟩ : ∃ T2 : ByteArray, T2 = A2 ++ ⟨#[93]⟩ := ⟨_, rfl⟩
  have sa1 : A1.size = 1 + items.size := by rw [hA1, ByteArray.size_append]; rfl
  have st1 : T1.size = items.size + 2 := by rw [hT1, ByteArray.size_append, sa1]; show 1 + items.size + 1 = _; omega
  have sa2 : A2.size = 2 + items.size := by rw [hA2, ByteArray.size_append]; rfl
  have st2 : T2.size = items.size + 3 := by rw [hT2, ByteArray.size_append, sa2]; show 2 + items.size + 1 = _; omega
  have ha1 := add_str ⟨#[91]⟩ items (by have := HRe.out; show 1 + items.size ≤ _; omega) A1 hA1
  have ht1 := add_str A1 ⟨#[93]⟩ (by have := HRe.out; show A1.size + 1 ≤ _; omega) T1 hT1
  have ha2 := add_str ⟨#[91, 94]⟩ items (by have := HRe.out; show 2 + items.size ≤ _; omega) A2 hA2
  have ht2 := add_str A2 ⟨#[93]⟩ (by have := HRe.out; show A2.size + 1 ≤ _; omega) T2 hT2
  have hT1l : T1.data.toList = 91 :: (items.data.toList ++ [93]) := by rw [hT1, hA1]; simp [ByteArray.data_append]
  have hT2l : T2.data.toList = 91 :: 94 :: (items.data.toList ++ [93]) := by rw [hT2, hA2]; simp [ByteArray.data_append]
  obtain ⟨ms1, k1, e1, p1⟩ := psR_total T1
  obtain ⟨ms2, k2, e2, p2⟩ := psR_total T2
  have HIO := hid (it_ok items c r hcr h94 T1 T2 hT1l hT2l ms1 ms2 k1 k2 e1 e2 p1 p2)
  have HPP := hid (And.intro p1 p2)
  have HSZ := hid (And.intro st1 st2)
  have hidx := str_idx items 0 c (by rw [hcr]; rfl)
  simp only [Int.ofNat_zero, Int.natCast_zero] at hidx
  have hne : ((c.toNat : Int) != 94) = true := by
    simp
    intro e
    exact h94 (UInt8.toNat_inj.1 (by simp; omega))
  have hz : decide (0 < items.size) = true := decide_eq_true (by omega)
  have hz2 : (0 : Int) < (items.size : Int) := by omega
  clear hA1 hT1 hA2 hT2 sa1 st1 sa2 st2 hT1l hT2l p1 p2 hcr h94 it1
  obtain ⟨ms, kk, ee, hps⟩ := psR_total s
  have HSy := hid R
  have HPS := hid hps
  clear hps R
  go_enter Try.func5, Try.ntmps5
  go_wp2_with fail
  refine Calls.mono (P0.out _) ?_
  rintro e w1 ⟨u, rfl, hb, hu⟩
  have B1 : Hid (Below w.heap.size w w1) := hb
  obtain ⟨a, cap, rfl, hm, h | ⟨b, off, rfl, hlt, hn⟩⟩ := hu
  · cases h
  obtain ⟨c0, c1, c2, c3, c4⟩ := hn 0 ⟨1, ka.not⟩ rfl
  clear hb hn hm
  simp only [Nat.zero_mul, Nat.add_zero] at c0 c1 c2 c3 c4
  have r1 := cell_regrown c1
  have r2 := cell_regrown c2
  have r3 := cell_regrown c3
  have r4 := cell_regrown c4
  have he : ∀ w, (Op.equalIn 10000 24 ka.not.v ka.not.v).run Try.prog w = .ok true w := fun w => (eq4 ka.not ka.not w).trans (by rw [eqb_self])
  go_wp2_with fail
  refine wp_region_quiet_below (by kernel_rfl) (by kernel_rfl) ?_
  repeat (go_big_quiet_step (first
    | (go_at_call 7; exact Calls.regrown_of (OF.out _))
    | (go_at_call 10; exact Calls.regrown_of (not_any _ _))))
  refine wpQuiet_nil ?_
  intro _ hw'
  obtain ⟨⟨dq, osq⟩, hw''⟩ := hw'
  have hb := below_regrown w1 dq osq
  have B2 : Hid (Below w.heap.size w (Go.Sort.grow (redrawn w1 dq) osq)) := B1.out.trans (hb.mono B1.out.size)
  subst hw''
  clear hb r1 r2 r3 r4 c0 c1 c2 c3 c4 B1 P0 OF he
  generalize Go.Sort.grow (redrawn w1 dq) osq = w2 at *
  go_wp2_with fail
  refine Calls.mono (HSy.out.parse T1 _ ms1 k1 e1 (by have := HRe.out; have := HSZ.out.1; unfold maxLen; omega) HPP.out.1) ?_
  rintro e w3 ⟨u3, rfl, hb3, hu3⟩
  replace B2 := hid (B2.out.trans (hb3.mono B2.out.size))
  have HU3 := hid hu3
  clear hb3 hu3
  go_wp2_with fail
  refine Calls.mono (HSy.out.parse T2 _ ms2 k2 e2 (by have := HRe.out; have := HSZ.out.2; unfold maxLen; omega) HPP.out.2) ?_
  rintro e w4 ⟨u4, rfl, hb4, hu4⟩
  replace B2 := hid (B2.out.trans (hb4.mono B2.out.size))
  replace HU3 := hid (HU3.out.below hb4)
  have HU4 := hid hu4
  clear hb4 hu4
  rcases psR_err HPP.out.1 with he0 | ⟨he1, hev⟩
  · subst he0
    have hev : errV 0 = .nilIface := rfl
    rw [hev]
    obtain ⟨a3, cc3, rfl, hm3, h3⟩ := HU3.out
    by_cases hl1 : ms1.length = 1
    · obtain ⟨n, hn⟩ : ∃ n, ms1 = [n] := List.length_eq_one_iff.1 hl1
      subst hn
      rcases h3 with h3 | ⟨b3, off3, rfl, hlt3, hn3⟩
      · cases h3
      obtain ⟨c0, c1, c2, c3, c4⟩ := hn3 0 n rfl
      simp only [Nat.zero_mul, Nat.add_zero] at c0 c1 c2 c3 c4
      clear hm3 hn3
      by_cases hop : n.op = 1
      · by_cases hsz3 : items.size + 3 ≤ 200
        · obtain ⟨he2, m, hm2, hmc⟩ := HIO.out n rfl rfl hop hsz3
          subst he2
          subst hm2
          rw [hev]
          obtain ⟨a4, cc4, rfl, hm4, h4⟩ := HU4.out
          rcases h4 with h4 | ⟨b4, off4, rfl, hlt4, hn4⟩
          · cases h4
          obtain ⟨d0, d1, d2, d3, d4⟩ := hn4 0 m rfl
          simp only [Nat.zero_mul, Nat.add_zero] at d0 d1 d2 d3 d4
          rw [hop] at c0
          rw [hmc] at d1 d2 d3 d4
          have y1 : IntKind.i64.wrap ((items.size : Int) + 3) = (items.size : Int) + 3 := by rw [IntKind.wrap_i64]; omega
          have y2 : (items.size : Int) + 3 ≤ 200 := by omega
          have r1 := cell_regrown c1
          have r2 := cell_regrown c2
          have r3 := cell_regrown c3
          have r4 := cell_regrown c4
          have q1 := cell_regrown d1
          have q2 := cell_regrown d2
          have q3 := cell_regrown d3
          have q4 := cell_regrown d4
          have he : ∀ w, (Op.equalIn 10000 24 n.c.not.v n.c.not.v).run Try.prog w = .ok true w := fun w => (eq4 n.c.not n.c.not w).trans (by rw [eqb_self])
          clear hm4 hn4 hmc hop hl1 HIO HPP HU3 HU4
          go_wp2_with fail
          refine wp_region_quiet_below (by kernel_rfl) (by kernel_rfl) ?_
          repeat (go_big_quiet_step (first
            | (go_at_call 10; exact Calls.regrown_of (not_any _ _))))
          refine wpQuiet_nil ?_
          intro _ hw'
          obtain ⟨⟨dq, osq⟩, hw''⟩ := hw'
          have hb := below_regrown w4 dq osq
          replace B2 : Hid (Below w.heap.size w (Go.Sort.grow (redrawn w4 dq) osq)) := B2.out.trans (hb.mono B2.out.size)
          subst hw''
          clear hb r1 r2 r3 r4 c0 c1 c2 c3 c4 q1 q2 q3 q4 d0 d1 d2 d3 d4 he
          generalize Go.Sort.grow (redrawn w4 dq) osq = w8 at *
          go_wp2_with fail
          refine Calls.mono (HSy.out.parse s _ ms kk ee (by have := HRe.out; unfold maxLen; omega) HPS.out) ?_
          rintro e w5 ⟨u5, rfl, hb5, hu5⟩
          have B5 := hid (B2.out.trans (hb5.mono B2.out.size))
          have HU5 := hid hu5
          clear hb5 hu5
          rcases psR_err HPS.out with he0 | ⟨he1, hev⟩
          · subst he0
            have hev : errV 0 = .nilIface := rfl
            rw [hev]
            by_cases hsz : s.size + 2 ≤ 200
            · have z2 : ¬ (200 : Int) < (s.size : Int) + 2 := by omega
              have z3 : IntKind.i64.wrap ((s.size : Int) + 2) = (s.size : Int) + 2 := by rw [IntKind.wrap_i64]; omega
              have HP3 := hid (br_ok s T3 HT3.out.1 ms kk HPS.out hsz)
              clear hsz
              go_wp2_with fail
              refine Calls.mono (HSy.out.parse T3 _ ms 0 0 (by have := HRe.out; have := HT3.out.2; unfold maxLen; omega) HP3.out) ?_
              rintro e w6 ⟨u6, rfl, hb6, hu6⟩
              rw [hev]
              have B6 := hid (B5.out.trans (hb6.mono B5.out.size))
              have HU6 := hid hu6
              replace HU5 := hid (HU5.out.below hb6)
              clear hb6 hu6
              go_wp2_with fail
              refine Calls.mono (nodes_any ms ms u5 u6 _ HU5.out HU6.out) ?_
              rintro e w7 ⟨rfl, hb7⟩
              rw [nsEq_self]
              go_wp2
              go_ret
              exact ⟨rfl, B6.out.trans (hb7.mono B6.out.size)⟩
            · have z2 : (200 : Int) < (s.size : Int) + 2 := by omega
              have z3 : IntKind.i64.wrap ((s.size : Int) + 2) = (s.size : Int) + 2 := by rw [IntKind.wrap_i64]; have := HRe.out; omega
              go_wp2
              go_ret
              exact ⟨rfl, B5.out⟩
          · rw [hev]
            clear hev
            go_wp2
            go_ret
            exact ⟨rfl, B5.out⟩
        · have y1 : IntKind.i64.wrap ((items.size : Int) + 3) = (items.size : Int) + 3 := by rw [IntKind.wrap_i64]; have := HRe.out; omega
          have y2 : ¬ (items.size : Int) + 3 ≤ 200 := by omega
          rw [hop] at c0
          clear hop hl1 HIO HPP HU3 HU4
          go_wp2_with fail
          refine Calls.mono (HSy.out.parse s _ ms kk ee (by have := HRe.out; unfold maxLen; omega) HPS.out) ?_
          rintro e w5 ⟨u5, rfl, hb5, hu5⟩
          have B5 := hid (B2.out.trans (hb5.mono B2.out.size))
          have HU5 := hid hu5
          clear hb5 hu5
          rcases psR_err HPS.out with he0 | ⟨he1, hev⟩
          · subst he0
            have hev : errV 0 = .nilIface := rfl
            rw [hev]
            by_cases hsz : s.size + 2 ≤ 200
            · have z2 : ¬ (200 : Int) < (s.size : Int) + 2 := by omega
              have z3 : IntKind.i64.wrap ((s.size : Int) + 2) = (s.size : Int) + 2 := by rw [IntKind.wrap_i64]; omega
              have HP3 := hid (br_ok s T3 HT3.out.1 ms kk HPS.out hsz)
              clear hsz
              go_wp2_with fail
              refine Calls.mono (HSy.out.parse T3 _ ms 0 0 (by have := HRe.out; have := HT3.out.2; unfold maxLen; omega) HP3.out) ?_
              rintro e w6 ⟨u6, rfl, hb6, hu6⟩
              rw [hev]
              have B6 := hid (B5.out.trans (hb6.mono B5.out.size))
              have HU6 := hid hu6
              replace HU5 := hid (HU5.out.below hb6)
              clear hb6 hu6
              go_wp2_with fail
              refine Calls.mono (nodes_any ms ms u5 u6 _ HU5.out HU6.out) ?_
              rintro e w7 ⟨rfl, hb7⟩
              rw [nsEq_self]
              go_wp2
              go_ret
              exact ⟨rfl, B6.out.trans (hb7.mono B6.out.size)⟩
            · have z2 : (200 : Int) < (s.size : Int) + 2 := by omega
              have z3 : IntKind.i64.wrap ((s.size : Int) + 2) = (s.size : Int) + 2 := by rw [IntKind.wrap_i64]; have := HRe.out; omega
              go_wp2
              go_ret
              exact ⟨rfl, B5.out⟩
          · rw [hev]
            clear hev
            go_wp2
            go_ret
            exact ⟨rfl, B5.out⟩
      · have y0 : (n.op == 1) = false := by simp [hop]
        clear hop hl1 HIO HPP HU3 HU4
        go_wp2_with fail
        refine Calls.mono (HSy.out.parse s _ ms kk ee (by have := HRe.out; unfold maxLen; omega) HPS.out) ?_
        rintro e w5 ⟨u5, rfl, hb5, hu5⟩
        have B5 := hid (B2.out.trans (hb5.mono B2.out.size))
        have HU5 := hid hu5
        clear hb5 hu5
        rcases psR_err HPS.out with he0 | ⟨he1, hev⟩
        · subst he0
          have hev : errV 0 = .nilIface := rfl
          rw [hev]
          by_cases hsz : s.size + 2 ≤ 200
          · have z2 : ¬ (200 : Int) < (s.size : Int) + 2 := by omega
            have z3 : IntKind.i64.wrap ((s.size : Int) + 2) = (s.size : Int) + 2 := by rw [IntKind.wrap_i64]; omega
            have HP3 := hid (br_ok s T3 HT3.out.1 ms kk HPS.out hsz)
            clear hsz
            go_wp2_with fail
            refine Calls.mono (HSy.out.parse T3 _ ms 0 0 (by have := HRe.out; have := HT3.out.2; unfold maxLen; omega) HP3.out) ?_
            rintro e w6 ⟨u6, rfl, hb6, hu6⟩
            rw [hev]
            have B6 := hid (B5.out.trans (hb6.mono B5.out.size))
            have HU6 := hid hu6
            replace HU5 := hid (HU5.out.below hb6)
            clear hb6 hu6
            go_wp2_with fail
            refine Calls.mono (nodes_any ms ms u5 u6 _ HU5.out HU6.out) ?_
            rintro e w7 ⟨rfl, hb7⟩
            rw [nsEq_self]
            go_wp2
            go_ret
            exact ⟨rfl, B6.out.trans (hb7.mono B6.out.size)⟩
          · have z2 : (200 : Int) < (s.size : Int) + 2 := by omega
            have z3 : IntKind.i64.wrap ((s.size : Int) + 2) = (s.size : Int) + 2 := by rw [IntKind.wrap_i64]; have := HRe.out; omega
            go_wp2
            go_ret
            exact ⟨rfl, B5.out⟩
        · rw [hev]
          clear hev
          go_wp2
          go_ret
          exact ⟨rfl, B5.out⟩
    · have y0 : ((ms1.length : Int) == 1) = false := by simp; omega
      have y3 : ¬ (ms1.length : Int) = 1 := by omega
      clear hl1 h3 hm3 HIO HPP HU3 HU4
      go_wp2_with fail
      refine Calls.mono (HSy.out.parse s _ ms kk ee (by have := HRe.out; unfold maxLen; omega) HPS.out) ?_
      rintro e w5 ⟨u5, rfl, hb5, hu5⟩
      have B5 := hid (B2.out.trans (hb5.mono B2.out.size))
      have HU5 := hid hu5
      clear hb5 hu5
      rcases psR_err HPS.out with he0 | ⟨he1, hev⟩
      · subst he0
        have hev : errV 0 = .nilIface := rfl
        rw [hev]
        by_cases hsz : s.size + 2 ≤ 200
        · have z2 : ¬ (200 : Int) < (s.size : Int) + 2 := by omega
          have z3 : IntKind.i64.wrap ((s.size : Int) + 2) = (s.size : Int) + 2 := by rw [IntKind.wrap_i64]; omega
          have HP3 := hid (br_ok s T3 HT3.out.1 ms kk HPS.out hsz)
          clear hsz
          go_wp2_with fail
          refine Calls.mono (HSy.out.parse T3 _ ms 0 0 (by have := HRe.out; have := HT3.out.2; unfold maxLen; omega) HP3.out) ?_
          rintro e w6 ⟨u6, rfl, hb6, hu6⟩
          rw [hev]
          have B6 := hid (B5.out.trans (hb6.mono B5.out.size))
          have HU6 := hid hu6
          replace HU5 := hid (HU5.out.below hb6)
          clear hb6 hu6
          go_wp2_with fail
          refine Calls.mono (nodes_any ms ms u5 u6 _ HU5.out HU6.out) ?_
          rintro e w7 ⟨rfl, hb7⟩
          rw [nsEq_self]
          go_wp2
          go_ret
          exact ⟨rfl, B6.out.trans (hb7.mono B6.out.size)⟩
        · have z2 : (200 : Int) < (s.size : Int) + 2 := by omega
          have z3 : IntKind.i64.wrap ((s.size : Int) + 2) = (s.size : Int) + 2 := by rw [IntKind.wrap_i64]; have := HRe.out; omega
          go_wp2
          go_ret
          exact ⟨rfl, B5.out⟩
      · rw [hev]
        clear hev
        go_wp2
        go_ret
        exact ⟨rfl, B5.out⟩
  · rw [hev]
    clear hev
    go_wp2_with fail
    refine Calls.mono (HSy.out.parse s _ ms kk ee (by have := HRe.out; unfold maxLen; omega) HPS.out) ?_
    rintro e w5 ⟨u5, rfl, hb5, hu5⟩
    have B5 := hid (B2.out.trans (hb5.mono B2.out.size))
    have HU5 := hid hu5
    clear hb5 hu5
    rcases psR_err HPS.out with he0 | ⟨he1, hev⟩
    · subst he0
      have hev : errV 0 = .nilIface := rfl
      rw [hev]
      by_cases hsz : s.size + 2 ≤ 200
      · have z2 : ¬ (200 : Int) < (s.size : Int) + 2 := by omega
        have z3 : IntKind.i64.wrap ((s.size : Int) + 2) = (s.size : Int) + 2 := by rw [IntKind.wrap_i64]; omega
        have HP3 := hid (br_ok s T3 HT3.out.1 ms kk HPS.out hsz)
        clear hsz
        go_wp2_with fail
        refine Calls.mono (HSy.out.parse T3 _ ms 0 0 (by have := HRe.out; have := HT3.out.2; unfold maxLen; omega) HP3.out) ?_
        rintro e w6 ⟨u6, rfl, hb6, hu6⟩
        rw [hev]
        have B6 := hid (B5.out.trans (hb6.mono B5.out.size))
        have HU6 := hid hu6
        replace HU5 := hid (HU5.out.below hb6)
        clear hb6 hu6
        go_wp2_with fail
        refine Calls.mono (nodes_any ms ms u5 u6 _ HU5.out HU6.out) ?_
        rintro e w7 ⟨rfl, hb7⟩
        rw [nsEq_self]
        go_wp2
        go_ret
        exact ⟨rfl, B6.out.trans (hb7.mono B6.out.size)⟩
      · have z2 : (200 : Int) < (s.size : Int) + 2 := by omega
        have z3 : IntKind.i64.wrap ((s.size : Int) + 2) = (s.size : Int) + 2 := by rw [IntKind.wrap_i64]; have := HRe.out; omega
        go_wp2
        go_ret
        exact ⟨rfl, B5.out⟩
    · rw [hev]
      clear hev
      go_wp2
      go_ret
      exact ⟨rfl, B5.out⟩
/-- The law SynNot, from what package syn answers. -/
theorem synNot_any (R : SynR) (items s : ByteArray) (his : items.size ≤ reachBytes) (hs : s.size ≤ reachBytes) (w : World) :
    Calls Try.prog 5 #[.string items, .string s] w fun e w' => e = .returned (.bool true) ∧ Below w.heap.size w w' := by
  have OF := hid (fun w => of_any ⟨#[97]⟩ w (by show 1 ≤ _; decide))
  have P0 : Hid (∀ w, Calls Try.prog 15 #[.string ⟨#[91, 94, 97, 93]⟩] w fun x w' => ∃ u, x = .returned (.tuple #[u, .int .i64 0, .nilIface]) ∧ Below w.heap.size w w' ∧ NsIn w' u [⟨1, (C4.ofL [97]).not⟩]) := fun w =>
    R.parse ⟨#[91, 94, 97, 93]⟩ w _ 0 0 (by show 4 ≤ _; decide) (PsR.ok (.leaf ⟨1, (C4.ofL [97]).not⟩) (by show 4 ≤ 200; decide) whole_a (by show ¬ 60 < 1; decide))
  cases hl : items.data.toList with
  | nil => exact not_none (C4.ofL [97]) items s (Or.inl (by have := str_len items; rw [hl] at this; simpa using this.symm)) his hs w R OF P0
  | cons c r =>
    by_cases h94 : c = 94
    · subst h94
      exact not_none (C4.ofL [97]) items s (Or.inr ⟨r, hl⟩) his hs w R OF P0
    · exact not_some (C4.ofL [97]) items s c r hl h94 his hs w R OF P0
end Go.Proofs.Ytmdfdlljeggbbaa
