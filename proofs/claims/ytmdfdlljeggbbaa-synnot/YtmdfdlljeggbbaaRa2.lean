/- The landed reader: more, misfitAt, sees, skip, take, close. -/
import Derived.Test.YtmdfdlljeggbbaaRa1
import Derived.Defers
import Derived.Recover
set_option linter.unusedSimpArgs false
set_option linter.unusedVariables false
set_option maxRecDepth 100000
namespace Go.Proofs.Ytmdfdlljeggbbaa
open Go.RowKit
theorem ret_bool {a b : Bool} (h : a = b) : Ending.returned (.bool a) = .returned (.bool b) := by rw [h]
set_option maxHeartbeats 1000000 in
theorem more_any (g : Nat) (s : ByteArray) (a : Nat) (v : Value) (l : List UInt8) (w : World) (h : PA w g s a v l) :
    Calls Try.prog 36 #[.pointer (some ⟨g, 0, none⟩)] w fun e w' => e = .returned (.bool (decide (l ≠ []))) ∧ Below w.heap.size w w' := by
  obtain ⟨c0, c1, c2, c3, f1, f2, f3⟩ := h.rd.all
  have H : Hid (decide (a < s.size) = decide (l ≠ [])) := by
    show _ = _
    have := h.le
    cases l with
    | nil => simp at this ⊢; omega
    | cons c r => simp at this ⊢; omega
  clear h
  go_enter Try.func36, Try.ntmps36
  go_wp2_with fail
  go_quiet (fail)
  go_wp2
  go_ret
  exact ⟨ret_bool H.out, below_drewN' w nq⟩
set_option maxHeartbeats 1000000 in
theorem misfitAt_any (g : Nat) (s : ByteArray) (a : Int) (v : Value) (st : Bool) (z : Int) (w : World) (h : Rdr w g s a v st) :
    Calls Try.prog 37 #[.pointer (some ⟨g, 0, none⟩), .int .i64 z] w fun e w' => e = .returned (.agg #[.int .i64 z]) ∧ Stk w' g ∧ w.grownBy w' (some g) := by
  obtain ⟨c0, c1, c2, c3, f1, f2, f3⟩ := h.ca
  have hg := h.lt
  have H := hid h
  clear h
  have hne : ¬ g = w.heap.size := by omega
  have hne2 : ¬ w.heap.size = g := by omega
  go_enter Try.func37, Try.ntmps37
  go_wp2
  refine bodyPost_ret (v := .agg #[.int .i64 z]) (by simp [results, Try.results37, go_sem]) rfl ⟨rfl, ?_⟩
  exact ⟨⟨s, a, v, (H.out.setStuck true).alloc _⟩, grown_trans (grown_cell _ _ _ _) (grown_of_below ((Below.refl _ _).alloc (Nat.le_refl _) _) _)⟩
theorem more_nil (g : Nat) (s : ByteArray) (a : Nat) (v : Value) (w : World) (h : PA w g s a v []) :
    Calls Try.prog 36 #[.pointer (some ⟨g, 0, none⟩)] w fun e w' => e = .returned (.bool false) ∧ Below w.heap.size w w' := (more_any g s a v _ w h).mono fun _ _ x => ⟨x.1.trans (ret_bool (by simp)), x.2⟩
theorem more_cons (g : Nat) (s : ByteArray) (a : Nat) (v : Value) (c : UInt8) (r : List UInt8) (w : World) (h : PA w g s a v (c :: r)) :
    Calls Try.prog 36 #[.pointer (some ⟨g, 0, none⟩)] w fun e w' => e = .returned (.bool true) ∧ Below w.heap.size w w' := (more_any g s a v _ w h).mono fun _ _ x => ⟨x.1.trans (ret_bool (by simp)), x.2⟩
set_option maxHeartbeats 1000000 in
theorem rsees_any (g : Nat) (s : ByteArray) (a : Nat) (v : Value) (l : List UInt8) (b : UInt8) (z : Int) (hz : z = (b.toNat : Int)) (w : World) (h : PA w g s a v l) :
    Calls Try.prog 50 #[.pointer (some ⟨g, 0, none⟩), .int .u8 z] w fun e w' => e = .returned (.bool (decide (l.head? = some b))) ∧ Below w.heap.size w w' := by
  subst hz
  obtain ⟨c0, c1, c2, c3, f1, f2, f3⟩ := h.rd.all
  have d0 := cell_regrown c0
  have d1 := cell_regrown c1
  clear c0 c1 c2 c3 f1 f2 f3
  cases l with
  | nil =>
    have HM := hid fun d os => more_nil g s a v _ (h.below (below_regrown w d os))
    clear h
    go_enter Try.func50, Try.ntmps50
    go_wp2_with fail
    refine wp_region_quiet_below (by kernel_rfl) (by kernel_rfl) ?_
    repeat (go_big_quiet_step (first
      | (go_at_call 36; refine Calls.regrown_of (v := .bool false) ?_; exact HM.out _ _)))
    refine wpQuiet_nil ?_
    intro _ hw'
    obtain ⟨⟨dq, osq⟩, hw''⟩ := hw'
    have hb := below_regrown w dq osq
    subst hw''
    go_wp2
    go_ret
    exact ⟨rfl, hb⟩
  | cons c r =>
    obtain ⟨h1, _, h3⟩ := dropc _ _ _ _ h.at'
    have hi := str_idx s a c h1
    have HM := hid fun d os => more_cons g s a v c r _ (h.below (below_regrown w d os))
    clear h h1 h3
    by_cases hc : c = b
    · subst hc
      have e : ((c.toNat : Int) == (c.toNat : Int)) = true := by simp
      have HX : Hid (decide ((c :: r).head? = some c) = true) := by show _ = _; simp
      rw [HX.out]
      go_enter Try.func50, Try.ntmps50
      go_wp2_with fail
      refine wp_region_quiet_below (by kernel_rfl) (by kernel_rfl) ?_
      repeat (go_big_quiet_step (first
        | (go_at_call 36; refine Calls.regrown_of (v := .bool true) ?_; exact HM.out _ _)))
      refine wpQuiet_nil ?_
      intro _ hw'
      obtain ⟨⟨dq, osq⟩, hw''⟩ := hw'
      have hb := below_regrown w dq osq
      subst hw''
      go_wp2
      go_ret
      exact ⟨rfl, hb⟩
    · have e : ((c.toNat : Int) == (b.toNat : Int)) = false := by
        simp
        intro h
        exact hc (UInt8.toNat_inj.1 (by omega))
      have HX : Hid (decide ((c :: r).head? = some b) = false) := by show _ = _; simp [hc]
      rw [HX.out]
      go_enter Try.func50, Try.ntmps50
      go_wp2_with fail
      refine wp_region_quiet_below (by kernel_rfl) (by kernel_rfl) ?_
      repeat (go_big_quiet_step (first
        | (go_at_call 36; refine Calls.regrown_of (v := .bool true) ?_; exact HM.out _ _)))
      refine wpQuiet_nil ?_
      intro _ hw'
      obtain ⟨⟨dq, osq⟩, hw''⟩ := hw'
      have hb := below_regrown w dq osq
      subst hw''
      go_wp2
      go_ret
      exact ⟨rfl, hb⟩
set_option maxHeartbeats 1000000 in
theorem skip_no (g : Nat) (s : ByteArray) (a : Nat) (v : Value) (l : List UInt8) (b : UInt8) (z : Int) (hz : z = (b.toNat : Int)) (w : World) (h : PA w g s a v l) (hl : l.head? ≠ some b) :
    Calls Try.prog 43 #[.pointer (some ⟨g, 0, none⟩), .int .u8 z] w fun e w' => e = .returned (.bool false) ∧ Below w.heap.size w w' := by
  subst hz
  have HM := hid (rsees_any g s a v l b _ rfl w h)
  have HX : Hid (decide (l.head? = some b) = false) := by show _ = _; simp [hl]
  clear h hl
  go_enter Try.func43, Try.ntmps43
  go_wp2_with fail
  refine Calls.mono HM.out ?_
  rintro e w1 ⟨rfl, hb⟩
  rw [HX.out]
  go_wp2
  go_ret
  exact ⟨rfl, hb⟩
set_option maxHeartbeats 1000000 in
theorem skip_yes (g : Nat) (s : ByteArray) (a : Nat) (v : Value) (r : List UInt8) (b : UInt8) (z : Int) (hz : z = (b.toNat : Int)) (w : World) (h : PA w g s a v (b :: r)) :
    Calls Try.prog 43 #[.pointer (some ⟨g, 0, none⟩), .int .u8 z] w fun e w' => e = .returned (.bool true) ∧ PA w' g s (a + 1) v r ∧ w.grownBy w' (some g) := by
  subst hz
  have HM := hid (rsees_any g s a v _ b _ rfl w h)
  have HX : Hid (decide ((b :: r).head? = some b) = true) := by show _ = _; simp
  have HP := hid h
  clear h
  go_enter Try.func43, Try.ntmps43
  go_wp2_with fail
  refine Calls.mono HM.out ?_
  rintro e w1 ⟨rfl, hb⟩
  rw [HX.out]
  have hp := HP.out.below hb
  obtain ⟨c0, c1, c2, c3, f1, f2, f3⟩ := hp.rd.all
  have HP1 := hid hp
  clear hp
  have hadd : IntKind.i64.wrap ((a : Int) + 1) = ((a + 1 : Nat) : Int) := by
    have := HP.out.le
    have := HP.out.small
    rw [IntKind.wrap_i64]
    omega
  go_wp2
  go_ret
  exact ⟨rfl, HP1.out.next _ (by omega), grown_trans (grown_of_below hb _) (grown_cell _ _ _ _)⟩
set_option maxHeartbeats 1000000 in
theorem take_some (g : Nat) (s : ByteArray) (a : Nat) (v : Value) (c : UInt8) (r : List UInt8) (w : World) (h : PA w g s a v (c :: r)) :
    Calls Try.prog 64 #[.pointer (some ⟨g, 0, none⟩)] w fun e w' => e = .returned (.int .u8 (c.toNat : Int)) ∧ PA w' g s (a + 1) v r ∧ w.grownBy w' (some g) := by
  have HM := hid (more_cons g s a v c r w h)
  have HP := hid h
  have hi := str_idx s a c (dropc _ _ _ _ h.at').1
  clear h
  go_enter Try.func64, Try.ntmps64
  go_wp2_with fail
  refine Calls.mono HM.out ?_
  rintro e w1 ⟨rfl, hb⟩
  have hp := HP.out.below hb
  obtain ⟨c0, c1, c2, c3, f1, f2, f3⟩ := hp.rd.all
  have HP1 := hid hp
  have hadd : IntKind.i64.wrap ((a : Int) + 1) = ((a + 1 : Nat) : Int) := by
    have := HP.out.le
    have := HP.out.small
    rw [IntKind.wrap_i64]
    omega
  clear hp
  go_wp2
  have hp2 := HP1.out.next ((a : Int) + 1) (by omega)
  have hg2 := grown_cell w1 g 1 (.int .i64 ((a : Int) + 1))
  generalize w1.setCell ⟨g, 1, none⟩ (.int .i64 ((a : Int) + 1)) = w2 at *
  clear c0 c1 c2 c3 f1 f2 f3
  obtain ⟨c0, c1, c2, c3, f1, f2, f3⟩ := hp2.rd.all
  rw [show ((a + 1 : Nat) : Int) = (a : Int) + 1 from by omega] at c1
  have HP2 := hid hp2
  have hsub : IntKind.i64.wrap (a : Int) = (a : Int) := by
    have := HP.out.le
    have := HP.out.small
    rw [IntKind.wrap_i64]
    omega
  have hsub2 : (a : Int) + 1 - 1 = (a : Int) := by omega
  clear hp2
  go_quiet (fail)
  go_wp2
  go_ret
  exact ⟨rfl, HP2.out.below (below_drewN' w2 nq), grown_trans (grown_of_below hb _) (grown_trans hg2 (grown_of_below (below_drewN' w2 nq) _))⟩
set_option maxHeartbeats 1000000 in
theorem take_none (g : Nat) (s : ByteArray) (a : Nat) (v : Value) (w : World) (h : PA w g s a v []) :
    Calls Try.prog 64 #[.pointer (some ⟨g, 0, none⟩)] w fun e w' => e = .panicked (mis s.size) ∧ Stk w' g ∧ w.grownBy w' (some g) := by
  have HM := hid (more_nil g s a v w h)
  have HP := hid h
  have HA : Hid ((a : Int) = s.size) := by
    have := h.le
    simp at this
    show _ = _
    omega
  clear h
  go_enter Try.func64, Try.ntmps64
  go_wp2_with fail
  refine Calls.mono HM.out ?_
  rintro e w1 ⟨rfl, hb⟩
  have hp := HP.out.below hb
  obtain ⟨c0, c1, c2, c3, f1, f2, f3⟩ := hp.rd.all
  have HQ := hid (misfitAt_any g s a v false a w1 hp.rd)
  clear hp
  go_wp2_with fail
  refine Calls.mono HQ.out ?_
  rintro e w2 ⟨rfl, hs, hg⟩
  go_wp2
  refine ⟨rfl, ?_, hs, grown_trans (grown_of_below hb _) hg⟩
  rw [HA.out]
  rfl
set_option maxHeartbeats 1000000 in
theorem close_stuck (g : Nat) (z : Int) (u : FrameMode) (w : World) (h : Stk w g) :
    CallsD Try.prog 62 #[.pointer (some ⟨g, 0, none⟩), .int .u8 z] u w fun e u' w' => u' = u ∧ (e = .returned (.tuple #[]) ∧ Below w.heap.size w w') := by
  obtain ⟨s, a, v, hr⟩ := h
  obtain ⟨c0, c1, c2, c3, f1, f2, f3⟩ := hr.all
  clear hr
  go_enter_d Try.func62, Try.ntmps62
  go_wp2_with fail
  go_end0
  exact ⟨rfl, Below.refl _ _⟩
set_option maxHeartbeats 1000000 in
theorem close_yes (g : Nat) (s : ByteArray) (a : Nat) (v : Value) (r : List UInt8) (b : UInt8) (u : FrameMode) (w : World) (h : PA w g s a v (b :: r)) :
    CallsD Try.prog 62 #[.pointer (some ⟨g, 0, none⟩), .int .u8 (b.toNat : Int)] u w fun e u' w' => u' = u ∧ (e = .returned (.tuple #[]) ∧ PA w' g s (a + 1) v r ∧ w.grownBy w' (some g)) := by
  obtain ⟨c0, c1, c2, c3, f1, f2, f3⟩ := h.rd.all
  have HS := hid (skip_yes g s a v r b _ rfl w h)
  clear h
  go_enter_d Try.func62, Try.ntmps62
  go_wp2_with fail
  refine Calls.mono HS.out ?_
  rintro e w1 ⟨rfl, hp, hg⟩
  go_wp2
  go_end0
  exact ⟨rfl, hp, hg⟩
set_option maxHeartbeats 1000000 in
theorem close_no (g : Nat) (s : ByteArray) (a : Nat) (v : Value) (l : List UInt8) (b : UInt8) (u : FrameMode) (w : World) (h : PA w g s a v l) (hl : l.head? ≠ some b) :
    CallsD Try.prog 62 #[.pointer (some ⟨g, 0, none⟩), .int .u8 (b.toNat : Int)] u w fun e u' w' => u' = u ∧ (e = .panicked (mis ((s.size : Int) - (l.length : Int))) ∧ Stk w' g ∧ w.grownBy w' (some g)) := by
  obtain ⟨c0, c1, c2, c3, f1, f2, f3⟩ := h.rd.all
  have HS := hid (skip_no g s a v l b _ rfl w h hl)
  have HP := hid h
  have HA : Hid ((a : Int) = (s.size : Int) - (l.length : Int)) := by
    have := h.le
    show _ = _
    omega
  clear h hl
  go_enter_d Try.func62, Try.ntmps62
  go_wp2_with fail
  refine Calls.mono HS.out ?_
  rintro e w1 ⟨rfl, hb⟩
  have hp := HP.out.below hb
  clear c0 c1 c2 c3 f1 f2 f3
  obtain ⟨c0, c1, c2, c3, f1, f2, f3⟩ := hp.rd.all
  have HQ := hid (misfitAt_any g s a v false a w1 hp.rd)
  clear hp
  go_wp2_with fail
  refine Calls.mono HQ.out ?_
  rintro e w2 ⟨rfl, hs, hg⟩
  go_wp2
  refine ⟨rfl, ?_, hs, grown_trans (grown_of_below hb _) hg⟩
  rw [HA.out]
  rfl
end Go.Proofs.Ytmdfdlljeggbbaa
