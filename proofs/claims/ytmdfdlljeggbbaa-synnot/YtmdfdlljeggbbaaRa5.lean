/- The landed reader: symbol, behind a backslash and an x; whole. -/
import Derived.Test.YtmdfdlljeggbbaaRa4
set_option linter.unusedSimpArgs false
set_option linter.unusedVariables false
set_option maxRecDepth 100000
namespace Go.Proofs.Ytmdfdlljeggbbaa
open Go.RowKit
set_option maxHeartbeats 1000000 in
theorem symbol_escEnd (g : Nat) (s : ByteArray) (a : Nat) (v : Value) (w : World) (h : PA w g s a v [92]) :
    Calls Try.prog 60 #[.pointer (some ⟨g, 0, none⟩)] w fun e w' => e = .panicked (mis s.size) ∧ Stk w' g ∧ w.grownBy w' (some g) := by
  obtain ⟨c0, c1, c2, c3, f1, f2, f3⟩ := h.rd.all
  have HM := hid (take_some g s a v 92 [] w h)
  clear h
  go_enter Try.func60, Try.ntmps60
  go_wp2_with fail
  refine Calls.mono HM.out ?_
  rintro e w1 ⟨rfl, hp, hg⟩
  have HM1 := hid (take_none g s (a + 1) v w1 hp)
  clear hp
  go_wp2_with fail
  refine Calls.mono HM1.out ?_
  rintro e w2 ⟨rfl, hs, hg2⟩
  exact ⟨rfl, rfl, hs, grown_trans hg hg2⟩
set_option maxHeartbeats 1000000 in
theorem symbol_hex0 (g : Nat) (s : ByteArray) (a : Nat) (v : Value)  (w : World) (h : PA w g s a v (92 :: 120 :: [])) :
    Calls Try.prog 60 #[.pointer (some ⟨g, 0, none⟩)] w fun e w' => e = .panicked (mis s.size) ∧ Stk w' g ∧ w.grownBy w' (some g) := by
  obtain ⟨c0, c1, c2, c3, f1, f2, f3⟩ := h.rd.all
  have HM := hid (take_some g s a v 92 (120 :: []) w h)
  clear h
  go_enter Try.func60, Try.ntmps60
  go_wp2_with fail
  refine Calls.mono HM.out ?_
  rintro e w1 ⟨rfl, hp, hg⟩
  have HM1 := hid (take_some g s (a + 1) v 120 ([]) w1 hp)
  clear hp c0 c1 c2 c3 f1 f2 f3
  go_wp2_with fail
  refine Calls.mono HM1.out ?_
  rintro e w2 ⟨rfl, hp, hg2⟩
  have hg3 := grown_trans hg hg2
  go_wp2_with fail
  refine Calls.mono (digit_end g s (a + 1 + 1) v _ _ hp) ?_
  rintro e w3 ⟨rfl, hs, hg4⟩
  exact ⟨rfl, rfl, hs, grown_trans hg3 hg4⟩
set_option maxHeartbeats 1000000 in
theorem symbol_hexBad1 (g : Nat) (s : ByteArray) (a : Nat) (v : Value) (x : UInt8) (t : List UInt8) (hx1 : hx x = none) (w : World) (h : PA w g s a v (92 :: 120 :: x :: t)) :
    Calls Try.prog 60 #[.pointer (some ⟨g, 0, none⟩)] w fun e w' => e = .panicked (mis (a : Int)) ∧ Stk w' g ∧ w.grownBy w' (some g) := by
  obtain ⟨c0, c1, c2, c3, f1, f2, f3⟩ := h.rd.all
  have HM := hid (take_some g s a v 92 (120 :: x :: t) w h)
  clear h
  go_enter Try.func60, Try.ntmps60
  go_wp2_with fail
  refine Calls.mono HM.out ?_
  rintro e w1 ⟨rfl, hp, hg⟩
  have HM1 := hid (take_some g s (a + 1) v 120 (x :: t) w1 hp)
  clear hp c0 c1 c2 c3 f1 f2 f3
  go_wp2_with fail
  refine Calls.mono HM1.out ?_
  rintro e w2 ⟨rfl, hp, hg2⟩
  have hg3 := grown_trans hg hg2
  go_wp2_with fail
  refine Calls.mono (digit_bad g s (a + 1 + 1) v x t _ hx1 _ hp) ?_
  rintro e w3 ⟨rfl, hs, hg4⟩
  exact ⟨rfl, rfl, hs, grown_trans hg3 hg4⟩
set_option maxHeartbeats 1000000 in
theorem symbol_hex1 (g : Nat) (s : ByteArray) (a : Nat) (v : Value) (x : UInt8) (p : Nat) (hx1 : hx x = some p) (w : World) (h : PA w g s a v (92 :: 120 :: [x])) :
    Calls Try.prog 60 #[.pointer (some ⟨g, 0, none⟩)] w fun e w' => e = .panicked (mis s.size) ∧ Stk w' g ∧ w.grownBy w' (some g) := by
  obtain ⟨c0, c1, c2, c3, f1, f2, f3⟩ := h.rd.all
  have HM := hid (take_some g s a v 92 (120 :: [x]) w h)
  clear h
  go_enter Try.func60, Try.ntmps60
  go_wp2_with fail
  refine Calls.mono HM.out ?_
  rintro e w1 ⟨rfl, hp, hg⟩
  have HM1 := hid (take_some g s (a + 1) v 120 ([x]) w1 hp)
  clear hp c0 c1 c2 c3 f1 f2 f3
  go_wp2_with fail
  refine Calls.mono HM1.out ?_
  rintro e w2 ⟨rfl, hp, hg2⟩
  have hg3 := grown_trans hg hg2
  go_wp2_with fail
  refine Calls.mono (digit_ok g s (a + 1 + 1) v x [] _ p hx1 _ hp) ?_
  rintro e w3 ⟨rfl, hp3, hg4⟩
  have hg5 := grown_trans hg3 hg4
  have HP3 := hid hp3
  have hpl := hx_lt _ _ hx1
  have hm : IntKind.u8.wrap ((p : Int) * 16) = (p : Int) * 16 := by rw [IntKind.wrap_u8]; omega
  clear hp3 hp
  go_wp2_with fail
  refine Calls.mono (digit_end g s (a + 1 + 1 + 1) v _ _ HP3.out) ?_
  rintro e w4 ⟨rfl, hs, hg6⟩
  exact ⟨rfl, rfl, hs, grown_trans hg5 hg6⟩
set_option maxHeartbeats 1000000 in
theorem symbol_hexBad2 (g : Nat) (s : ByteArray) (a : Nat) (v : Value) (x y : UInt8) (r : List UInt8) (p : Nat) (hx1 : hx x = some p) (hx2 : hx y = none) (w : World) (h : PA w g s a v (92 :: 120 :: x :: y :: r)) :
    Calls Try.prog 60 #[.pointer (some ⟨g, 0, none⟩)] w fun e w' => e = .panicked (mis (a : Int)) ∧ Stk w' g ∧ w.grownBy w' (some g) := by
  obtain ⟨c0, c1, c2, c3, f1, f2, f3⟩ := h.rd.all
  have HM := hid (take_some g s a v 92 (120 :: x :: y :: r) w h)
  clear h
  go_enter Try.func60, Try.ntmps60
  go_wp2_with fail
  refine Calls.mono HM.out ?_
  rintro e w1 ⟨rfl, hp, hg⟩
  have HM1 := hid (take_some g s (a + 1) v 120 (x :: y :: r) w1 hp)
  clear hp c0 c1 c2 c3 f1 f2 f3
  go_wp2_with fail
  refine Calls.mono HM1.out ?_
  rintro e w2 ⟨rfl, hp, hg2⟩
  have hg3 := grown_trans hg hg2
  go_wp2_with fail
  refine Calls.mono (digit_ok g s (a + 1 + 1) v x (y :: r) _ p hx1 _ hp) ?_
  rintro e w3 ⟨rfl, hp3, hg4⟩
  have hg5 := grown_trans hg3 hg4
  have HP3 := hid hp3
  have hpl := hx_lt _ _ hx1
  have hm : IntKind.u8.wrap ((p : Int) * 16) = (p : Int) * 16 := by rw [IntKind.wrap_u8]; omega
  clear hp3 hp
  go_wp2_with fail
  refine Calls.mono (digit_bad g s (a + 1 + 1 + 1) v y r _ hx2 _ HP3.out) ?_
  rintro e w4 ⟨rfl, hs, hg6⟩
  exact ⟨rfl, rfl, hs, grown_trans hg5 hg6⟩
set_option maxHeartbeats 1000000 in
theorem symbol_hex (g : Nat) (s : ByteArray) (a : Nat) (v : Value) (x y : UInt8) (r : List UInt8) (p q : Nat) (hx1 : hx x = some p) (hx2 : hx y = some q) (w : World) (h : PA w g s a v (92 :: 120 :: x :: y :: r)) :
    Calls Try.prog 60 #[.pointer (some ⟨g, 0, none⟩)] w fun e w' => e = .returned (.int .u8 ((p * 16 + q : Nat) : Int)) ∧ PA w' g s (a + 4) v r ∧ w.grownBy w' (some g) := by
  obtain ⟨c0, c1, c2, c3, f1, f2, f3⟩ := h.rd.all
  have HM := hid (take_some g s a v 92 (120 :: x :: y :: r) w h)
  clear h
  go_enter Try.func60, Try.ntmps60
  go_wp2_with fail
  refine Calls.mono HM.out ?_
  rintro e w1 ⟨rfl, hp, hg⟩
  have HM1 := hid (take_some g s (a + 1) v 120 (x :: y :: r) w1 hp)
  clear hp c0 c1 c2 c3 f1 f2 f3
  go_wp2_with fail
  refine Calls.mono HM1.out ?_
  rintro e w2 ⟨rfl, hp, hg2⟩
  have hg3 := grown_trans hg hg2
  go_wp2_with fail
  refine Calls.mono (digit_ok g s (a + 1 + 1) v x (y :: r) _ p hx1 _ hp) ?_
  rintro e w3 ⟨rfl, hp3, hg4⟩
  have hg5 := grown_trans hg3 hg4
  have HP3 := hid hp3
  have hpl := hx_lt _ _ hx1
  have hm : IntKind.u8.wrap ((p : Int) * 16) = (p : Int) * 16 := by rw [IntKind.wrap_u8]; omega
  clear hp3 hp
  go_wp2_with fail
  refine Calls.mono (digit_ok g s (a + 1 + 1 + 1) v y r _ q hx2 _ HP3.out) ?_
  rintro e w4 ⟨rfl, hp4, hg6⟩
  have hql := hx_lt _ _ hx2
  have ha : IntKind.u8.wrap ((p : Int) * 16 + (q : Int)) = (p : Int) * 16 + (q : Int) := by rw [IntKind.wrap_u8]; omega
  go_wp2
  go_ret
  exact ⟨ret_int (by show (p : Int) * 16 + (q : Int) = _; omega), hp4, grown_trans hg5 hg6⟩
/-- One byte is read. -/
theorem symbol_ok (g : Nat) (s : ByteArray) (a : Nat) (v : Value) (l : List UInt8) (b : Nat) (r : List UInt8) (hr : rd1 l = .ok (b, r)) (w : World) (h : PA w g s a v l) :
    Calls Try.prog 60 #[.pointer (some ⟨g, 0, none⟩)] w fun e w' => e = .returned (.int .u8 (b : Int)) ∧ (∃ a', PA w' g s a' v r) ∧ w.grownBy w' (some g) := by
  cases l with
  | nil => simp [rd1] at hr
  | cons c l =>
    rw [rd1] at hr
    split at hr
    · rename_i hc
      subst hc
      cases l with
      | nil => simp [rdEsc] at hr
      | cons d l =>
        rw [rdEsc] at hr
        split at hr
        · rename_i hd
          injection hr with hr
          injection hr with h1 h2
          subst h1; subst h2
          have hd2 : d ≠ 120 := by rintro rfl; revert hd; decide
          exact (symbol_esc g s a v d l hd2 w h ((bt_esc d).2 hd)).mono fun _ _ x => ⟨x.1, ⟨_, x.2.1⟩, x.2.2⟩
        · split at hr
          · rename_i hd
            subst hd
            match l, hr with
            | [], hr => simp [rdHex] at hr
            | [x], hr => simp only [rdHex] at hr; split at hr <;> cases hr
            | x :: y :: l, hr =>
              simp only [rdHex] at hr
              split at hr
              · rename_i p q h1 h2
                injection hr with hr
                injection hr with h3 h4
                subst h3; subst h4
                exact (symbol_hex g s a v x y l p q h1 h2 w h).mono fun _ _ x => ⟨x.1, ⟨_, x.2.1⟩, x.2.2⟩
              · cases hr
          · cases hr
    · rename_i hc
      split at hr
      · cases hr
      · rename_i h2
        injection hr with hr
        injection hr with h3 h4
        subst h3; subst h4
        exact (symbol_bare g s a v c l hc w h ((bt_bare c).2 h2)).mono fun _ _ x => ⟨x.1, ⟨_, x.2.1⟩, x.2.2⟩
/-- No byte is read. -/
theorem symbol_bad (g : Nat) (s : ByteArray) (a : Nat) (v : Value) (l : List UInt8) (k : Nat) (hr : rd1 l = .error k) (w : World) (h : PA w g s a v l) :
    Calls Try.prog 60 #[.pointer (some ⟨g, 0, none⟩)] w fun e w' => e = .panicked (mis ((s.size : Int) - (k : Int))) ∧ Stk w' g ∧ w.grownBy w' (some g) := by
  have hle := h.le
  have e0 : mis (s.size : Int) = mis ((s.size : Int) - ((0 : Nat) : Int)) := by simp
  have e1 : mis (a : Int) = mis ((s.size : Int) - (l.length : Int)) := by rw [← hle]; congr 1; omega
  cases l with
  | nil =>
    simp [rd1] at hr
    subst hr
    rw [← e0]
    exact symbol_end g s a v w h
  | cons c l =>
    rw [rd1] at hr
    split at hr
    · rename_i hc
      subst hc
      cases l with
      | nil =>
        simp [rdEsc] at hr
        subst hr
        rw [← e0]
        exact symbol_escEnd g s a v w h
      | cons d l =>
        rw [rdEsc] at hr
        split at hr
        · cases hr
        · rename_i hd
          split at hr
          · rename_i hd
            subst hd
            match l, hr with
            | [], hr =>
              simp [rdHex] at hr
              subst hr
              rw [← e0]
              exact symbol_hex0 g s a v w h
            | [x], hr =>
              simp only [rdHex] at hr
              split at hr
              · rename_i hs
                injection hr with hr
                subst hr
                rw [← e0]
                obtain ⟨p, hp⟩ := Option.isSome_iff_exists.1 hs
                exact symbol_hex1 g s a v x p hp w h
              · rename_i hs
                injection hr with hr
                subst hr
                have hn : hx x = none := by simpa using hs
                rw [show ((([120, x] : List UInt8).length + 1 : Nat) : Int) = (([92, 120, x] : List UInt8).length : Int) from rfl, ← e1]
                exact symbol_hexBad1 g s a v x [] hn w h
            | x :: y :: l, hr =>
              simp only [rdHex] at hr
              split at hr
              · cases hr
              · rename_i hno
                injection hr with hr
                subst hr
                rw [show (((120 :: x :: y :: l : List UInt8).length + 1 : Nat) : Int) = ((92 :: 120 :: x :: y :: l : List UInt8).length : Int) from rfl, ← e1]
                cases h1 : hx x with
                | none => exact symbol_hexBad1 g s a v x _ h1 w h
                | some p =>
                  cases h2 : hx y with
                  | none => exact symbol_hexBad2 g s a v x y l p h1 h2 w h
                  | some q => exact (hno p q h1 h2).elim
          · rename_i hd2
            injection hr with hr
            subst hr
            rw [show (((d :: l : List UInt8).length + 1 : Nat) : Int) = ((92 :: d :: l : List UInt8).length : Int) from rfl, ← e1]
            exact symbol_escBad g s a v d l hd2 w h (fun e => hd ((bt_esc d).1 e))
    · rename_i hc
      split at hr
      · rename_i h2
        injection hr with hr
        subst hr
        rw [show ((l.length + 1 : Nat) : Int) = ((c :: l : List UInt8).length : Int) from rfl, ← e1]
        exact symbol_bareBad g s a v c l hc w h (fun e => (bt_bare c).1 e h2)
      · cases hr
end Go.Proofs.Ytmdfdlljeggbbaa
