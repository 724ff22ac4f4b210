/- The landed reader: symbol, behind a backslash and an x; whole. What class.Range answers. The landed reader: item. The landed reader: items. The landed reader: one item, whole. -/
import Derived.Test.YtejbififfceamaaGreatDoorY11
import Derived.Test.YtejbififfceamaaGreatDoorY09
import Derived.Test.YtejbififfceamaaGreatDoorY02
import Derived.Test.YtejbififfceamaaGreatDoorY10
import Derived.Test.YtejbififfceamaaGreatDoorY06
namespace Go.Proofs.YtejbififfceamaaGreatDoor
set_option linter.unusedSimpArgs false
set_option linter.unusedVariables false
set_option maxRecDepth 100000
open Go.RowKit
set_option maxHeartbeats 1000000 in
theorem symbol_escEnd (g : Nat) (s : ByteArray) (a : Nat) (v : Value) (w : World) (h : PA w g s a v [92]) :
    Calls Tryz.prog 134 #[.pointer (some ⟨g, 0, none⟩)] w fun e w' => e = .panicked (mis s.size) ∧ Stk w' g ∧ w.grownBy w' (some g) := by
  obtain ⟨c0, c1, c2, c3, f1, f2, f3⟩ := h.rd.all
  have HM := hid (take_some g s a v 92 [] w h)
  clear h
  go_enter Tryz.func134, Tryz.ntmps134
  go_wp2_with fail
  refine Calls.mono HM.out ?_
  rintro e w1 ⟨rfl, hp, hg⟩
  have HM1 := hid (take_none g s (a + 1) v w1 hp)
  clear hp
  go_wp2_with fail
  refine Calls.mono HM1.out ?_
  rintro e w2 ⟨rfl, hs, hg2⟩
  exact ⟨rfl, rfl, hs, grown_trans hg hg2⟩
set_option maxHeartbeats 1000000 in
theorem symbol_hex0 (g : Nat) (s : ByteArray) (a : Nat) (v : Value)  (w : World) (h : PA w g s a v (92 :: 120 :: [])) :
    Calls Tryz.prog 134 #[.pointer (some ⟨g, 0, none⟩)] w fun e w' => e = .panicked (mis s.size) ∧ Stk w' g ∧ w.grownBy w' (some g) := by
  obtain ⟨c0, c1, c2, c3, f1, f2, f3⟩ := h.rd.all
  have HM := hid (take_some g s a v 92 (120 :: []) w h)
  clear h
  go_enter Tryz.func134, Tryz.ntmps134
  go_wp2_with fail
  refine Calls.mono HM.out ?_
  rintro e w1 ⟨rfl, hp, hg⟩
  have HM1 := hid (take_some g s (a + 1) v 120 ([]) w1 hp)
  clear hp c0 c1 c2 c3 f1 f2 f3
  go_wp2_with fail
  refine Calls.mono HM1.out ?_
  rintro e w2 ⟨rfl, hp, hg2⟩
  have hg3 := grown_trans hg hg2
  go_wp2_with fail
  refine Calls.mono (digit_end g s (a + 1 + 1) v _ _ hp) ?_
  rintro e w3 ⟨rfl, hs, hg4⟩
  exact ⟨rfl, rfl, hs, grown_trans hg3 hg4⟩
set_option maxHeartbeats 1000000 in
theorem symbol_hexBad1 (g : Nat) (s : ByteArray) (a : Nat) (v : Value) (x : UInt8) (t : List UInt8) (hx1 : hx x = none) (w : World) (h : PA w g s a v (92 :: 120 :: x :: t)) :
    Calls Tryz.prog 134 #[.pointer (some ⟨g, 0, none⟩)] w fun e w' => e = .panicked (mis (a : Int)) ∧ Stk w' g ∧ w.grownBy w' (some g) := by
  obtain ⟨c0, c1, c2, c3, f1, f2, f3⟩ := h.rd.all
  have HM := hid (take_some g s a v 92 (120 :: x :: t) w h)
  clear h
  go_enter Tryz.func134, Tryz.ntmps134
  go_wp2_with fail
  refine Calls.mono HM.out ?_
  rintro e w1 ⟨rfl, hp, hg⟩
  have HM1 := hid (take_some g s (a + 1) v 120 (x :: t) w1 hp)
  clear hp c0 c1 c2 c3 f1 f2 f3
  go_wp2_with fail
  refine Calls.mono HM1.out ?_
  rintro e w2 ⟨rfl, hp, hg2⟩
  have hg3 := grown_trans hg hg2
  go_wp2_with fail
  refine Calls.mono (digit_bad g s (a + 1 + 1) v x t _ hx1 _ hp) ?_
  rintro e w3 ⟨rfl, hs, hg4⟩
  exact ⟨rfl, rfl, hs, grown_trans hg3 hg4⟩
set_option maxHeartbeats 1000000 in
theorem symbol_hex1 (g : Nat) (s : ByteArray) (a : Nat) (v : Value) (x : UInt8) (p : Nat) (hx1 : hx x = some p) (w : World) (h : PA w g s a v (92 :: 120 :: [x])) :
    Calls Tryz.prog 134 #[.pointer (some ⟨g, 0, none⟩)] w fun e w' => e = .panicked (mis s.size) ∧ Stk w' g ∧ w.grownBy w' (some g) := by
  obtain ⟨c0, c1, c2, c3, f1, f2, f3⟩ := h.rd.all
  have HM := hid (take_some g s a v 92 (120 :: [x]) w h)
  clear h
  go_enter Tryz.func134, Tryz.ntmps134
  go_wp2_with fail
  refine Calls.mono HM.out ?_
  rintro e w1 ⟨rfl, hp, hg⟩
  have HM1 := hid (take_some g s (a + 1) v 120 ([x]) w1 hp)
  clear hp c0 c1 c2 c3 f1 f2 f3
  go_wp2_with fail
  refine Calls.mono HM1.out ?_
  rintro e w2 ⟨rfl, hp, hg2⟩
  have hg3 := grown_trans hg hg2
  go_wp2_with fail
  refine Calls.mono (digit_ok g s (a + 1 + 1) v x [] _ p hx1 _ hp) ?_
  rintro e w3 ⟨rfl, hp3, hg4⟩
  have hg5 := grown_trans hg3 hg4
  have HP3 := hid hp3
  have hpl := hx_lt _ _ hx1
  have hm : IntKind.u8.wrap ((p : Int) * 16) = (p : Int) * 16 := by rw [IntKind.wrap_u8]; omega
  clear hp3 hp
  go_wp2_with fail
  refine Calls.mono (digit_end g s (a + 1 + 1 + 1) v _ _ HP3.out) ?_
  rintro e w4 ⟨rfl, hs, hg6⟩
  exact ⟨rfl, rfl, hs, grown_trans hg5 hg6⟩
set_option maxHeartbeats 1000000 in
theorem symbol_hexBad2 (g : Nat) (s : ByteArray) (a : Nat) (v : Value) (x y : UInt8) (r : List UInt8) (p : Nat) (hx1 : hx x = some p) (hx2 : hx y = none) (w : World) (h : PA w g s a v (92 :: 120 :: x :: y :: r)) :
    Calls Tryz.prog 134 #[.pointer (some ⟨g, 0, none⟩)] w fun e w' => e = .panicked (mis (a : Int)) ∧ Stk w' g ∧ w.grownBy w' (some g) := by
  obtain ⟨c0, c1, c2, c3, f1, f2, f3⟩ := h.rd.all
  have HM := hid (take_some g s a v 92 (120 :: x :: y :: r) w h)
  clear h
  go_enter Tryz.func134, Tryz.ntmps134
  go_wp2_with fail
  refine Calls.mono HM.out ?_
  rintro e w1 ⟨rfl, hp, hg⟩
  have HM1 := hid (take_some g s (a + 1) v 120 (x :: y :: r) w1 hp)
  clear hp c0 c1 c2 c3 f1 f2 f3
  go_wp2_with fail
  refine Calls.mono HM1.out ?_
  rintro e w2 ⟨rfl, hp, hg2⟩
  have hg3 := grown_trans hg hg2
  go_wp2_with fail
  refine Calls.mono (digit_ok g s (a + 1 + 1) v x (y :: r) _ p hx1 _ hp) ?_
  rintro e w3 ⟨rfl, hp3, hg4⟩
  have hg5 := grown_trans hg3 hg4
  have HP3 := hid hp3
  have hpl := hx_lt _ _ hx1
  have hm : IntKind.u8.wrap ((p : Int) * 16) = (p : Int) * 16 := by rw [IntKind.wrap_u8]; omega
  clear hp3 hp
  go_wp2_with fail
  refine Calls.mono (digit_bad g s (a + 1 + 1 + 1) v y r _ hx2 _ HP3.out) ?_
  rintro e w4 ⟨rfl, hs, hg6⟩
  exact ⟨rfl, rfl, hs, grown_trans hg5 hg6⟩
set_option maxHeartbeats 1000000 in
theorem symbol_hex (g : Nat) (s : ByteArray) (a : Nat) (v : Value) (x y : UInt8) (r : List UInt8) (p q : Nat) (hx1 : hx x = some p) (hx2 : hx y = some q) (w : World) (h : PA w g s a v (92 :: 120 :: x :: y :: r)) :
    Calls Tryz.prog 134 #[.pointer (some ⟨g, 0, none⟩)] w fun e w' => e = .returned (.int .u8 ((p * 16 + q : Nat) : Int)) ∧ PA w' g s (a + 4) v r ∧ w.grownBy w' (some g) := by
  obtain ⟨c0, c1, c2, c3, f1, f2, f3⟩ := h.rd.all
  have HM := hid (take_some g s a v 92 (120 :: x :: y :: r) w h)
  clear h
  go_enter Tryz.func134, Tryz.ntmps134
  go_wp2_with fail
  refine Calls.mono HM.out ?_
  rintro e w1 ⟨rfl, hp, hg⟩
  have HM1 := hid (take_some g s (a + 1) v 120 (x :: y :: r) w1 hp)
  clear hp c0 c1 c2 c3 f1 f2 f3
  go_wp2_with fail
  refine Calls.mono HM1.out ?_
  rintro e w2 ⟨rfl, hp, hg2⟩
  have hg3 := grown_trans hg hg2
  go_wp2_with fail
  refine Calls.mono (digit_ok g s (a + 1 + 1) v x (y :: r) _ p hx1 _ hp) ?_
  rintro e w3 ⟨rfl, hp3, hg4⟩
  have hg5 := grown_trans hg3 hg4
  have HP3 := hid hp3
  have hpl := hx_lt _ _ hx1
  have hm : IntKind.u8.wrap ((p : Int) * 16) = (p : Int) * 16 := by rw [IntKind.wrap_u8]; omega
  clear hp3 hp
  go_wp2_with fail
  refine Calls.mono (digit_ok g s (a + 1 + 1 + 1) v y r _ q hx2 _ HP3.out) ?_
  rintro e w4 ⟨rfl, hp4, hg6⟩
  have hql := hx_lt _ _ hx2
  have ha : IntKind.u8.wrap ((p : Int) * 16 + (q : Int)) = (p : Int) * 16 + (q : Int) := by rw [IntKind.wrap_u8]; omega
  go_wp2
  go_ret
  exact ⟨ret_int (by show (p : Int) * 16 + (q : Int) = _; omega), hp4, grown_trans hg5 hg6⟩
/-- One byte is read. -/
theorem symbol_ok (g : Nat) (s : ByteArray) (a : Nat) (v : Value) (l : List UInt8) (b : Nat) (r : List UInt8) (hr : rd1 l = .ok (b, r)) (w : World) (h : PA w g s a v l) :
    Calls Tryz.prog 134 #[.pointer (some ⟨g, 0, none⟩)] w fun e w' => e = .returned (.int .u8 (b : Int)) ∧ (∃ a', PA w' g s a' v r) ∧ w.grownBy w' (some g) := by
  cases l with
  | nil => simp [rd1] at hr
  | cons c l =>
    rw [rd1] at hr
    split at hr
    · rename_i hc
      subst hc
      cases l with
      | nil => simp [rdEsc] at hr
      | cons d l =>
        rw [rdEsc] at hr
        split at hr
        · rename_i hd
          injection hr with hr
          injection hr with h1 h2
          subst h1; subst h2
          have hd2 : d ≠ 120 := by rintro rfl; revert hd; decide
          exact (symbol_esc g s a v d l hd2 w h ((bt_esc d).2 hd)).mono fun _ _ x => ⟨x.1, ⟨_, x.2.1⟩, x.2.2⟩
        · split at hr
          · rename_i hd
            subst hd
            match l, hr with
            | [], hr => simp [rdHex] at hr
            | [x], hr => simp only [rdHex] at hr; split at hr <;> cases hr
            | x :: y :: l, hr =>
              simp only [rdHex] at hr
              split at hr
              · rename_i p q h1 h2
                injection hr with hr
                injection hr with h3 h4
                subst h3; subst h4
                exact (symbol_hex g s a v x y l p q h1 h2 w h).mono fun _ _ x => ⟨x.1, ⟨_, x.2.1⟩, x.2.2⟩
              · cases hr
          · cases hr
    · rename_i hc
      split at hr
      · cases hr
      · rename_i h2
        injection hr with hr
        injection hr with h3 h4
        subst h3; subst h4
        exact (symbol_bare g s a v c l hc w h ((bt_bare c).2 h2)).mono fun _ _ x => ⟨x.1, ⟨_, x.2.1⟩, x.2.2⟩
/-- No byte is read. -/
theorem symbol_bad (g : Nat) (s : ByteArray) (a : Nat) (v : Value) (l : List UInt8) (k : Nat) (hr : rd1 l = .error k) (w : World) (h : PA w g s a v l) :
    Calls Tryz.prog 134 #[.pointer (some ⟨g, 0, none⟩)] w fun e w' => e = .panicked (mis ((s.size : Int) - (k : Int))) ∧ Stk w' g ∧ w.grownBy w' (some g) := by
  have hle := h.le
  have e0 : mis (s.size : Int) = mis ((s.size : Int) - ((0 : Nat) : Int)) := by simp
  have e1 : mis (a : Int) = mis ((s.size : Int) - (l.length : Int)) := by rw [← hle]; congr 1; omega
  cases l with
  | nil =>
    simp [rd1] at hr
    subst hr
    rw [← e0]
    exact symbol_end g s a v w h
  | cons c l =>
    rw [rd1] at hr
    split at hr
    · rename_i hc
      subst hc
      cases l with
      | nil =>
        simp [rdEsc] at hr
        subst hr
        rw [← e0]
        exact symbol_escEnd g s a v w h
      | cons d l =>
        rw [rdEsc] at hr
        split at hr
        · cases hr
        · rename_i hd
          split at hr
          · rename_i hd
            subst hd
            match l, hr with
            | [], hr =>
              simp [rdHex] at hr
              subst hr
              rw [← e0]
              exact symbol_hex0 g s a v w h
            | [x], hr =>
              simp only [rdHex] at hr
              split at hr
              · rename_i hs
                injection hr with hr
                subst hr
                rw [← e0]
                obtain ⟨p, hp⟩ := Option.isSome_iff_exists.1 hs
                exact symbol_hex1 g s a v x p hp w h
              · rename_i hs
                injection hr with hr
                subst hr
                have hn : hx x = none := by simpa using hs
                rw [show ((([120, x] : List UInt8).length + 1 : Nat) : Int) = (([92, 120, x] : List UInt8).length : Int) from rfl, ← e1]
                exact symbol_hexBad1 g s a v x [] hn w h
            | x :: y :: l, hr =>
              simp only [rdHex] at hr
              split at hr
              · cases hr
              · rename_i hno
                injection hr with hr
                subst hr
                rw [show (((120 :: x :: y :: l : List UInt8).length + 1 : Nat) : Int) = ((92 :: 120 :: x :: y :: l : List UInt8).length : Int) from rfl, ← e1]
                cases h1 : hx x with
                | none => exact symbol_hexBad1 g s a v x _ h1 w h
                | some p =>
                  cases h2 : hx y with
                  | none => exact symbol_hexBad2 g s a v x y l p h1 h2 w h
                  | some q => exact (hno p q h1 h2).elim
          · rename_i hd2
            injection hr with hr
            subst hr
            rw [show (((d :: l : List UInt8).length + 1 : Nat) : Int) = ((92 :: d :: l : List UInt8).length : Int) from rfl, ← e1]
            exact symbol_escBad g s a v d l hd2 w h (fun e => hd ((bt_esc d).1 e))
    · rename_i hc
      split at hr
      · rename_i h2
        injection hr with hr
        subst hr
        rw [show ((l.length + 1 : Nat) : Int) = ((c :: l : List UInt8).length : Int) from rfl, ← e1]
        exact symbol_bareBad g s a v c l hc w h (fun e => (bt_bare c).1 e h2)
      · cases hr
end Go.Proofs.YtejbififfceamaaGreatDoor
namespace Go.Proofs.YtejbififfceamaaGreatDoor
set_option linter.unusedSimpArgs false
set_option linter.unusedVariables false
open Go.RowKit

/-- The class of n bytes from lo on. -/
def rng (lo : Nat) : Nat → C4
  | 0 => z4
  | n + 1 => (rng lo n).add ((lo + n : Nat) : Int)
theorem rng_ok (lo : Nat) : ∀ n, (rng lo n).ok
  | 0 => z4_ok
  | n + 1 => C4.add_ok (rng_ok lo n) _
def rngOf (lo hi : Nat) : C4 := if hi < lo then z4 else rng lo (hi + 1 - lo)
def rngErr (lo hi : Nat) : Int := if hi < lo then 1 else 0
set_option maxHeartbeats 1000000 in
theorem range_bad (lo hi : Nat) (hl : lo < 256) (hh : hi < 256) (h : hi < lo) (w : World) :
    Calls Tryz.prog 155 #[.int .u8 lo, .int .u8 hi] w fun e w' => e = .returned (.tuple #[z4.v, .iface 32 (.int .i64 1)]) ∧ Below w.heap.size w w' := by
  have h2 : (hi : Int) < (lo : Int) := by omega
  go_enter Tryz.func155, Tryz.ntmps155
  go_wp2
  refine bodyPost_ret (v := .tuple #[z4.v, .iface 32 (.int .i64 1)]) (by simp [results, Tryz.results155, go_sem, z4]) rfl ⟨rfl, ?_⟩
  exact (Below.refl _ _).alloc (Nat.le_refl _) _
set_option maxHeartbeats 1000000 in
theorem range_good (lo hi : Nat) (hl : lo < 256) (hh : hi < 256) (h : lo ≤ hi) (w : World) :
    Calls Tryz.prog 155 #[.int .u8 lo, .int .u8 hi] w fun e w' => e = .returned (.tuple #[(rng lo (hi + 1 - lo)).v, .nilIface]) ∧ Below w.heap.size w w' := by
  have h2 : ¬ (hi : Int) < (lo : Int) := by omega
  go_enter Tryz.func155, Tryz.ntmps155
  go_wp2
  go_loopw [7] (fun v wr => ∃ n : Nat, n ≤ hi + 1 - lo ∧ v = .int .i64 ((lo : Int) + (n : Int)) ∧ Below w.heap.size w wr ∧ Hb wr w.heap.size z4 ∧ Hb wr (w.heap.size + 1) (rng lo n)) (fun v _ => hi + 1 - (intOf v).toNat)
  case atStart =>
    refine ⟨0, by omega, by go_num, ?_, ?_, ?_⟩
    · exact ((Below.refl _ _).alloc (Nat.le_refl _) _).alloc (by simp) _
    · exact (Hb.new _ z4 _ rfl).alloc _
    · exact Hb.new _ z4 _ (by simp)
  case round =>
    obtain ⟨n, hn, rfl, hB, hZ, hC⟩ := hrel
    obtain ⟨c0, c1, c2, c3, e0, e1, e2, e3⟩ := hC.all
    by_cases hlt : n < hi + 1 - lo
    · have i1 : (lo : Int) + (n : Int) ≤ (hi : Int) := by omega
      have HR : Hid (rng lo (n + 1) = (rng lo n).add ((lo : Int) + (n : Int))) := by show _ = _; rw [rng, Int.natCast_add]
      go_wp2_with fail
      refine (with_any (rng lo n) _ _ (by omega) (by omega)).mono ?_
      rintro e w1 ⟨rfl, hb1⟩
      have hC1 := hC.below hb1 hC.lt
      obtain ⟨g0, g1, g2, g3, q0, q1, q2, q3⟩ := hC1.all
      go_wp2
      refine ⟨⟨n + 1, by omega, by go_num, ?_, ?_, ?_⟩, by simp [intOf]; omega⟩
      · exact below_put4 (hB.trans (hb1.mono hB.size)) (by omega) _
      · exact Hb.other4 (hZ.below hb1 hZ.lt) _ (by omega)
      · rw [HR.out]; exact hC1.put4 _
    · have i1 : ¬ (lo : Int) + (n : Int) ≤ (hi : Int) := by omega
      have hn2 : n = hi + 1 - lo := by omega
      have HN := (show Hid _ from hn2)
      clear hn2
      obtain ⟨d0, d1, d2, d3, f0, f1, f2, f3⟩ := hZ.all
      go_wp2
      have hq := hZ.put4 (rng lo n)
      rw [← HN.out]
      refine bodyPost_ret (v := .tuple #[(rng lo n).v, .nilIface]) (by simp [results, Tryz.results155, go_sem, hq.c0, hq.c1, hq.c2, hq.c3]) rfl ⟨rfl, ?_⟩
      exact below_put4 hB (by omega) _
theorem range_any (lo hi : Nat) (hl : lo < 256) (hh : hi < 256) (w : World) :
    Calls Tryz.prog 155 #[.int .u8 lo, .int .u8 hi] w fun e w' => e = .returned (.tuple #[(rngOf lo hi).v, errV (rngErr lo hi)]) ∧ Below w.heap.size w w' := by
  by_cases h : hi < lo
  · have e1 : rngOf lo hi = z4 := by rw [rngOf, if_pos h]
    have e2 : errV (rngErr lo hi) = .iface 32 (.int .i64 1) := by rw [rngErr, if_pos h]; rfl
    rw [e1, e2]
    exact range_bad lo hi hl hh h w
  · have e1 : rngOf lo hi = rng lo (hi + 1 - lo) := by rw [rngOf, if_neg h]
    have e2 : errV (rngErr lo hi) = .nilIface := by rw [rngErr, if_neg h]; rfl
    rw [e1, e2]
    exact range_good lo hi hl hh (by omega) w
end Go.Proofs.YtejbififfceamaaGreatDoor
namespace Go.Proofs.YtejbififfceamaaGreatDoor
set_option linter.unusedSimpArgs false
set_option linter.unusedVariables false
set_option maxRecDepth 100000
open Go.RowKit
theorem Hb.grown {w w' : World} {b g : Nat} {k : C4} (h : Hb w b k) (hg : w.grownBy w' (some g)) (hne : b ≠ g) : Hb w' b k := (hg.block b h.lt (by intro e; injection e with e; exact hne e)).trans h
theorem grown_below {w w1 w2 : World} {row : Option Nat} (h1 : w.grownBy w1 row) (h2 : Below w.heap.size w1 w2) : w.grownBy w2 row :=
  ⟨h2.os.trans h1.os, h2.tape.trans h1.tape, h2.output.trans h1.output, Nat.le_trans h1.size h2.size, fun k hk hn => (h2.block k hk).trans (h1.block k hk hn)⟩
theorem PA.belowB {w w' : World} {g B : Nat} {s : ByteArray} {a : Nat} {v : Value} {l : List UInt8} (h : PA w g s a v l) (hb : Below B w w') (hg : g < B) : PA w' g s a v l := ⟨(hb.block g hg).trans h.rd, h.at', h.le, h.small⟩
theorem new_block (w : World) (o : Obj) : Below w.heap.size w (w.alloc o) := (Below.refl _ _).alloc (Nat.le_refl _) _
theorem PA.place {w : World} {g : Nat} {s : ByteArray} {a : Nat} {v : Value} {l : List UInt8} (h : PA w g s a v l) : mis (a : Int) = mis ((s.size : Int) - (l.length : Int)) := by
  rw [← h.le]; congr 1; omega
set_option maxHeartbeats 1000000 in
theorem item_bad1 (g : Nat) (s : ByteArray) (a : Nat) (v : Value) (l : List UInt8) (k : Nat) (hr : rd1 l = .error k) (w : World) (h : PA w g s a v l) :
    Calls Tryz.prog 146 #[.pointer (some ⟨g, 0, none⟩)] w fun e w' => e = .panicked (mis ((s.size : Int) - (k : Int))) ∧ Stk w' g ∧ w.grownBy w' (some g) := by
  obtain ⟨c0, c1, c2, c3, f1, f2, f3⟩ := h.rd.ca
  have HM := hid (fun o => symbol_bad g s a v l k hr (w.alloc o) (h.below (new_block w o)))
  clear h hr
  go_enter Tryz.func146, Tryz.ntmps146
  go_wp2_with fail
  refine Calls.mono (HM.out _) ?_
  rintro e w1 ⟨rfl, hs, hg⟩
  exact ⟨rfl, rfl, hs, grown_trans (grown_of_below (new_block _ _) _) hg⟩
set_option maxHeartbeats 1000000 in
theorem item_one (g : Nat) (s : ByteArray) (a : Nat) (v : Value) (l : List UInt8) (lo : Nat) (l1 : List UInt8) (hr : rd1 l = .ok (lo, l1)) (hl1 : l1.head? ≠ some 45) (w : World) (h : PA w g s a v l) :
    Calls Tryz.prog 146 #[.pointer (some ⟨g, 0, none⟩)] w fun e w' => e = .returned (rng lo 1).v ∧ (∃ a', PA w' g s a' v l1) ∧ w.grownBy w' (some g) := by
  obtain ⟨c0, c1, c2, c3, f1, f2, f3⟩ := h.rd.ca
  have hlt := h.lt
  have HE := hid h.place
  have HL : Hid (lo < 256) := (rd1_len l lo l1 hr).2
  have HM := hid (fun o => symbol_ok g s a v l lo l1 hr (w.alloc o) (h.below (new_block w o)))
  clear h hr
  go_enter Tryz.func146, Tryz.ntmps146
  go_wp2_with fail
  refine Calls.mono (HM.out _) ?_
  rintro e w1 ⟨rfl, ⟨a1, hp⟩, hg⟩
  have hZ : Hb w1 w.heap.size z4 := (Hb.new w z4 _ rfl).grown hg (by omega)
  have hg1 := grown_trans (grown_of_below (new_block w (.cells z4.cells 104)) (some g)) hg
  clear c0 c1 c2 c3 f1 f2 f3 hg
  have HZ := hid hZ
  clear hZ
  go_wp2_with fail
  refine Calls.mono (skip_no g s a1 v l1 45 _ rfl _ hp hl1) ?_
  rintro e w2 ⟨rfl, hb2⟩
  have HP := hid (hp.below hb2)
  have HZ2 := hid (HZ.out.below hb2 HZ.out.lt)
  have hg2 := grown_trans hg1 (grown_of_below hb2 _)
  have HG := hid hg2
  clear hp hb2 hg1 hg2 HZ
  go_wp2_with fail
  refine Calls.mono (range_good lo lo HL.out HL.out (Nat.le_refl _) _) ?_
  rintro e w3 ⟨rfl, hb3⟩
  have HP3 := hid (HP.out.below hb3)
  have hZ3 := HZ2.out.below hb3 HZ2.out.lt
  have HG3 := hid (grown_trans HG.out (grown_of_below hb3 _))
  have HR : Hid (lo + 1 - lo = 1) := by show _ = _; omega
  rw [HR.out]
  clear HP HZ2 HG hb3 HM
  obtain ⟨k, hk⟩ : ∃ k, k = rng lo 1 := ⟨_, rfl⟩
  rw [← hk]
  obtain ⟨d0, d1, d2, d3⟩ := hZ3.ca
  have HZ3 := hid hZ3
  have HK := hid hk
  have n0 : ¬ w.heap.size = w3.heap.size := by have := hZ3.lt; omega
  have n1 : ¬ w3.heap.size = w.heap.size := by omega
  have hf : ∀ o i, (w3.alloc o).frozen? ⟨w.heap.size, i, none⟩ = false := fun o i => (hZ3.alloc o).frozen i
  clear hk hZ3
  go_wp2
  have hq := (HZ3.out.alloc (.cells k.cells 104)).put4 k
  have hB : Below w.heap.size w3 (put4 (w3.alloc (.cells k.cells 104)) w.heap.size k) := below_put4 ((Below.refl _ _).alloc (by have := HZ3.out.lt; omega) _) (Nat.le_refl _) k
  refine bodyPost_ret (v := k.v) (by simp [results, Tryz.results146, go_sem, hq.c0, hq.c1, hq.c2, hq.c3]) rfl ⟨by rw [HK.out], ⟨a1, HP3.out.belowB hB hlt⟩, grown_below HG3.out hB⟩
set_option maxHeartbeats 1000000 in
theorem item_two (g : Nat) (s : ByteArray) (a : Nat) (v : Value) (l : List UInt8) (lo : Nat) (l1 : List UInt8) (hr : rd1 l = .ok (lo, l1)) (hl1 : l1.head? = some 45) (hi : Nat) (l2 : List UInt8) (hr2 : rd1 l1.tail = .ok (hi, l2)) (hle : lo ≤ hi) (w : World) (h : PA w g s a v l) :
    Calls Tryz.prog 146 #[.pointer (some ⟨g, 0, none⟩)] w fun e w' => e = .returned (rng lo (hi + 1 - lo)).v ∧ (∃ a', PA w' g s a' v l2) ∧ w.grownBy w' (some g) := by
  obtain ⟨c0, c1, c2, c3, f1, f2, f3⟩ := h.rd.ca
  have hlt := h.lt
  have HE := hid h.place
  have HL : Hid (lo < 256) := (rd1_len l lo l1 hr).2
  have HM := hid (fun o => symbol_ok g s a v l lo l1 hr (w.alloc o) (h.below (new_block w o)))
  clear h hr
  go_enter Tryz.func146, Tryz.ntmps146
  go_wp2_with fail
  refine Calls.mono (HM.out _) ?_
  rintro e w1 ⟨rfl, ⟨a1, hp⟩, hg⟩
  have hZ : Hb w1 w.heap.size z4 := (Hb.new w z4 _ rfl).grown hg (by omega)
  have hg1 := grown_trans (grown_of_below (new_block w (.cells z4.cells 104)) (some g)) hg
  clear c0 c1 c2 c3 f1 f2 f3 hg
  have HZ := hid hZ
  clear hZ
  go_wp2_with fail
  obtain ⟨e1, _⟩ := tail_len l1 _ hl1
  have hp' : PA w1 g s a1 v (45 :: l1.tail) := by rw [← e1]; exact hp
  clear e1 hl1
  refine Calls.mono (skip_yes g s a1 v l1.tail 45 _ rfl _ hp') ?_
  rintro e w2 ⟨rfl, hp2, hg2⟩
  have HZ2 := hid (HZ.out.grown hg2 (by omega))
  have HG := hid (grown_trans hg1 hg2)
  clear hp hp' hg2 hg1 HZ
  go_wp2_with fail
  refine Calls.mono (symbol_ok g s _ v _ hi l2 hr2 _ hp2) ?_
  rintro e w3 ⟨rfl, ⟨a3, hp3⟩, hg3⟩
  have HP := hid hp3
  replace HZ2 := hid (HZ2.out.grown hg3 (by omega))
  replace HG := hid (grown_trans HG.out hg3)
  have HH : Hid (hi < 256) := (rd1_len _ hi l2 hr2).2
  clear hp2 hp3 hg3 hr2
  go_wp2_with fail
  refine Calls.mono (range_good lo hi HL.out HH.out hle _) ?_
  rintro e w4 ⟨rfl, hb3⟩
  have HP3 := hid (HP.out.below hb3)
  have hZ3 := HZ2.out.below hb3 HZ2.out.lt
  have HG3 := hid (grown_trans HG.out (grown_of_below hb3 _))
  clear HP HZ2 HG hb3 HM
  obtain ⟨k, hk⟩ : ∃ k, k = rng lo (hi + 1 - lo) := ⟨_, rfl⟩
  rw [← hk]
  obtain ⟨d0, d1, d2, d3⟩ := hZ3.ca
  have HZ3 := hid hZ3
  have HK := hid hk
  have n0 : ¬ w.heap.size = w4.heap.size := by have := hZ3.lt; omega
  have n1 : ¬ w4.heap.size = w.heap.size := by omega
  have hf : ∀ o i, (w4.alloc o).frozen? ⟨w.heap.size, i, none⟩ = false := fun o i => (hZ3.alloc o).frozen i
  clear hk hZ3
  go_wp2
  have hq := (HZ3.out.alloc (.cells k.cells 104)).put4 k
  have hB : Below w.heap.size w4 (put4 (w4.alloc (.cells k.cells 104)) w.heap.size k) := below_put4 ((Below.refl _ _).alloc (by have := HZ3.out.lt; omega) _) (Nat.le_refl _) k
  refine bodyPost_ret (v := k.v) (by simp [results, Tryz.results146, go_sem, hq.c0, hq.c1, hq.c2, hq.c3]) rfl ⟨by rw [HK.out], ⟨a3, HP3.out.belowB hB hlt⟩, grown_below HG3.out hB⟩
set_option maxHeartbeats 1000000 in
theorem item_bad2 (g : Nat) (s : ByteArray) (a : Nat) (v : Value) (l : List UInt8) (lo : Nat) (l1 : List UInt8) (hr : rd1 l = .ok (lo, l1)) (hl1 : l1.head? = some 45) (k : Nat) (hr2 : rd1 l1.tail = .error k) (w : World) (h : PA w g s a v l) :
    Calls Tryz.prog 146 #[.pointer (some ⟨g, 0, none⟩)] w fun e w' => e = .panicked (mis ((s.size : Int) - (k : Int))) ∧ Stk w' g ∧ w.grownBy w' (some g) := by
  obtain ⟨c0, c1, c2, c3, f1, f2, f3⟩ := h.rd.ca
  have hlt := h.lt
  have HE := hid h.place
  have HL : Hid (lo < 256) := (rd1_len l lo l1 hr).2
  have HM := hid (fun o => symbol_ok g s a v l lo l1 hr (w.alloc o) (h.below (new_block w o)))
  clear h hr
  go_enter Tryz.func146, Tryz.ntmps146
  go_wp2_with fail
  refine Calls.mono (HM.out _) ?_
  rintro e w1 ⟨rfl, ⟨a1, hp⟩, hg⟩
  have hZ : Hb w1 w.heap.size z4 := (Hb.new w z4 _ rfl).grown hg (by omega)
  have hg1 := grown_trans (grown_of_below (new_block w (.cells z4.cells 104)) (some g)) hg
  clear c0 c1 c2 c3 f1 f2 f3 hg
  have HZ := hid hZ
  clear hZ
  go_wp2_with fail
  obtain ⟨e1, _⟩ := tail_len l1 _ hl1
  have hp' : PA w1 g s a1 v (45 :: l1.tail) := by rw [← e1]; exact hp
  clear e1 hl1
  refine Calls.mono (skip_yes g s a1 v l1.tail 45 _ rfl _ hp') ?_
  rintro e w2 ⟨rfl, hp2, hg2⟩
  have HZ2 := hid (HZ.out.grown hg2 (by omega))
  have HG := hid (grown_trans hg1 hg2)
  clear hp hp' hg2 hg1 HZ
  go_wp2_with fail
  refine Calls.mono (symbol_bad g s _ v _ k hr2 _ hp2) ?_
  rintro e w3 ⟨rfl, hs, hg3⟩
  exact ⟨rfl, rfl, hs, grown_trans HG.out hg3⟩
set_option maxHeartbeats 1000000 in
theorem item_bad3 (g : Nat) (s : ByteArray) (a : Nat) (v : Value) (l : List UInt8) (lo : Nat) (l1 : List UInt8) (hr : rd1 l = .ok (lo, l1)) (hl1 : l1.head? = some 45) (hi : Nat) (l2 : List UInt8) (hr2 : rd1 l1.tail = .ok (hi, l2)) (hle : hi < lo) (w : World) (h : PA w g s a v l) :
    Calls Tryz.prog 146 #[.pointer (some ⟨g, 0, none⟩)] w fun e w' => e = .panicked (mis ((s.size : Int) - (l.length : Int))) ∧ Stk w' g ∧ w.grownBy w' (some g) := by
  obtain ⟨c0, c1, c2, c3, f1, f2, f3⟩ := h.rd.ca
  have hlt := h.lt
  have HE := hid h.place
  have HL : Hid (lo < 256) := (rd1_len l lo l1 hr).2
  have HM := hid (fun o => symbol_ok g s a v l lo l1 hr (w.alloc o) (h.below (new_block w o)))
  clear h hr
  go_enter Tryz.func146, Tryz.ntmps146
  go_wp2_with fail
  refine Calls.mono (HM.out _) ?_
  rintro e w1 ⟨rfl, ⟨a1, hp⟩, hg⟩
  have hZ : Hb w1 w.heap.size z4 := (Hb.new w z4 _ rfl).grown hg (by omega)
  have hg1 := grown_trans (grown_of_below (new_block w (.cells z4.cells 104)) (some g)) hg
  clear c0 c1 c2 c3 f1 f2 f3 hg
  have HZ := hid hZ
  clear hZ
  go_wp2_with fail
  obtain ⟨e1, _⟩ := tail_len l1 _ hl1
  have hp' : PA w1 g s a1 v (45 :: l1.tail) := by rw [← e1]; exact hp
  clear e1 hl1
  refine Calls.mono (skip_yes g s a1 v l1.tail 45 _ rfl _ hp') ?_
  rintro e w2 ⟨rfl, hp2, hg2⟩
  have HZ2 := hid (HZ.out.grown hg2 (by omega))
  have HG := hid (grown_trans hg1 hg2)
  clear hp hp' hg2 hg1 HZ
  go_wp2_with fail
  refine Calls.mono (symbol_ok g s _ v _ hi l2 hr2 _ hp2) ?_
  rintro e w3 ⟨rfl, ⟨a3, hp3⟩, hg3⟩
  have HP := hid hp3
  replace HZ2 := hid (HZ2.out.grown hg3 (by omega))
  replace HG := hid (grown_trans HG.out hg3)
  have HH : Hid (hi < 256) := (rd1_len _ hi l2 hr2).2
  clear hp2 hp3 hg3 hr2
  go_wp2_with fail
  refine Calls.mono (range_bad lo hi HL.out HH.out hle _) ?_
  rintro e w4 ⟨rfl, hb4⟩
  have HP3 := hid (HP.out.below hb4)
  have HG3 := hid (grown_trans HG.out (grown_of_below hb4 _))
  clear HP HZ2 HG hb4 HM
  go_wp2_with fail
  refine Calls.mono (misfitAt_any g s _ v false _ _ (HP3.out.below (new_block _ _)).rd) ?_
  rintro e w5 ⟨rfl, hs, hg5⟩
  go_wp2
  refine ⟨rfl, ?_, hs, grown_trans HG3.out (grown_trans (grown_of_below (new_block _ _) _) hg5)⟩
  rw [← HE.out]
  rfl
end Go.Proofs.YtejbififfceamaaGreatDoor
namespace Go.Proofs.YtejbififfceamaaGreatDoor
set_option linter.unusedSimpArgs false
set_option linter.unusedVariables false
set_option maxRecDepth 100000
open Go.RowKit
theorem rng_addTo (lo : Nat) : ∀ n, rng lo n = addTo z4 lo n
  | 0 => rfl
  | n + 1 => by rw [rng, addTo, rng_addTo lo n]
theorem or_rng {c : C4} (hc : c.ok) (lo n : Nat) (h : lo + n ≤ 256) : c.or (rng lo n) = addTo c lo n := by
  apply C4.ext_has (C4.or_ok hc (rng_ok lo n)) (addTo_ok hc lo n)
  intro j hj
  rw [C4.has_or hc (rng_ok lo n), rng_addTo, addTo_has z4_ok lo n h j hj, addTo_has hc lo n h j hj, z4_has]
  simp
/-- A post that does not hang on the frame where it panics. -/
def PanicIs (C : List PanicEntry → List Deferred → World → Prop) (Q : Exit → Act → World → Prop) : Exit → Act → World → Prop
  | .panic c, a, w => C c a.defers w
  | e, a, w => Q e a w
theorem PanicIs.normal {C : List PanicEntry → List Deferred → World → Prop} {Q : Exit → Act → World → Prop} {a : Act} {w : World} (h : Q .normal a w) : PanicIs C Q .normal a w := h
theorem wp_panicIs {c : Code} {Q : Exit → Act → World → Prop} {a : Act} {w : World} (C : List PanicEntry → List Deferred → World → Prop) (hC : ∀ c a w, C c a.defers w → Q (.panic c) a w) (h : c.wp Tryz.prog (PanicIs C Q) a w) : c.wp Tryz.prog Q a w :=
  Code.wp_mono (fun e a w h => by
    cases e <;> first | exact hC _ _ _ h | exact h) h
/-- The deferred call of close. -/
def dclose (g : Nat) (b : Int) : Deferred := { target := .fn (.func 144) #[], args := #[.pointer (some ⟨g, 0, none⟩), .int .u8 b] }
theorem door_stuck (fn : Func) (R : Ending → World → Prop) (tmps : Array Value) (z b : Int) (g : Nat) (w : World) (hs : Stk w g) (hR : ∀ w', Below w.heap.size w w' → R (.panicked (mis z)) w') :
    Leaves Tryz.prog fn tmps R [dclose g b] (.panicking (mis z)) w := by
  refine leaves_cons (f := 144) (args := #[.pointer (some ⟨g, 0, none⟩), .int .u8 b]) (by simp) (by simp [go_sem]) ?_
  refine (close_stuck g b _ w hs).mono ?_
  rintro e u' w' ⟨rfl, rfl, hb⟩
  exact hR w' hb
theorem door_no (fn : Func) (R : Ending → World → Prop) (tmps : Array Value) (b : UInt8) (g : Nat) (s : ByteArray) (a : Nat) (v : Value) (l : List UInt8) (w : World) (hp : PA w g s a v l) (hl : l.head? ≠ some b) (hR : ∀ w', Stk w' g → w.grownBy w' (some g) → R (.panicked (mis ((s.size : Int) - (l.length : Int)))) w') :
    Leaves Tryz.prog fn tmps R [dclose g (b.toNat : Int)] .returning w := by
  refine leaves_cons (f := 144) (args := #[.pointer (some ⟨g, 0, none⟩), .int .u8 (b.toNat : Int)]) (by simp) (by simp [go_sem]) ?_
  refine (close_no g s a v l b _ w hp hl).mono ?_
  rintro e u' w' ⟨rfl, rfl, hs, hg⟩
  exact hR w' hs hg
theorem door_yes (fn : Func) (R : Ending → World → Prop) (tmps : Array Value) (b : UInt8) (g : Nat) (s : ByteArray) (a : Nat) (v : Value) (r : List UInt8) (w : World) (hp : PA w g s a v (b :: r)) (hR : ∀ w', PA w' g s (a + 1) v r → w.grownBy w' (some g) → ∃ x, (results fn tmps).run Tryz.prog w' = .ok x w' ∧ R (.returned x) w') :
    Leaves Tryz.prog fn tmps R [dclose g (b.toNat : Int)] .returning w := by
  refine leaves_cons (f := 144) (args := #[.pointer (some ⟨g, 0, none⟩), .int .u8 (b.toNat : Int)]) (by simp) (by simp [go_sem]) ?_
  refine (close_yes g s a v r b _ w hp).mono ?_
  rintro e u' w' ⟨rfl, rfl, hp', hg⟩
  exact hR w' hp' hg
/-- Where the reader at g stands. -/
def plc (w : World) (g : Nat) : Nat := match w.cell? ⟨g, 1, none⟩ with
  | some (.int _ z) => z.toNat
  | _ => 0
theorem PA.plc {w : World} {g : Nat} {s : ByteArray} {a : Nat} {v : Value} {l : List UInt8} (h : PA w g s a v l) : Go.Proofs.YtejbififfceamaaGreatDoor.plc w g = a := by
  rw [Go.Proofs.YtejbififfceamaaGreatDoor.plc, h.rd.all.2.1]
  simp
end Go.Proofs.YtejbififfceamaaGreatDoor
namespace Go.Proofs.YtejbififfceamaaGreatDoor
set_option linter.unusedSimpArgs false
set_option linter.unusedVariables false
set_option maxRecDepth 100000
open Go.RowKit
/-- One item: from which byte on, how many, what is left. -/
def itm (l : List UInt8) : Except Nat (Nat × Nat × List UInt8) :=
  match rd1 l with
  | .error k => .error k
  | .ok (lo, l1) =>
    if l1.head? = some 45 then
      match rd1 l1.tail with
      | .error k => .error k
      | .ok (hi, l2) => if hi < lo then .error l.length else .ok (lo, hi + 1 - lo, l2)
    else .ok (lo, 1, l1)
theorem items_itm (f : Nat) (c : C4) (l : List UInt8) (h : l.head? ≠ some 93) : items (f + 1) c l = match itm l with
    | .error k => .error k
    | .ok (lo, n, r) => items f (addTo c lo n) r := by
  rw [items, if_neg h, itm]
  cases rd1 l with
  | error k => rfl
  | ok p =>
    obtain ⟨lo, l1⟩ := p
    simp only
    split
    · cases rd1 l1.tail with
      | error k => rfl
      | ok q =>
        obtain ⟨hi, l2⟩ := q
        simp only
        split <;> rfl
    · simp only
      rfl
theorem itm_len (l : List UInt8) (lo n : Nat) (r : List UInt8) (h : itm l = .ok (lo, n, r)) : lo + n ≤ 256 ∧ r.length < l.length := by
  rw [itm] at h
  cases h1 : rd1 l with
  | error k => rw [h1] at h; cases h
  | ok p =>
    obtain ⟨lo', l1⟩ := p
    have g1 := rd1_len l lo' l1 h1
    rw [h1] at h
    simp only at h
    split at h
    · rename_i hh
      have g2 := (tail_len l1 _ hh).2
      cases h2 : rd1 l1.tail with
      | error k => rw [h2] at h; cases h
      | ok q =>
        obtain ⟨hi, l2⟩ := q
        have g3 := rd1_len _ hi l2 h2
        rw [h2] at h
        simp only at h
        split at h
        · cases h
        · injection h with h
          injection h with ha hb
          injection hb with hb hc
          subst ha; subst hb; subst hc
          omega
    · injection h with h
      injection h with ha hb
      injection hb with hb hc
      subst ha; subst hb; subst hc
      omega
theorem item_ok (g : Nat) (s : ByteArray) (a : Nat) (v : Value) (l : List UInt8) (lo n : Nat) (r : List UInt8) (hr : itm l = .ok (lo, n, r)) (w : World) (h : PA w g s a v l) :
    Calls Tryz.prog 146 #[.pointer (some ⟨g, 0, none⟩)] w fun e w' => e = .returned (rng lo n).v ∧ (∃ a', PA w' g s a' v r) ∧ w.grownBy w' (some g) := by
  rw [itm] at hr
  cases h1 : rd1 l with
  | error k => rw [h1] at hr; cases hr
  | ok p =>
    obtain ⟨lo', l1⟩ := p
    rw [h1] at hr
    simp only at hr
    split at hr
    · rename_i hh
      cases h2 : rd1 l1.tail with
      | error k => rw [h2] at hr; cases hr
      | ok q =>
        obtain ⟨hi, l2⟩ := q
        rw [h2] at hr
        simp only at hr
        split at hr
        · cases hr
        · rename_i hlo
          injection hr with hr
          injection hr with ha hb
          injection hb with hb hc
          subst ha; subst hb; subst hc
          exact item_two g s a v l lo' l1 h1 hh hi l2 h2 (by omega) w h
    · rename_i hh
      injection hr with hr
      injection hr with ha hb
      injection hb with hb hc
      subst ha; subst hb; subst hc
      exact item_one g s a v l lo' l1 h1 hh w h
theorem item_bad (g : Nat) (s : ByteArray) (a : Nat) (v : Value) (l : List UInt8) (k : Nat) (hr : itm l = .error k) (w : World) (h : PA w g s a v l) :
    Calls Tryz.prog 146 #[.pointer (some ⟨g, 0, none⟩)] w fun e w' => e = .panicked (mis ((s.size : Int) - (k : Int))) ∧ Stk w' g ∧ w.grownBy w' (some g) := by
  rw [itm] at hr
  cases h1 : rd1 l with
  | error k' =>
    rw [h1] at hr
    injection hr with hr
    subst hr
    exact item_bad1 g s a v l k' h1 w h
  | ok p =>
    obtain ⟨lo', l1⟩ := p
    rw [h1] at hr
    simp only at hr
    split at hr
    · rename_i hh
      cases h2 : rd1 l1.tail with
      | error k' =>
        rw [h2] at hr
        injection hr with hr
        subst hr
        exact item_bad2 g s a v l lo' l1 h1 hh k' h2 w h
      | ok q =>
        obtain ⟨hi, l2⟩ := q
        rw [h2] at hr
        simp only at hr
        split at hr
        · rename_i hlo
          injection hr with hr
          subst hr
          exact item_bad3 g s a v l lo' l1 h1 hh hi l2 h2 hlo w h
        · cases hr
    · cases hr
end Go.Proofs.YtejbififfceamaaGreatDoor
