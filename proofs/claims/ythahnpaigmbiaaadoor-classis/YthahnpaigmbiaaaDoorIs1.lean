/- The law ClassIs, walked: every call by its contract. -/
import Derived.Test.YthahnpaigmbiaaaDoorRng
set_option linter.unusedSimpArgs false
set_option linter.unusedVariables false
namespace Go.Proofs.YthahnpaigmbiaaaDoor
open Go.RowKit

/-- The class of the bytes below n of which p tells. -/
def sel (p : Nat → Bool) : Nat → C4
  | 0 => z4
  | i + 1 => if p i then (sel p i).add (i : Int) else sel p i
theorem sel_ok (p : Nat → Bool) : ∀ i, (sel p i).ok
  | 0 => z4_ok
  | i + 1 => by
    rw [sel]
    split
    · exact C4.add_ok (sel_ok p i) i
    · exact sel_ok p i
theorem sel_has (p : Nat → Bool) (n : Nat) (hn : n < 256) : ∀ i, i ≤ 256 → (sel p i).has n = (decide (n < i) && p n)
  | 0, _ => by rw [sel, z4_has]; simp
  | i + 1, hi => by
    have ih := sel_has p n hn i (by omega)
    rw [sel]
    by_cases hk : p i = true
    · rw [if_pos hk, C4.has_add (sel_ok p i) i n (by omega) hn, ih]
      by_cases e : i = n
      · subst e; simp [hk]
      · have : (n < i + 1) ↔ (n < i) := by omega
        simp only [this, e, decide_false, Bool.or_false]
    · rw [if_neg hk, ih]
      by_cases e : n = i
      · subst e; simp [hk]
      · have : (n < i + 1) ↔ (n < i) := by omega
        simp only [this]
theorem sel_and {a b : C4} (ha : a.ok) (hb : b.ok) : sel (fun i => a.has i && b.has i) 256 = a.and b := by
  apply C4.ext_has (sel_ok _ 256) (C4.and_ok ha hb)
  intro i hi
  rw [sel_has _ i hi 256 (Nat.le_refl _), C4.has_and ha hb]
  simp [hi]
theorem sel_or {a b : C4} (ha : a.ok) (hb : b.ok) : sel (fun i => a.has i || b.has i) 256 = a.or b := by
  apply C4.ext_has (sel_ok _ 256) (C4.or_ok ha hb)
  intro i hi
  rw [sel_has _ i hi 256 (Nat.le_refl _), C4.has_or ha hb]
  simp [hi]
theorem has_n (k : C4) (hk : k.ok) (i : Nat) (hi : i < 256) (w : World) :
    Calls Tryd.prog 16 #[k.v, .int .u8 i] w fun e w' => e = .returned (.bool (k.has i)) ∧ Below w.heap.size w w' := by
  rw [← C4.hasI_eq k hk i]
  exact has_any k i w (by omega) (by omega)
theorem many_n (k : C4) (hk : k.ok) (w : World) :
    Calls Tryd.prog 11 #[k.v] w fun e w' => e = .returned (.int .i64 ((cnt k.has 256 : Nat) : Int)) ∧ Below w.heap.size w w' := by
  rw [← many_cnt hk]
  exact many_any k w

theorem cell_of_below {w w' : World} {v : Value} (h : Below w.heap.size w w') (hE : w.cell? ⟨0, 0, none⟩ = some v) : w'.cell? ⟨0, 0, none⟩ = some v := cell_later h hE
set_option maxHeartbeats 4000000 in
set_option maxRecDepth 100000 in
theorem is_bad (a b : C4) (ha : a.ok) (hb : b.ok) (s : ByteArray) (hs : s.size ≤ maxLen) (lo hi : Nat) (hl : lo < 256) (hh : hi < 256) (hr : hi < lo) (w : World) (hE : w.cell? ⟨0, 0, none⟩ = some (rty 28)) :
    Calls Tryd.prog 3 #[a.v, b.v, .string s, .int .u8 lo, .int .u8 hi] w fun e w' => e = .returned (.bool true) ∧ Below w.heap.size w w' := by
    have he := eq4
    have hself : ∀ x : C4, x.eqb x = true := eqb_self
    have h2 : (hi : Int) < (lo : Int) := by omega
    have ew : Hid (rngOf lo hi = z4) := by show _ = _; rw [rngOf, if_pos hr]
    have ee : (rngErr lo hi == 1) = true := by rw [rngErr, if_pos hr]; rfl
    have fA : Hb (((w.alloc (.cells a.cells 24)).alloc (.cells b.cells 24)).alloc (.cells z4.cells 24)) w.heap.size a := ((Hb.new _ a _ rfl).alloc _).alloc _
    have fB : Hb (((w.alloc (.cells a.cells 24)).alloc (.cells b.cells 24)).alloc (.cells z4.cells 24)) (w.heap.size + 1) b := (Hb.new _ b _ (by simp)).alloc _
    have fW : Hb (((w.alloc (.cells a.cells 24)).alloc (.cells b.cells 24)).alloc (.cells z4.cells 24)) (w.heap.size + 1 + 1) (rngOf lo hi) := by rw [ew.out]; exact Hb.new _ z4 _ (by simp)
    have gW : Below w.heap.size w (((w.alloc (.cells a.cells 24)).alloc (.cells b.cells 24)).alloc (.cells z4.cells 24)) := (((Below.refl _ _).alloc (Nat.le_refl _) _).alloc (by simp) _).alloc (by simp; omega) _
    go_enter Tryd.func3, Tryd.ntmps3

    -- Range, and its error
    go_wp2_with fail
    refine (range_any lo hi hl hh _).mono ?_
    rintro e w1 ⟨rfl, hb1⟩
    have fA1 := fA.below hb1 fA.lt
    have fB1 := fB.below hb1 fB.lt
    have fW1 := fW.below hb1 fW.lt
    have g1 := gW.trans (hb1.mono gW.size)
    have g2 := g1.alloc g1.size (.cells (rngOf lo hi).cells 24)
    have hz1 := fW1.lt
    go_wp2_with fail
    refine (error_any (rngErr lo hi) _ _ (cell_of_below g2 hE)).mono ?_
    rintro e w3 ⟨rfl, hb3⟩
    have fA3 := (fA1.alloc _).below hb3 (fA1.alloc _).lt
    have fB3 := (fB1.alloc _).below hb3 (fB1.alloc _).lt
    have fW3 := (fW1.alloc _).below hb3 (fW1.alloc _).lt
    have fC3 : Hb w3 w1.heap.size (rngOf lo hi) := (Hb.new w1 (rngOf lo hi) _ rfl).below hb3 (by simp)
    have g3 := g2.trans (hb3.mono g2.size)
    generalize hbc : w1.heap.size = bc at *
    clear hbc fA fB fW fA1 fB1 fW1 hb1 hb3 g1 g2 gW
    go_wp2_with fail
    -- the great test
    obtain ⟨a0, a1, a2, a3⟩ := fA3.cr
    obtain ⟨d0, d1, d2, d3⟩ := fW3.cr
    obtain ⟨c0, c1, c2, c3⟩ := fC3.cr
    refine wp_region_quiet_below (by kernel_rfl) (by kernel_rfl) ?_
    repeat (quiet_step (first
      | (go_at_call 7; exact Calls.regrown_of (of_any _ _ hs))
      | (go_at_call 8; exact Calls.regrown_of (ofText_any _ _ hs))
      | (go_at_call 9; exact Calls.regrown_of (not_any _ _))
      | (go_at_call 10; exact Calls.regrown_of (others_any a ha _))
      | (go_at_call 11; exact Calls.regrown_of (many_n a ha _))
      | (go_at_call 12; exact Calls.regrown_of (count_any a ha _))
      | (go_at_call 13; exact Calls.regrown_of (text_any _ _))
      | (go_at_call 14; exact Calls.regrown_of (classText_any a ha _))))
    refine wpQuiet_nil ?_
    intro _ hw'
    obtain ⟨⟨dq, osq⟩, hw''⟩ := hw'
    have hb4 := below_regrown w3 dq osq
    have g4 := g3.trans (hb4.mono g3.size)
    have fA4 := fA3.below hb4 fA3.lt
    have fB4 := fB3.below hb4 fB3.lt
    subst hw''
    clear a0 a1 a2 a3 d0 d1 d2 d3 c0 c1 c2 c3
    generalize hgw : Go.Sort.grow (redrawn w3 dq) osq = w4 at *
    clear hgw hb4 fA3 fB3 fW3 fC3 g3 hz1
    -- byte by byte
    go_wp2_with fail
    go_loopw [19] (fun v wr => ∃ i : Nat, i ≤ 256 ∧ v = .int .i64 i ∧ Below w.heap.size w wr ∧ Hb wr w.heap.size a ∧ Hb wr (w.heap.size + 1) b ∧ Hb wr w4.heap.size (sel (fun i => a.has i && b.has i) i) ∧ Hb wr (w4.heap.size + 1) (sel (fun i => a.has i || b.has i) i)) (fun v _ => 256 - (intOf v).toNat)
    case atStart =>
      refine ⟨0, by omega, rfl, ?_, ?_, ?_, ?_, ?_⟩
      · exact (g4.alloc g4.size _).alloc (by have := g4.size; simp; omega) _
      · exact (fA4.alloc _).alloc _
      · exact (fB4.alloc _).alloc _
      · exact (Hb.new w4 z4 _ rfl).alloc _
      · exact Hb.new _ z4 _ (by simp)
    case round =>
      obtain ⟨i, hi2, rfl, hB, hA, hBb, hX, hY⟩ := hrel
      have ltA := fA4.lt
      have ltB := fB4.lt
      by_cases hlt : i < 256
      · have i1 : (i : Int) < 256 := by omega
        obtain ⟨a0, a1, a2, a3, af0, af1, af2, af3⟩ := hA.all
        go_wp2_with fail
        refine (in_any a ha i hlt _).mono ?_
        rintro e w5 ⟨rfl, hb5⟩
        have hB5 := hB.trans (hb5.mono hB.size)
        have hA5 := hA.below hb5 hA.lt
        have hBb5 := hBb.below hb5 hBb.lt
        have hX5 := hX.below hb5 hX.lt
        have hY5 := hY.below hb5 hY.lt
        clear a0 a1 a2 a3 af0 af1 af2 af3
        obtain ⟨a0, a1, a2, a3, af0, af1, af2, af3⟩ := hBb5.all
        go_wp2_with fail
        refine (in_any b hb i hlt _).mono ?_
        rintro e w6 ⟨rfl, hb6⟩
        have hB6 := hB5.trans (hb6.mono hB5.size)
        have hA6 := hA5.below hb6 hA5.lt
        have hBb6 := hBb5.below hb6 hBb5.lt
        have hX6 := hX5.below hb6 hX5.lt
        have hY6 := hY5.below hb6 hY5.lt
        clear a0 a1 a2 a3 af0 af1 af2 af3
        obtain ⟨a0, a1, a2, a3, af0, af1, af2, af3⟩ := hA6.all
        go_wp2_with fail
        refine (has_n a ha i hlt _).mono ?_
        rintro e w7 ⟨rfl, hb7⟩
        have hB7 := hB6.trans (hb7.mono hB6.size)
        have hA7 := hA6.below hb7 hA6.lt
        have hBb7 := hBb6.below hb7 hBb6.lt
        have hX7 := hX6.below hb7 hX6.lt
        have hY7 := hY6.below hb7 hY6.lt
        clear a0 a1 a2 a3 af0 af1 af2 af3 hB hA hBb hX hY hb5 hB5 hA5 hBb5 hX5 hY5 hb6 hB6 hA6 hBb6 hX6 hY6 hb7
        cases ca : a.has i <;> cases cb : b.has i
        · have sx : Hid (sel (fun i => a.has i && b.has i) (i + 1) = sel (fun i => a.has i && b.has i) i) := by show _ = _; rw [sel]; simp [ca]
          have sy : Hid (sel (fun i => a.has i || b.has i) (i + 1) = sel (fun i => a.has i || b.has i) i) := by show _ = _; rw [sel]; simp [ca, cb]
          go_wp2
          refine ⟨⟨i + 1, by omega, by go_num, hB7, hA7, hBb7, ?_, ?_⟩, by simp [intOf]; omega⟩
          · rw [sx.out]; exact hX7
          · rw [sy.out]; exact hY7
        · have sx : Hid (sel (fun i => a.has i && b.has i) (i + 1) = sel (fun i => a.has i && b.has i) i) := by show _ = _; rw [sel]; simp [ca]
          have sy : Hid (sel (fun i => a.has i || b.has i) (i + 1) = (sel (fun i => a.has i || b.has i) i).add (i : Int)) := by show _ = _; rw [sel]; simp [cb]
          obtain ⟨y0, y1, y2, y3, yf0, yf1, yf2, yf3⟩ := hY7.all
          go_wp2_with fail
          refine (withR_any _ (sel_ok _ i) i hlt _).mono ?_
          rintro e w8 ⟨rfl, hb8⟩
          have hY8 := hY7.below hb8 hY7.lt
          obtain ⟨z0, z1, z2, z3, zf0, zf1, zf2, zf3⟩ := hY8.all
          go_wp2
          refine ⟨⟨i + 1, by omega, by go_num, ?_, ?_, ?_, ?_, ?_⟩, by simp [intOf]; omega⟩
          · exact below_put4 (hB7.trans (hb8.mono hB7.size)) (by omega) _
          · exact Hb.other4 (hA7.below hb8 hA7.lt) _ (by omega)
          · exact Hb.other4 (hBb7.below hb8 hBb7.lt) _ (by omega)
          · rw [sx.out]; exact Hb.other4 (hX7.below hb8 hX7.lt) _ (by omega)
          · rw [sy.out]; exact hY8.put4 _
        · have sx : Hid (sel (fun i => a.has i && b.has i) (i + 1) = sel (fun i => a.has i && b.has i) i) := by show _ = _; rw [sel]; simp [cb]
          have sy : Hid (sel (fun i => a.has i || b.has i) (i + 1) = (sel (fun i => a.has i || b.has i) i).add (i : Int)) := by show _ = _; rw [sel]; simp [ca]
          obtain ⟨y0, y1, y2, y3, yf0, yf1, yf2, yf3⟩ := hY7.all
          go_wp2_with fail
          refine (withR_any _ (sel_ok _ i) i hlt _).mono ?_
          rintro e w8 ⟨rfl, hb8⟩
          have hY8 := hY7.below hb8 hY7.lt
          obtain ⟨z0, z1, z2, z3, zf0, zf1, zf2, zf3⟩ := hY8.all
          go_wp2
          refine ⟨⟨i + 1, by omega, by go_num, ?_, ?_, ?_, ?_, ?_⟩, by simp [intOf]; omega⟩
          · exact below_put4 (hB7.trans (hb8.mono hB7.size)) (by omega) _
          · exact Hb.other4 (hA7.below hb8 hA7.lt) _ (by omega)
          · exact Hb.other4 (hBb7.below hb8 hBb7.lt) _ (by omega)
          · rw [sx.out]; exact Hb.other4 (hX7.below hb8 hX7.lt) _ (by omega)
          · rw [sy.out]; exact hY8.put4 _
        · have sx : Hid (sel (fun i => a.has i && b.has i) (i + 1) = (sel (fun i => a.has i && b.has i) i).add (i : Int)) := by show _ = _; rw [sel]; simp [ca, cb]
          have sy : Hid (sel (fun i => a.has i || b.has i) (i + 1) = (sel (fun i => a.has i || b.has i) i).add (i : Int)) := by show _ = _; rw [sel]; simp [ca]
          obtain ⟨y0, y1, y2, y3, yf0, yf1, yf2, yf3⟩ := hX7.all
          go_wp2_with fail
          refine (withR_any _ (sel_ok _ i) i hlt _).mono ?_
          rintro e w8 ⟨rfl, hb8⟩
          have hX8 := hX7.below hb8 hX7.lt
          obtain ⟨z0, z1, z2, z3, zf0, zf1, zf2, zf3⟩ := hX8.all
          have hX9 := hX8.put4 ((sel (fun i => a.has i && b.has i) i).add (i : Int))
          have hY9 := Hb.other4 (hY7.below hb8 hY7.lt) ((sel (fun i => a.has i && b.has i) i).add (i : Int)) (c := w4.heap.size) (by omega)
          have hA9 := Hb.other4 (hA7.below hb8 hA7.lt) ((sel (fun i => a.has i && b.has i) i).add (i : Int)) (c := w4.heap.size) (by omega)
          have hBb9 := Hb.other4 (hBb7.below hb8 hBb7.lt) ((sel (fun i => a.has i && b.has i) i).add (i : Int)) (c := w4.heap.size) (by omega)
          have hB9 := below_put4 (hB7.trans (hb8.mono hB7.size)) (b := w4.heap.size) (by omega) ((sel (fun i => a.has i && b.has i) i).add (i : Int))
          obtain ⟨v0, v1, v2, v3, vf0, vf1, vf2, vf3⟩ := hY9.all
          go_wp2_with fail
          refine (withR_any _ (sel_ok _ i) i hlt _).mono ?_
          rintro e w10 ⟨rfl, hb10⟩
          have hY10 := hY9.below hb10 hY9.lt
          obtain ⟨u0, u1, u2, u3, uf0, uf1, uf2, uf3⟩ := hY10.all
          go_wp2
          refine ⟨⟨i + 1, by omega, by go_num, ?_, ?_, ?_, ?_, ?_⟩, by simp [intOf]; omega⟩
          · exact below_put4 (hB9.trans (hb10.mono hB9.size)) (by omega) _
          · exact Hb.other4 (hA9.below hb10 hA9.lt) _ (by omega)
          · exact Hb.other4 (hBb9.below hb10 hBb9.lt) _ (by omega)
          · rw [sx.out]; exact Hb.other4 (hX9.below hb10 hX9.lt) _ (by omega)
          · rw [sy.out]; exact hY10.put4 _
      · have hi3 : i = 256 := by omega
        subst hi3
        rw [sel_and ha hb] at hX
        rw [sel_or ha hb] at hY
        obtain ⟨a0, a1, a2, a3⟩ := hA.cr
        obtain ⟨b0, b1, b2, b3⟩ := hBb.cr
        obtain ⟨x0, x1, x2, x3⟩ := hX.cr
        obtain ⟨y0, y1, y2, y3⟩ := hY.cr
        go_wp2_with fail
        refine wp_region_quiet_below (by kernel_rfl) (by kernel_rfl) ?_
        repeat (quiet_step (first
          | (go_at_call 17; exact Calls.regrown_of (both_any _ _ _))
          | (go_at_call 18; exact Calls.regrown_of (either_any _ _ _))))
        refine wpQuiet_nil ?_
        intro _ hw'
        obtain ⟨⟨dq, osq⟩, hw''⟩ := hw'
        have hbz := below_regrown wr dq osq
        have gz := hB.trans (hbz.mono hB.size)
        subst hw''
        go_wp2
        go_ret
        exact ⟨rfl, gz⟩
set_option maxHeartbeats 4000000 in
set_option maxRecDepth 100000 in
theorem is_good (a b : C4) (ha : a.ok) (hb : b.ok) (s : ByteArray) (hs : s.size ≤ maxLen) (lo hi : Nat) (hl : lo < 256) (hh : hi < 256) (hr : ¬ hi < lo) (w : World) (hE : w.cell? ⟨0, 0, none⟩ = some (rty 28)) :
    Calls Tryd.prog 3 #[a.v, b.v, .string s, .int .u8 lo, .int .u8 hi] w fun e w' => e = .returned (.bool true) ∧ Below w.heap.size w w' := by
    have he := eq4
    have hself : ∀ x : C4, x.eqb x = true := eqb_self
    have h2 : ¬ (hi : Int) < (lo : Int) := by omega
    have ew : Hid (rngOf lo hi = rng lo (hi + 1 - lo)) := by show _ = _; rw [rngOf, if_neg hr]
    have ee : (rngErr lo hi == 0) = true := by rw [rngErr, if_neg hr]; rfl
    go_enter Tryd.func3, Tryd.ntmps3
    go_wp2_with fail
    go_loopw [13] (fun v wr => ∃ n : Nat, n ≤ hi + 1 - lo ∧ v = .int .i64 ((lo : Int) + (n : Int)) ∧ Below w.heap.size w wr ∧ Hb wr w.heap.size a ∧ Hb wr (w.heap.size + 1) b ∧ Hb wr (w.heap.size + 1 + 1) (rng lo n)) (fun v _ => hi + 1 - (intOf v).toNat)
    case atStart =>
      refine ⟨0, by omega, by go_num, ?_, ?_, ?_, ?_⟩
      · exact (((Below.refl _ _).alloc (Nat.le_refl _) _).alloc (by simp) _).alloc (by simp; omega) _
      · exact ((Hb.new _ a _ rfl).alloc _).alloc _
      · exact (Hb.new _ b _ (by simp)).alloc _
      · exact Hb.new _ z4 _ (by simp)
    case round =>
     obtain ⟨n, hn, rfl, gW, fA, fB, fR⟩ := hrel
     by_cases hlt0 : n < hi + 1 - lo
     · have i1 : (lo : Int) + (n : Int) ≤ (hi : Int) := by omega
       have HR : Hid (rng lo (n + 1) = (rng lo n).add ((lo : Int) + (n : Int))) := by show _ = _; rw [rng, Int.natCast_add]
       obtain ⟨c0, c1, c2, c3, e0, e1, e2, e3⟩ := fR.all
       go_wp2_with fail
       refine (withR_z (rng lo n) (rng_ok lo n) _ (by omega) (by omega) _).mono ?_
       rintro e w1 ⟨rfl, hb1⟩
       have hC1 := fR.below hb1 fR.lt
       obtain ⟨q0, q1, q2, q3, p0, p1, p2, p3⟩ := hC1.all
       go_wp2
       refine ⟨⟨n + 1, by omega, by go_num, ?_, ?_, ?_, ?_⟩, by simp [intOf]; omega⟩
       · exact below_put4 (gW.trans (hb1.mono gW.size)) (by omega) _
       · exact Hb.other4 (fA.below hb1 fA.lt) _ (by omega)
       · exact Hb.other4 (fB.below hb1 fB.lt) _ (by omega)
       · rw [HR.out]; exact hC1.put4 _
     · have i1 : ¬ (lo : Int) + (n : Int) ≤ (hi : Int) := by omega
       have hn2 : n = hi + 1 - lo := by omega
       have fW : Hb wr (w.heap.size + 1 + 1) (rngOf lo hi) := by rw [ew.out, ← hn2]; exact fR
       clear hn2 fR
       -- Range, and its error
       go_wp2_with fail
       refine (range_any lo hi hl hh _).mono ?_
       rintro e w1 ⟨rfl, hb1⟩
       have fA1 := fA.below hb1 fA.lt
       have fB1 := fB.below hb1 fB.lt
       have fW1 := fW.below hb1 fW.lt
       have g1 := gW.trans (hb1.mono gW.size)
       have g2 := g1.alloc g1.size (.cells (rngOf lo hi).cells 24)
       have hz1 := fW1.lt
       go_wp2_with fail
       refine (error_any (rngErr lo hi) _ _ (cell_of_below g2 hE)).mono ?_
       rintro e w3 ⟨rfl, hb3⟩
       have fA3 := (fA1.alloc _).below hb3 (fA1.alloc _).lt
       have fB3 := (fB1.alloc _).below hb3 (fB1.alloc _).lt
       have fW3 := (fW1.alloc _).below hb3 (fW1.alloc _).lt
       have fC3 : Hb w3 w1.heap.size (rngOf lo hi) := (Hb.new w1 (rngOf lo hi) _ rfl).below hb3 (by simp)
       have g3 := g2.trans (hb3.mono g2.size)
       generalize hbc : w1.heap.size = bc at *
       clear hbc fA fB fW fA1 fB1 fW1 hb1 hb3 g1 g2 gW
       go_wp2_with fail
       -- the great test
       obtain ⟨a0, a1, a2, a3⟩ := fA3.cr
       obtain ⟨d0, d1, d2, d3⟩ := fW3.cr
       obtain ⟨c0, c1, c2, c3⟩ := fC3.cr
       refine wp_region_quiet_below (by kernel_rfl) (by kernel_rfl) ?_
       repeat (quiet_step (first
         | (go_at_call 7; exact Calls.regrown_of (of_any _ _ hs))
         | (go_at_call 8; exact Calls.regrown_of (ofText_any _ _ hs))
         | (go_at_call 9; exact Calls.regrown_of (not_any _ _))
         | (go_at_call 10; exact Calls.regrown_of (others_any a ha _))
         | (go_at_call 11; exact Calls.regrown_of (many_n a ha _))
         | (go_at_call 12; exact Calls.regrown_of (count_any a ha _))
         | (go_at_call 13; exact Calls.regrown_of (text_any _ _))
         | (go_at_call 14; exact Calls.regrown_of (classText_any a ha _))))
       refine wpQuiet_nil ?_
       intro _ hw'
       obtain ⟨⟨dq, osq⟩, hw''⟩ := hw'
       have hb4 := below_regrown w3 dq osq
       have g4 := g3.trans (hb4.mono g3.size)
       have fA4 := fA3.below hb4 fA3.lt
       have fB4 := fB3.below hb4 fB3.lt
       subst hw''
       clear a0 a1 a2 a3 d0 d1 d2 d3 c0 c1 c2 c3
       generalize hgw : Go.Sort.grow (redrawn w3 dq) osq = w4 at *
       clear hgw hb4 fA3 fB3 fW3 fC3 g3 hz1
       -- byte by byte
       go_wp2_with fail
       go_loopw [19] (fun v wr => ∃ i : Nat, i ≤ 256 ∧ v = .int .i64 i ∧ Below w.heap.size w wr ∧ Hb wr w.heap.size a ∧ Hb wr (w.heap.size + 1) b ∧ Hb wr w4.heap.size (sel (fun i => a.has i && b.has i) i) ∧ Hb wr (w4.heap.size + 1) (sel (fun i => a.has i || b.has i) i)) (fun v _ => 256 - (intOf v).toNat)
       case atStart =>
         refine ⟨0, by omega, rfl, ?_, ?_, ?_, ?_, ?_⟩
         · exact (g4.alloc g4.size _).alloc (by have := g4.size; simp; omega) _
         · exact (fA4.alloc _).alloc _
         · exact (fB4.alloc _).alloc _
         · exact (Hb.new w4 z4 _ rfl).alloc _
         · exact Hb.new _ z4 _ (by simp)
       case round =>
         obtain ⟨i, hi2, rfl, hB, hA, hBb, hX, hY⟩ := hrel
         have ltA := fA4.lt
         have ltB := fB4.lt
         by_cases hlt : i < 256
         · have i1 : (i : Int) < 256 := by omega
           obtain ⟨a0, a1, a2, a3, af0, af1, af2, af3⟩ := hA.all
           go_wp2_with fail
           refine (in_any a ha i hlt _).mono ?_
           rintro e w5 ⟨rfl, hb5⟩
           have hB5 := hB.trans (hb5.mono hB.size)
           have hA5 := hA.below hb5 hA.lt
           have hBb5 := hBb.below hb5 hBb.lt
           have hX5 := hX.below hb5 hX.lt
           have hY5 := hY.below hb5 hY.lt
           clear a0 a1 a2 a3 af0 af1 af2 af3
           obtain ⟨a0, a1, a2, a3, af0, af1, af2, af3⟩ := hBb5.all
           go_wp2_with fail
           refine (in_any b hb i hlt _).mono ?_
           rintro e w6 ⟨rfl, hb6⟩
           have hB6 := hB5.trans (hb6.mono hB5.size)
           have hA6 := hA5.below hb6 hA5.lt
           have hBb6 := hBb5.below hb6 hBb5.lt
           have hX6 := hX5.below hb6 hX5.lt
           have hY6 := hY5.below hb6 hY5.lt
           clear a0 a1 a2 a3 af0 af1 af2 af3
           obtain ⟨a0, a1, a2, a3, af0, af1, af2, af3⟩ := hA6.all
           go_wp2_with fail
           refine (has_n a ha i hlt _).mono ?_
           rintro e w7 ⟨rfl, hb7⟩
           have hB7 := hB6.trans (hb7.mono hB6.size)
           have hA7 := hA6.below hb7 hA6.lt
           have hBb7 := hBb6.below hb7 hBb6.lt
           have hX7 := hX6.below hb7 hX6.lt
           have hY7 := hY6.below hb7 hY6.lt
           clear a0 a1 a2 a3 af0 af1 af2 af3 hB hA hBb hX hY hb5 hB5 hA5 hBb5 hX5 hY5 hb6 hB6 hA6 hBb6 hX6 hY6 hb7
           cases ca : a.has i <;> cases cb : b.has i
           · have sx : Hid (sel (fun i => a.has i && b.has i) (i + 1) = sel (fun i => a.has i && b.has i) i) := by show _ = _; rw [sel]; simp [ca]
             have sy : Hid (sel (fun i => a.has i || b.has i) (i + 1) = sel (fun i => a.has i || b.has i) i) := by show _ = _; rw [sel]; simp [ca, cb]
             go_wp2
             refine ⟨⟨i + 1, by omega, by go_num, hB7, hA7, hBb7, ?_, ?_⟩, by simp [intOf]; omega⟩
             · rw [sx.out]; exact hX7
             · rw [sy.out]; exact hY7
           · have sx : Hid (sel (fun i => a.has i && b.has i) (i + 1) = sel (fun i => a.has i && b.has i) i) := by show _ = _; rw [sel]; simp [ca]
             have sy : Hid (sel (fun i => a.has i || b.has i) (i + 1) = (sel (fun i => a.has i || b.has i) i).add (i : Int)) := by show _ = _; rw [sel]; simp [cb]
             obtain ⟨y0, y1, y2, y3, yf0, yf1, yf2, yf3⟩ := hY7.all
             go_wp2_with fail
             refine (withR_any _ (sel_ok _ i) i hlt _).mono ?_
             rintro e w8 ⟨rfl, hb8⟩
             have hY8 := hY7.below hb8 hY7.lt
             obtain ⟨z0, z1, z2, z3, zf0, zf1, zf2, zf3⟩ := hY8.all
             go_wp2
             refine ⟨⟨i + 1, by omega, by go_num, ?_, ?_, ?_, ?_, ?_⟩, by simp [intOf]; omega⟩
             · exact below_put4 (hB7.trans (hb8.mono hB7.size)) (by omega) _
             · exact Hb.other4 (hA7.below hb8 hA7.lt) _ (by omega)
             · exact Hb.other4 (hBb7.below hb8 hBb7.lt) _ (by omega)
             · rw [sx.out]; exact Hb.other4 (hX7.below hb8 hX7.lt) _ (by omega)
             · rw [sy.out]; exact hY8.put4 _
           · have sx : Hid (sel (fun i => a.has i && b.has i) (i + 1) = sel (fun i => a.has i && b.has i) i) := by show _ = _; rw [sel]; simp [cb]
             have sy : Hid (sel (fun i => a.has i || b.has i) (i + 1) = (sel (fun i => a.has i || b.has i) i).add (i : Int)) := by show _ = _; rw [sel]; simp [ca]
             obtain ⟨y0, y1, y2, y3, yf0, yf1, yf2, yf3⟩ := hY7.all
             go_wp2_with fail
             refine (withR_any _ (sel_ok _ i) i hlt _).mono ?_
             rintro e w8 ⟨rfl, hb8⟩
             have hY8 := hY7.below hb8 hY7.lt
             obtain ⟨z0, z1, z2, z3, zf0, zf1, zf2, zf3⟩ := hY8.all
             go_wp2
             refine ⟨⟨i + 1, by omega, by go_num, ?_, ?_, ?_, ?_, ?_⟩, by simp [intOf]; omega⟩
             · exact below_put4 (hB7.trans (hb8.mono hB7.size)) (by omega) _
             · exact Hb.other4 (hA7.below hb8 hA7.lt) _ (by omega)
             · exact Hb.other4 (hBb7.below hb8 hBb7.lt) _ (by omega)
             · rw [sx.out]; exact Hb.other4 (hX7.below hb8 hX7.lt) _ (by omega)
             · rw [sy.out]; exact hY8.put4 _
           · have sx : Hid (sel (fun i => a.has i && b.has i) (i + 1) = (sel (fun i => a.has i && b.has i) i).add (i : Int)) := by show _ = _; rw [sel]; simp [ca, cb]
             have sy : Hid (sel (fun i => a.has i || b.has i) (i + 1) = (sel (fun i => a.has i || b.has i) i).add (i : Int)) := by show _ = _; rw [sel]; simp [ca]
             obtain ⟨y0, y1, y2, y3, yf0, yf1, yf2, yf3⟩ := hX7.all
             go_wp2_with fail
             refine (withR_any _ (sel_ok _ i) i hlt _).mono ?_
             rintro e w8 ⟨rfl, hb8⟩
             have hX8 := hX7.below hb8 hX7.lt
             obtain ⟨z0, z1, z2, z3, zf0, zf1, zf2, zf3⟩ := hX8.all
             have hX9 := hX8.put4 ((sel (fun i => a.has i && b.has i) i).add (i : Int))
             have hY9 := Hb.other4 (hY7.below hb8 hY7.lt) ((sel (fun i => a.has i && b.has i) i).add (i : Int)) (c := w4.heap.size) (by omega)
             have hA9 := Hb.other4 (hA7.below hb8 hA7.lt) ((sel (fun i => a.has i && b.has i) i).add (i : Int)) (c := w4.heap.size) (by omega)
             have hBb9 := Hb.other4 (hBb7.below hb8 hBb7.lt) ((sel (fun i => a.has i && b.has i) i).add (i : Int)) (c := w4.heap.size) (by omega)
             have hB9 := below_put4 (hB7.trans (hb8.mono hB7.size)) (b := w4.heap.size) (by omega) ((sel (fun i => a.has i && b.has i) i).add (i : Int))
             obtain ⟨v0, v1, v2, v3, vf0, vf1, vf2, vf3⟩ := hY9.all
             go_wp2_with fail
             refine (withR_any _ (sel_ok _ i) i hlt _).mono ?_
             rintro e w10 ⟨rfl, hb10⟩
             have hY10 := hY9.below hb10 hY9.lt
             obtain ⟨u0, u1, u2, u3, uf0, uf1, uf2, uf3⟩ := hY10.all
             go_wp2
             refine ⟨⟨i + 1, by omega, by go_num, ?_, ?_, ?_, ?_, ?_⟩, by simp [intOf]; omega⟩
             · exact below_put4 (hB9.trans (hb10.mono hB9.size)) (by omega) _
             · exact Hb.other4 (hA9.below hb10 hA9.lt) _ (by omega)
             · exact Hb.other4 (hBb9.below hb10 hBb9.lt) _ (by omega)
             · rw [sx.out]; exact Hb.other4 (hX9.below hb10 hX9.lt) _ (by omega)
             · rw [sy.out]; exact hY10.put4 _
         · have hi3 : i = 256 := by omega
           subst hi3
           rw [sel_and ha hb] at hX
           rw [sel_or ha hb] at hY
           obtain ⟨a0, a1, a2, a3⟩ := hA.cr
           obtain ⟨b0, b1, b2, b3⟩ := hBb.cr
           obtain ⟨x0, x1, x2, x3⟩ := hX.cr
           obtain ⟨y0, y1, y2, y3⟩ := hY.cr
           go_wp2_with fail
           refine wp_region_quiet_below (by kernel_rfl) (by kernel_rfl) ?_
           repeat (quiet_step (first
             | (go_at_call 17; exact Calls.regrown_of (both_any _ _ _))
             | (go_at_call 18; exact Calls.regrown_of (either_any _ _ _))))
           refine wpQuiet_nil ?_
           intro _ hw'
           obtain ⟨⟨dq, osq⟩, hw''⟩ := hw'
           have hbz := below_regrown wr dq osq
           have gz := hB.trans (hbz.mono hB.size)
           subst hw''
           go_wp2
           go_ret
           exact ⟨rfl, gz⟩
theorem is_any (a b : C4) (ha : a.ok) (hb : b.ok) (s : ByteArray) (hs : s.size ≤ maxLen) (lo hi : Nat) (hl : lo < 256) (hh : hi < 256) (w : World) (hE : w.cell? ⟨0, 0, none⟩ = some (rty 28)) :
    Calls Tryd.prog 3 #[a.v, b.v, .string s, .int .u8 lo, .int .u8 hi] w fun e w' => e = .returned (.bool true) ∧ Below w.heap.size w w' := by
  by_cases hr : hi < lo
  · exact is_bad a b ha hb s hs lo hi hl hh hr w hE
  · exact is_good a b ha hb s hs lo hi hl hh hr w hE
end Go.Proofs.YthahnpaigmbiaaaDoor
