/- The landed reader: mark, chainEnds, how many nodes there are. -/
import Derived.Test.YtmdfdlljeggbbaaRb2
set_option linter.unusedSimpArgs false
set_option linter.unusedVariables false
set_option maxRecDepth 100000
namespace Go.Proofs.Ytmdfdlljeggbbaa
open Go.RowKit
/-- A sign behind a part, and what is left. -/
def markR (l : List UInt8) : Int × List UInt8 :=
  if l.head? = some 42 then (5, l.tail) else if l.head? = some 43 then (6, l.tail) else if l.head? = some 63 then (7, l.tail) else (0, l)
theorem markR_posts (t : Rx) (l : List UInt8) : posts t l = if (markR l).1 = 0 then (t, l) else posts (.one ⟨(markR l).1, z4⟩ t) (markR l).2 := by
  cases l with
  | nil => simp [posts, markR]
  | cons c r =>
    rw [posts]
    by_cases h1 : c = 42
    · subst h1; simp [markR]
    · by_cases h2 : c = 43
      · subst h2; simp [markR]
      · by_cases h3 : c = 63
        · subst h3; simp [markR]
        · simp [markR, h1, h2, h3]
theorem markR_len (l : List UInt8) : if (markR l).1 = 0 then (markR l).2 = l else (markR l).2.length + 1 = l.length := by
  unfold markR
  split
  · rename_i h; have := (tail_len l _ h).2; simp; omega
  · split
    · rename_i h; have := (tail_len l _ h).2; simp; omega
    · split
      · rename_i h; have := (tail_len l _ h).2; simp; omega
      · simp
set_option maxHeartbeats 1000000 in
theorem mark_none (g : Nat) (s : ByteArray) (l : List UInt8) (ns : List Nd) (h1 : l.head? ≠ some 42) (h2 : l.head? ≠ some 43) (h3 : l.head? ≠ some 63) (w : World) (h : PAt w g s l ns) :
    Calls Try.prog 54 #[.pointer (some ⟨g, 0, none⟩)] w fun e w' => e = .returned (.int .i64 0) ∧ PAt w' g s l ns ∧ Below g w w' := by
  have hlt := h.lt
  have HP := hid h
  have HB := hid (Below.refl g w)
  clear h
  go_enter Try.func54, Try.ntmps54
  go_wp2_with fail
  refine Calls.mono (skipN g s _ ns 42 _ rfl _ HP.out h1) ?_
  rintro e w1 ⟨rfl, hp, hb⟩
  replace HP := hid hp
  replace HB := hid (HB.out.trans (hb.mono (Nat.le_trans (Nat.le_of_lt hlt) HB.out.size)))
  clear hp hb
  go_wp2_with fail
  refine Calls.mono (skipN g s _ ns 43 _ rfl _ HP.out h2) ?_
  rintro e w2 ⟨rfl, hp, hb⟩
  replace HP := hid hp
  replace HB := hid (HB.out.trans (hb.mono (Nat.le_trans (Nat.le_of_lt hlt) HB.out.size)))
  clear hp hb
  go_wp2_with fail
  refine Calls.mono (skipN g s _ ns 63 _ rfl _ HP.out h3) ?_
  rintro e w3 ⟨rfl, hp, hb⟩
  replace HP := hid hp
  replace HB := hid (HB.out.trans (hb.mono (Nat.le_trans (Nat.le_of_lt hlt) HB.out.size)))
  clear hp hb
  go_wp2
  go_ret
  exact ⟨rfl, HP.out, HB.out⟩
set_option maxHeartbeats 1000000 in
theorem mark_star (g : Nat) (s : ByteArray) (r : List UInt8) (ns : List Nd) (w : World) (h : PAt w g s (42 :: r) ns) :
    Calls Try.prog 54 #[.pointer (some ⟨g, 0, none⟩)] w fun e w' => e = .returned (.int .i64 5) ∧ PAt w' g s r ns ∧ Below g w w' := by
  have HP := hid h
  clear h
  go_enter Try.func54, Try.ntmps54
  go_wp2_with fail
  refine Calls.mono (skipY g s r ns 42 _ rfl _ HP.out) ?_
  rintro e w1 ⟨rfl, hp, hb⟩
  go_wp2
  go_ret
  exact ⟨rfl, hp, hb⟩
set_option maxHeartbeats 1000000 in
theorem mark_plus (g : Nat) (s : ByteArray) (r : List UInt8) (ns : List Nd) (w : World) (h : PAt w g s (43 :: r) ns) :
    Calls Try.prog 54 #[.pointer (some ⟨g, 0, none⟩)] w fun e w' => e = .returned (.int .i64 6) ∧ PAt w' g s r ns ∧ Below g w w' := by
  have hlt := h.lt
  have HP := hid h
  have HB := hid (Below.refl g w)
  clear h
  go_enter Try.func54, Try.ntmps54
  go_wp2_with fail
  refine Calls.mono (skipN g s _ ns 42 _ rfl _ HP.out (by simp)) ?_
  rintro e w1 ⟨rfl, hp, hb⟩
  replace HP := hid hp
  replace HB := hid (HB.out.trans (hb.mono (Nat.le_trans (Nat.le_of_lt hlt) HB.out.size)))
  clear hp hb
  go_wp2_with fail
  refine Calls.mono (skipY g s r ns 43 _ rfl _ HP.out) ?_
  rintro e w2 ⟨rfl, hp, hb⟩
  go_wp2
  go_ret
  exact ⟨rfl, hp, HB.out.trans hb⟩
set_option maxHeartbeats 1000000 in
theorem mark_opt (g : Nat) (s : ByteArray) (r : List UInt8) (ns : List Nd) (w : World) (h : PAt w g s (63 :: r) ns) :
    Calls Try.prog 54 #[.pointer (some ⟨g, 0, none⟩)] w fun e w' => e = .returned (.int .i64 7) ∧ PAt w' g s r ns ∧ Below g w w' := by
  have hlt := h.lt
  have HP := hid h
  have HB := hid (Below.refl g w)
  clear h
  go_enter Try.func54, Try.ntmps54
  go_wp2_with fail
  refine Calls.mono (skipN g s _ ns 42 _ rfl _ HP.out (by simp)) ?_
  rintro e w1 ⟨rfl, hp, hb⟩
  replace HP := hid hp
  replace HB := hid (HB.out.trans (hb.mono (Nat.le_trans (Nat.le_of_lt hlt) HB.out.size)))
  clear hp hb
  go_wp2_with fail
  refine Calls.mono (skipN g s _ ns 43 _ rfl _ HP.out (by simp)) ?_
  rintro e w2 ⟨rfl, hp, hb⟩
  replace HP := hid hp
  replace HB := hid (HB.out.trans (hb.mono (Nat.le_trans (Nat.le_of_lt hlt) HB.out.size)))
  clear hp hb
  go_wp2_with fail
  refine Calls.mono (skipY g s r ns 63 _ rfl _ HP.out) ?_
  rintro e w3 ⟨rfl, hp, hb⟩
  go_wp2
  go_ret
  exact ⟨rfl, hp, HB.out.trans hb⟩
theorem mark_any (g : Nat) (s : ByteArray) (l : List UInt8) (ns : List Nd) (w : World) (h : PAt w g s l ns) :
    Calls Try.prog 54 #[.pointer (some ⟨g, 0, none⟩)] w fun e w' => e = .returned (.int .i64 (markR l).1) ∧ PAt w' g s (markR l).2 ns ∧ Below g w w' := by
  unfold markR
  by_cases h1 : l.head? = some 42
  · rw [if_pos h1]
    rw [(tail_len l _ h1).1] at h
    exact mark_star g s l.tail ns w h
  · rw [if_neg h1]
    by_cases h2 : l.head? = some 43
    · rw [if_pos h2]
      rw [(tail_len l _ h2).1] at h
      exact mark_plus g s l.tail ns w h
    · rw [if_neg h2]
      by_cases h3 : l.head? = some 63
      · rw [if_pos h3]
        rw [(tail_len l _ h3).1] at h
        exact mark_opt g s l.tail ns w h
      · rw [if_neg h3]
        exact mark_none g s l ns h1 h2 h3 w h
set_option maxHeartbeats 1000000 in
theorem chainEnds_any (g : Nat) (s : ByteArray) (l : List UInt8) (ns : List Nd) (w : World) (h : PAt w g s l ns) :
    Calls Try.prog 47 #[.pointer (some ⟨g, 0, none⟩)] w fun e w' => e = .returned (.bool (stp l)) ∧ Below w.heap.size w w' := by
  obtain ⟨a, v, h, _⟩ := h
  have HP := hid h
  clear h
  cases l with
  | nil =>
    go_enter Try.func47, Try.ntmps47
    go_wp2_with fail
    refine Calls.mono (more_nil g s a v _ HP.out) ?_
    rintro e w1 ⟨rfl, hb⟩
    go_wp2
    go_ret
    exact ⟨rfl, hb⟩
  | cons c r =>
    have HS : Hid (stp (c :: r) = (c == 124 || c == 41)) := by show _ = _; rfl
    rw [HS.out]
    clear HS
    go_enter Try.func47, Try.ntmps47
    go_wp2_with fail
    refine Calls.mono (more_cons g s a v c r _ HP.out) ?_
    rintro e w1 ⟨rfl, hb⟩
    go_wp2_with fail
    refine Calls.mono (rsees_any g s a v _ 124 _ rfl _ (HP.out.below hb)) ?_
    rintro e w2 ⟨rfl, hb2⟩
    replace hb := hb.trans (hb2.mono hb.size)
    clear hb2
    by_cases h1 : c = 124
    · subst h1
      have HX : Hid (decide ((124 :: r).head? = some 124) = true) := by show _ = _; simp
      rw [HX.out]
      go_wp2
      go_ret
      exact ⟨rfl, hb⟩
    · have HX : Hid (decide ((c :: r).head? = some 124) = false) := by show _ = _; simp [h1]
      rw [HX.out]
      go_wp2_with fail
      refine Calls.mono (rsees_any g s a v _ 41 _ rfl _ (HP.out.below hb)) ?_
      rintro e w3 ⟨rfl, hb3⟩
      replace hb := hb.trans (hb3.mono hb.size)
      clear hb3
      have HY : Hid (decide ((c :: r).head? = some 41) = (c == 124 || c == 41)) := by
        show _ = _
        by_cases h2 : c = 41
        · subst h2; simp
        · simp [h1, h2]
      obtain ⟨q, hq⟩ : ∃ q, q = decide ((c :: r).head? = some 41) := ⟨_, rfl⟩
      rw [← hq]
      have HQ := hid hq
      clear hq
      go_wp2
      go_ret
      exact ⟨ret_bool (HQ.out.trans HY.out), hb⟩
end Go.Proofs.Ytmdfdlljeggbbaa
