/- What each call of package class does: third part: byteText, runText, runEnd, runs. -/
import Derived.Test.YtmdfdlljeggbbaaWk2
import Derived.Test.YtmdfdlljeggbbaaShf
set_option linter.unusedSimpArgs false
set_option linter.unusedVariables false
set_option maxRecDepth 100000
namespace Go.Proofs.Ytmdfdlljeggbbaa
open Go.RowKit

set_option maxHeartbeats 400000 in
theorem byteText_hex (x : Int) (w : World) (h : 0 ≤ x) (h2 : x < 256) (h3 : x < 32 ∨ 126 < x) :
    Calls Try.prog 40 #[.int .u8 x] w fun e w' => e = .returned (.string ⟨(bt x.toNat).toArray⟩) ∧ Below w.heap.size w w' := by
  obtain ⟨n, rfl⟩ := Int.eq_ofNat_of_zero_le h
  have q1 : (0:Int) ≤ (n : Int) / 16 := by omega
  have q2 : (n : Int) / 16 < 16 := by omega
  have q3 : (0:Int) ≤ (n : Int) % 16 := by omega
  have q4 : (n : Int) % 16 < 16 := by omega
  have hb := bt_hex n (by omega) (by omega)
  have HB := (show Hid _ from hb)
  clear hb
  rcases h3 with h3 | h3
  · go_enter Try.func40, Try.ntmps40
    go_wp2
    go_quiet (fail)
    go_wp2
    go_ret
    exact ⟨ret_str HB.out, below_drewN' _ _⟩
  · have h4 : ¬ (n : Int) < 32 := by omega
    go_enter Try.func40, Try.ntmps40
    go_wp2
    go_quiet (fail)
    go_wp2
    go_ret
    exact ⟨ret_str HB.out, below_drewN' _ _⟩

set_option maxHeartbeats 400000 in
theorem byteText_plain (x : Int) (w : World) (h : 32 ≤ x) (h2 : x ≤ 126) :
    Calls Try.prog 40 #[.int .u8 x] w fun e w' => e = .returned (.string ⟨(bt x.toNat).toArray⟩) ∧ Below w.heap.size w w' := by
  obtain ⟨n, rfl⟩ := Int.eq_ofNat_of_zero_le (show 0 ≤ x by omega)
  have h4 : ¬ (n : Int) < 32 := by omega
  have h5 : ¬ 126 < (n : Int) := by omega
  have hu := enc_ascii n (by omega)
  by_cases hm : (0 : Int) ≤ Lib.indexByte [92, 46, 91, 93, 40, 41, 124, 42, 43, 63, 94, 36, 45] (UInt8.ofNat n)
  · have hb := signs_in n (by omega) hm (by omega) (by omega)
    have HB := (show Hid _ from hb)
    clear hb
    go_enter Try.func40, Try.ntmps40
    go_wp2_with (go_at_call 46; refine (indexByte_any _ _ _).mono ?_; rintro e w' ⟨rfl, rfl⟩)
    go_ret
    refine ⟨ret_str ?_, Below.refl _ _⟩
    rw [Int.toNat_natCast, HB.out]
    rfl
  · have hb := signs_out n (by omega) hm (by omega) (by omega)
    have HB := (show Hid _ from hb)
    have hm2 : decide ((0 : Int) ≤ Lib.indexByte [92, 46, 91, 93, 40, 41, 124, 42, 43, 63, 94, 36, 45] (UInt8.ofNat n)) = false := by simpa using hm
    clear hb hm
    go_enter Try.func40, Try.ntmps40
    go_wp2_with fail
    refine (indexByte_any _ _ _).mono ?_
    rintro e w' ⟨rfl, rfl⟩
    go_wp2
    go_ret
    refine ⟨ret_str ?_, Below.refl _ _⟩
    rw [Int.toNat_natCast, HB.out]
theorem byteText_any (x : Int) (w : World) (h : 0 ≤ x) (h2 : x < 256) :
    Calls Try.prog 40 #[.int .u8 x] w fun e w' => e = .returned (.string ⟨(bt x.toNat).toArray⟩) ∧ Below w.heap.size w w' := by
  by_cases h3 : x < 32 ∨ 126 < x
  · exact byteText_hex x w h h2 h3
  · exact byteText_plain x w (by omega) (by omega)

set_option maxHeartbeats 400000 in
theorem runText_any (i j : Int) (w : World) (h : 0 ≤ i) (h1 : i ≤ j) (h2 : j < 256) :
    Calls Try.prog 29 #[.int .i64 i, .int .i64 j] w fun e w' => e = .returned (.string ⟨(rt i.toNat j.toNat).toArray⟩) ∧ Below w.heap.size w w' := by
  have hl1 : (⟨(bt i.toNat).toArray⟩ : ByteArray).size ≤ 4 := by rw [size_str]; exact bt_len _
  have hl2 : (⟨(bt j.toNat).toArray⟩ : ByteArray).size ≤ 4 := by rw [size_str]; exact bt_len _
  have hl3 : (bt i.toNat).length ≤ 4 := bt_len _
  have hl4 : (bt j.toNat).length ≤ 4 := bt_len _
  by_cases e0 : j = i
  · subst e0
    have e1 : (j - j == 0) = true := by simp
    go_enter Try.func29, Try.ntmps29
    go_wp2_with fail
    refine (byteText_any _ _ (by omega) (by omega)).mono ?_
    rintro e w1 ⟨rfl, hb⟩
    go_wp2
    go_ret
    exact ⟨ret_str (by simp [rt]), hb⟩
  · have e1 : (j - i == 0) = false := by simp; omega
    by_cases e2 : j = i + 1
    · have e3 : (j - i == 1) = true := by simp; omega
      have E2 := (show Hid _ from e2)
      clear e2
      go_enter Try.func29, Try.ntmps29
      go_wp2_with fail
      refine (byteText_any _ _ (by omega) (by omega)).mono ?_
      rintro e w1 ⟨rfl, hb⟩
      go_wp2_with fail
      refine (byteText_any _ _ (by omega) (by omega)).mono ?_
      rintro e w2 ⟨rfl, hb2⟩
      go_wp2
      go_ret
      refine ⟨ret_str ?_, hb.trans (hb2.mono hb.size)⟩
      have := E2.out
      rw [cat_str, rt, if_neg (by omega), if_pos (by omega)]
    · have e3 : (j - i == 1) = false := by simp; omega
      go_enter Try.func29, Try.ntmps29
      go_wp2_with fail
      refine (byteText_any _ _ (by omega) (by omega)).mono ?_
      rintro e w1 ⟨rfl, hb⟩
      go_wp2_with fail
      refine (byteText_any _ _ (by omega) (by omega)).mono ?_
      rintro e w2 ⟨rfl, hb2⟩
      go_wp2
      go_ret
      refine ⟨ret_str ?_, hb.trans (hb2.mono hb.size)⟩
      rw [rt, if_neg (by omega), if_neg (by omega)]
      have e5 : ({ data := #[45] } : ByteArray) = ⟨([45] : List UInt8).toArray⟩ := rfl
      rw [e5, cat_str, cat_str]
      simp
end Go.Proofs.Ytmdfdlljeggbbaa
