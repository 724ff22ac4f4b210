/- What the document's own functions answer: Signed, ByteText. -/
import Derived.Test.YthahnpaigmbiaaaDoorRf2
import Derived.Laws.BytesArg
set_option linter.unusedSimpArgs false
set_option linter.unusedVariables false
namespace Go.Proofs.YthahnpaigmbiaaaDoor
open Go.RowKit

def sgn (j : Nat) : Int := ([92, 46, 91, 93, 40, 41, 124, 42, 43, 63, 94, 36, 45] : List Int).getD j 0
def signedB (x : Int) : Bool := ([92, 46, 91, 93, 40, 41, 124, 42, 43, 63, 94, 36, 45] : List Int).any (· == x)
theorem sgn_index (j : Nat) (h : j < 13) (w : World) : (Instr.index 9 (.string ⟨#[92, 46, 91, 93, 40, 41, 124, 42, 43, 63, 94, 36, 45]⟩) (.int .i64 j)).run Tryd.prog w = .ok (.int .u8 (sgn j)) w := by
  match j, h with
  | 0, _ | 1, _ | 2, _ | 3, _ | 4, _ | 5, _ | 6, _ | 7, _ | 8, _ | 9, _ | 10, _ | 11, _ | 12, _ => go_simp; rfl
theorem signed_of (x : Int) (h : ∃ j, j < 13 ∧ sgn j = x) : signedB x = true := by
  obtain ⟨j, hj, rfl⟩ := h
  have key : ∀ j : Fin 13, signedB (sgn j.val) = true := by decide
  exact key ⟨j, hj⟩
theorem signed_not (x : Int) (h : ∀ j, j < 13 → sgn j ≠ x) : signedB x = false := by
  have k0 := h 0 (by decide); have k1 := h 1 (by decide); have k2 := h 2 (by decide); have k3 := h 3 (by decide)
  have k4 := h 4 (by decide); have k5 := h 5 (by decide); have k6 := h 6 (by decide); have k7 := h 7 (by decide)
  have k8 := h 8 (by decide); have k9 := h 9 (by decide); have k10 := h 10 (by decide); have k11 := h 11 (by decide); have k12 := h 12 (by decide)
  simp [sgn] at k0 k1 k2 k3 k4 k5 k6 k7 k8 k9 k10 k11 k12
  simp [signedB, *]
set_option maxHeartbeats 1000000 in
theorem signed_any (x : Int) (w : World) :
    Calls Tryd.prog 33 #[.int .u8 x] w fun e w' => e = .returned (.bool (signedB x)) ∧ w' = w := by
  go_enter Tryd.func33, Tryd.ntmps33
  go_wp2
  go_loop [3] (fun v => ∃ j : Nat, j ≤ 13 ∧ v = .int .i64 j ∧ Hid (∀ i, i < j → sgn i ≠ x)) (fun v => 13 - (intOf v).toNat)
  case atStart => exact ⟨0, by omega, rfl, fun i hi => by omega⟩
  case round =>
    obtain ⟨j, hj, rfl, HN⟩ := hrel
    by_cases hlt : j < 13
    · have hi := sgn_index j hlt
      have i1 : (j : Int) < 13 := by omega
      by_cases he : sgn j = x
      · have he2 : (sgn j == x) = true := by simp [he]
        have HX : Hid (signedB x = true) := signed_of x ⟨j, hlt, he⟩
        clear he
        go_wp2
        go_ret
        exact ⟨by rw [HX.out]; rfl, rfl⟩
      · have he2 : (sgn j == x) = false := by simp [he]
        have HX : Hid (∀ i, i < j + 1 → sgn i ≠ x) := fun i hi => by
          by_cases e : i = j
          · rw [e]; exact he
          · exact HN.out i (by omega)
        clear he
        go_wp2
        exact ⟨⟨j + 1, by omega, by go_num, HX⟩, by simp [intOf]; omega⟩
    · have hj2 : j = 13 := by omega
      subst hj2
      have HX : Hid (signedB x = false) := signed_not x HN.out
      go_wp2
      go_ret
      exact ⟨by rw [HX.out]; rfl, rfl⟩

theorem bt_hexN (n : Nat) (h : n < 256) (h2 : n < 32 ∨ 126 < n) :
    (({ data := #[92, 120] } : ByteArray) ++ ({ data := #[48, 49, 50, 51, 52, 53, 54, 55, 56, 57, 97, 98, 99, 100, 101, 102] } : ByteArray).extract ((n : Int) / 16).toNat ((n : Int) / 16 + 1).toNat ++
      ({ data := #[48, 49, 50, 51, 52, 53, 54, 55, 56, 57, 97, 98, 99, 100, 101, 102] } : ByteArray).extract ((n : Int) % 16).toNat ((n : Int) % 16 + 1).toNat) = ⟨(bt n).toArray⟩ := bt_hex n h h2
set_option maxHeartbeats 1000000 in
theorem byteTextR_hex (n : Nat) (h : n < 256) (h3 : n < 32 ∨ 126 < n) (w : World) :
    Calls Tryd.prog 25 #[.int .i64 n] w fun e w' => e = .returned (.string ⟨(bt n).toArray⟩) ∧ Below w.heap.size w w' := by
  have HB : Hid _ := bt_hexN n h h3
  have q1 : (0:Int) ≤ (n : Int) / 16 := by omega
  have q2 : (n : Int) / 16 < 16 := by omega
  have q3 : (0:Int) ≤ (n : Int) % 16 := by omega
  have q4 : (n : Int) % 16 < 16 := by omega
  rcases h3 with h3 | h3
  · have h5 : (n : Int) < 32 := by omega
    go_enter Tryd.func25, Tryd.ntmps25
    go_wp2
    go_quiet (fail)
    go_wp2
    go_ret
    exact ⟨ret_str HB.out, below_drewN' _ _⟩
  · have h4 : ¬ (n : Int) < 32 := by omega
    have h5 : 126 < (n : Int) := by omega
    go_enter Tryd.func25, Tryd.ntmps25
    go_wp2
    go_quiet (fail)
    go_wp2
    go_ret
    exact ⟨ret_str HB.out, below_drewN' _ _⟩
theorem signs_inR (n : Nat) (h : n < 256) (hm : signedB (n : Int) = true) (h1 : 32 ≤ n) (h2 : n ≤ 126) : bt n = [92, UInt8.ofNat n] := by
  have key : ∀ n : Fin 256, signedB (n.val : Int) = true → 32 ≤ n.val → n.val ≤ 126 → bt n.val = [92, UInt8.ofNat n.val] := by decide +kernel
  exact key ⟨n, h⟩ hm h1 h2
theorem signs_outR (n : Nat) (h : n < 256) (hm : signedB (n : Int) = false) (h1 : 32 ≤ n) (h2 : n ≤ 126) : bt n = [UInt8.ofNat n] := by
  have key : ∀ n : Fin 256, signedB (n.val : Int) = false → 32 ≤ n.val → n.val ≤ 126 → bt n.val = [UInt8.ofNat n.val] := by decide +kernel
  exact key ⟨n, h⟩ hm h1 h2
theorem conv_one (n : Nat) (w : World) : (convert 50 9 (.slice (some ⟨w.heap.size, 0, none⟩) 1 1)).run Tryd.prog (w.alloc (.cells #[.int .u8 (n : Int)] 5)) = .ok (.string ⟨#[UInt8.ofNat n]⟩) (w.alloc (.cells #[.int .u8 (n : Int)] 5)) := by
  have h := run_convert_bytes_arg (P := Tryd.prog) (w.alloc (.cells #[.int .u8 (n : Int)] 5)) 50 5 Tryd.underlying50 Tryd.underlying5 w.heap.size 0 1 1 [(n : Int)] rfl (by
    intro i hi
    have : i = 0 := by omega
    subst this
    simp) 9 Tryd.underlying9
  rw [h]
  rfl
set_option maxHeartbeats 1000000 in
set_option maxRecDepth 100000 in
theorem byteTextR_in (n : Nat) (h1 : 32 ≤ n) (h2 : n ≤ 126) (hm : signedB (n : Int) = true) (w : World) :
    Calls Tryd.prog 25 #[.int .i64 n] w fun e w' => e = .returned (.string ⟨(bt n).toArray⟩) ∧ Below w.heap.size w w' := by
  have HB : Hid _ := signs_inR n (by omega) hm h1 h2
  have h4 : ¬ (n : Int) < 32 := by omega
  have h5 : ¬ 126 < (n : Int) := by omega
  have hcv := conv_one n w
  go_enter Tryd.func25, Tryd.ntmps25
  go_wp2_with fail
  refine (signed_any n _).mono ?_
  rintro e w1 ⟨rfl, rfl⟩
  go_wp2
  go_ret
  refine ⟨ret_str ?_, (Below.refl _ _).alloc (Nat.le_refl _) _⟩
  rw [HB.out]
  rfl
set_option maxHeartbeats 1000000 in
set_option maxRecDepth 100000 in
theorem byteTextR_out (n : Nat) (h1 : 32 ≤ n) (h2 : n ≤ 126) (hm : signedB (n : Int) = false) (w : World) :
    Calls Tryd.prog 25 #[.int .i64 n] w fun e w' => e = .returned (.string ⟨(bt n).toArray⟩) ∧ Below w.heap.size w w' := by
  have HB : Hid _ := signs_outR n (by omega) hm h1 h2
  have h4 : ¬ (n : Int) < 32 := by omega
  have h5 : ¬ 126 < (n : Int) := by omega
  have hcv := conv_one n w
  go_enter Tryd.func25, Tryd.ntmps25
  go_wp2_with fail
  refine (signed_any n _).mono ?_
  rintro e w1 ⟨rfl, rfl⟩
  go_wp2
  go_ret
  refine ⟨ret_str ?_, (Below.refl _ _).alloc (Nat.le_refl _) _⟩
  rw [HB.out]
theorem byteTextR_any (n : Nat) (h : n < 256) (w : World) :
    Calls Tryd.prog 25 #[.int .i64 n] w fun e w' => e = .returned (.string ⟨(bt n).toArray⟩) ∧ Below w.heap.size w w' := by
  by_cases h3 : n < 32 ∨ 126 < n
  · exact byteTextR_hex n h h3 w
  · cases hm : signedB (n : Int)
    · exact byteTextR_out n (by omega) (by omega) hm w
    · exact byteTextR_in n (by omega) (by omega) hm w
end Go.Proofs.YthahnpaigmbiaaaDoor
