/- Plain mathematics of classes, second part: the library's bit count is the number of bits. -/
import Derived.Test.YtmdfdlljeggbbaaMth
set_option linter.unusedSimpArgs false
set_option linter.unusedVariables false
namespace Go.Proofs.Ytmdfdlljeggbbaa
open Go.RowKit
theorem u64_small (n : Nat) (h : n < 18446744073709551616) : IntKind.u64.wrap (n : Int) = (n : Int) := by
  rw [IntKind.wrap_u64]; omega
theorem o1_nat (n : Nat) (h : n < 18446744073709551616) : o1 (n : Int) = ((bm f1 8 n : Nat) : Int) ∧ bm f1 8 n < 18446744073709551616 := by
  have e := step1 8 n
  have em : mk 85 8 = 6148914691236517205 := by simp [mk]
  rw [em] at e
  have l1 : n / 2 &&& 6148914691236517205 ≤ 6148914691236517205 := Nat.and_le_right
  have l2 : n &&& 6148914691236517205 ≤ 6148914691236517205 := Nat.and_le_right
  have hd : (n : Int) / 2 = ((n / 2 : Nat) : Int) := by omega
  have a1 := u64_and_nat (n / 2) 6148914691236517205 (by omega) (by omega)
  have a2 := u64_and_nat n 6148914691236517205 h (by omega)
  refine ⟨?_, by omega⟩
  rw [o1, hd, ← e]
  have c5 : ((6148914691236517205 : Nat) : Int) = 6148914691236517205 := by omega
  rw [c5] at a1 a2
  rw [a1, a2, ← Int.natCast_add]
  exact u64_small _ (by omega)
theorem o2_nat (n : Nat) (h : n < 18446744073709551616) : o2 (n : Int) = ((bm f2 8 n : Nat) : Int) ∧ bm f2 8 n < 18446744073709551616 := by
  have e := step2 8 n
  have em : mk 51 8 = 3689348814741910323 := by simp [mk]
  rw [em] at e
  have l1 : n / 4 &&& 3689348814741910323 ≤ 3689348814741910323 := Nat.and_le_right
  have l2 : n &&& 3689348814741910323 ≤ 3689348814741910323 := Nat.and_le_right
  have hd : (n : Int) / 4 = ((n / 4 : Nat) : Int) := by omega
  have a1 := u64_and_nat (n / 4) 3689348814741910323 (by omega) (by omega)
  have a2 := u64_and_nat n 3689348814741910323 h (by omega)
  refine ⟨?_, by omega⟩
  rw [o2, hd, ← e]
  have c5 : ((3689348814741910323 : Nat) : Int) = 3689348814741910323 := by omega
  rw [c5] at a1 a2
  rw [a1, a2, ← Int.natCast_add]
  exact u64_small _ (by omega)
theorem bm_g2_le : ∀ (k n : Nat), bm g2 k n ≤ 68 * mk 1 k
  | 0, n => by simp [bm, mk]
  | k + 1, n => by
    have ih := bm_g2_le k (n / 256)
    have h := g2_le ⟨n % 256, by omega⟩
    simp only at h
    rw [bm, mk]
    omega
theorem o3_nat (n : Nat) : o3 ((bm g2 8 n : Nat) : Int) = ((bm h3 8 n : Nat) : Int) := by
  have e := step3 8 n
  have em : mk 15 8 = 1085102592571150095 := by simp [mk]
  have hl := bm_g2_le 8 n
  have em1 : mk 1 8 = 72340172838076673 := by simp [mk]
  rw [em] at e
  rw [em1] at hl
  generalize bm g2 8 n = x at *
  have hd : (x : Int) / 16 = ((x / 16 : Nat) : Int) := by omega
  rw [o3, hd, ← Int.natCast_add, u64_small _ (by omega), ← e]
  exact u64_and_nat (x / 16 + x) 1085102592571150095 (by omega) (by omega)
theorem o4_nat (s n : Nat) (h : n + n / s < 18446744073709551616) : o4 (s : Int) (n : Int) = ((n + n / s : Nat) : Int) := by
  rw [o4, ← Int.natCast_ediv, ← Int.natCast_add]
  exact u64_small _ h
theorem o4_a (n : Nat) (h : n + n / 256 < 18446744073709551616) : o4 256 (n : Int) = ((n + n / 256 : Nat) : Int) := o4_nat 256 n h
theorem o4_b (n : Nat) (h : n + n / 65536 < 18446744073709551616) : o4 65536 (n : Int) = ((n + n / 65536 : Nat) : Int) := o4_nat 65536 n h
theorem o4_c (n : Nat) (h : n + n / 4294967296 < 18446744073709551616) : o4 4294967296 (n : Int) = ((n + n / 4294967296 : Nat) : Int) := o4_nat 4294967296 n h
theorem low127 (x : Nat) : bits .and .i64 (wrap64 (x : Int)) 127 = ((x % 128 : Nat) : Int) := by
  rw [i64_and127]
  unfold wrap64
  omega
theorem ones_nat (n : Nat) (h : n < 18446744073709551616) : ones (n : Int) = ((cnt n.testBit 64 : Nat) : Int) := by
  obtain ⟨a, b, c, d, e⟩ := fold_bytes n _ _ _ _ rfl rfl rfl rfl
  have hc := cnt_sb 8 n
  have h1 := o1_nat n h
  have h2 := o2_nat _ h1.2
  rw [ones, h1.1, h2.1, bm_bm, o3_nat, o4_a _ b, o4_b _ c, o4_c _ d, low127, e]
  exact congrArg (fun x : Nat => (x : Int)) hc.symm
end Go.Proofs.Ytmdfdlljeggbbaa
