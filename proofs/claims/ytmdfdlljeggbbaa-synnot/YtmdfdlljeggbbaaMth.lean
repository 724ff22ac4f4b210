/- Plain mathematics of classes: bits, how many, that two classes have other texts. No program in it. -/
import Derived.Test.YtmdfdlljeggbbaaCls
set_option linter.unusedSimpArgs false
set_option linter.unusedVariables false
namespace Go.Proofs.Ytmdfdlljeggbbaa
open Go.RowKit

/-! How many bits a word has -/
def cnt (p : Nat → Bool) : Nat → Nat
  | 0 => 0
  | n + 1 => cnt p n + (if p n then 1 else 0)
theorem cnt_congr (p q : Nat → Bool) : ∀ n, (∀ i, i < n → p i = q i) → cnt p n = cnt q n
  | 0, _ => rfl
  | n + 1, h => by rw [cnt, cnt, cnt_congr p q n (fun i hi => h i (by omega)), h n (by omega)]
theorem cnt_le (p : Nat → Bool) : ∀ n, cnt p n ≤ n
  | 0 => Nat.le_refl _
  | n + 1 => by have := cnt_le p n; rw [cnt]; split <;> omega
theorem cnt_add (p : Nat → Bool) (m : Nat) : ∀ n, cnt p (m + n) = cnt p m + cnt (fun j => p (m + j)) n
  | 0 => rfl
  | n + 1 => by rw [← Nat.add_assoc, cnt, cnt, cnt_add p m n, Nat.add_assoc]
theorem cnt_both (p q : Nat → Bool) : ∀ n, cnt (fun i => p i && q i) n + cnt (fun i => p i || q i) n = cnt p n + cnt q n
  | 0 => rfl
  | n + 1 => by
    have := cnt_both p q n
    simp only [cnt]
    by_cases hp : p n = true <;> by_cases hq : q n = true <;> simp [hp, hq] <;> omega
theorem cnt_not (p : Nat → Bool) : ∀ n, cnt p n + cnt (fun i => !p i) n = n
  | 0 => rfl
  | n + 1 => by
    have := cnt_not p n
    simp only [cnt]
    by_cases hp : p n = true <;> simp [hp] <;> omega
theorem cnt_pos (p : Nat → Bool) : ∀ n, cnt p n = 0 → ∀ i, i < n → p i = false
  | 0, _, i, hi => by omega
  | n + 1, h, i, hi => by
    rw [cnt] at h
    by_cases e : i = n
    · subst e
      cases hp : p i
      · rfl
      · rw [hp] at h; simp at h
    · exact cnt_pos p n (by omega) i (by omega)

theorem land_split (A a B b : Nat) (ha : a < 256) (hb : b < 256) : (256 * A + a) &&& (256 * B + b) = 256 * (A &&& B) + (a &&& b) := by
  have hab : a &&& b < 2 ^ 8 := Nat.lt_of_le_of_lt Nat.and_le_left ha
  apply Nat.eq_of_testBit_eq
  intro j
  have e : (256 : Nat) = 2 ^ 8 := rfl
  rw [e, Nat.testBit_and, Nat.testBit_two_pow_mul_add _ (by omega), Nat.testBit_two_pow_mul_add _ (by omega), Nat.testBit_two_pow_mul_add _ hab]
  split <;> simp

/-- Byte by byte. -/
def bm (f : Nat → Nat) : Nat → Nat → Nat
  | 0, _ => 0
  | k + 1, n => 256 * bm f k (n / 256) + f (n % 256)
def mk (m : Nat) : Nat → Nat
  | 0 => 0
  | k + 1 => 256 * mk m k + m
def f1 (y : Nat) : Nat := (y / 2 &&& 85) + (y &&& 85)
def f2 (y : Nat) : Nat := (y / 4 &&& 51) + (y &&& 51)
def f3 (y : Nat) : Nat := y / 16 + y % 16
def g2 (y : Nat) : Nat := f2 (f1 y)
def h3 (y : Nat) : Nat := f3 (g2 y)
theorem f1_lt : ∀ y : Fin 256, f1 y.val < 256 := by decide +kernel
theorem g2_le : ∀ y : Fin 256, g2 y.val % 16 ≤ 4 ∧ g2 y.val / 16 ≤ 4 := by decide +kernel
theorem h3_cnt : ∀ y : Fin 256, cnt y.val.testBit 8 = h3 y.val := by decide +kernel
theorem h3_le : ∀ y : Fin 256, h3 y.val ≤ 8 := by decide +kernel
theorem half85 : ∀ (y : Fin 256) (b : Fin 2), (y.val / 2 + 128 * b.val) &&& 85 = y.val / 2 &&& 85 := by decide +kernel
theorem half51 : ∀ (y : Fin 256) (b : Fin 4), (y.val / 4 + 64 * b.val) &&& 51 = y.val / 4 &&& 51 := by decide +kernel
theorem low15 (l : Nat) : l &&& 15 = l % 16 := Nat.and_two_pow_sub_one_eq_mod l 4
theorem step1 : ∀ (k n : Nat), (n / 2 &&& mk 85 k) + (n &&& mk 85 k) = bm f1 k n
  | 0, n => by simp [mk, bm]
  | k + 1, n => by
    have ih := step1 k (n / 256)
    have e1 : n / 2 = 256 * (n / 256 / 2) + (n % 256 / 2 + 128 * (n / 256 % 2)) := by omega
    have e2 : n &&& mk 85 (k + 1) = 256 * (n / 256 &&& mk 85 k) + (n % 256 &&& 85) := by
      conv => lhs; rw [show n = 256 * (n / 256) + n % 256 from by omega]
      exact land_split _ _ _ _ (by omega) (by omega)
    have e3 : n / 2 &&& mk 85 (k + 1) = 256 * (n / 256 / 2 &&& mk 85 k) + ((n % 256 / 2 + 128 * (n / 256 % 2)) &&& 85) := by
      rw [e1]
      have : n % 256 / 2 + 128 * (n / 256 % 2) < 256 := by omega
      exact land_split _ _ _ _ this (by omega)
    have e4 := half85 ⟨n % 256, by omega⟩ ⟨n / 256 % 2, by omega⟩
    simp only at e4
    rw [e2, e3, e4, bm, ← ih, f1]
    omega
theorem step2 : ∀ (k n : Nat), (n / 4 &&& mk 51 k) + (n &&& mk 51 k) = bm f2 k n
  | 0, n => by simp [mk, bm]
  | k + 1, n => by
    have ih := step2 k (n / 256)
    have e1 : n / 4 = 256 * (n / 256 / 4) + (n % 256 / 4 + 64 * (n / 256 % 4)) := by omega
    have e2 : n &&& mk 51 (k + 1) = 256 * (n / 256 &&& mk 51 k) + (n % 256 &&& 51) := by
      conv => lhs; rw [show n = 256 * (n / 256) + n % 256 from by omega]
      exact land_split _ _ _ _ (by omega) (by omega)
    have e3 : n / 4 &&& mk 51 (k + 1) = 256 * (n / 256 / 4 &&& mk 51 k) + ((n % 256 / 4 + 64 * (n / 256 % 4)) &&& 51) := by
      rw [e1]
      have : n % 256 / 4 + 64 * (n / 256 % 4) < 256 := by omega
      exact land_split _ _ _ _ this (by omega)
    have e4 := half51 ⟨n % 256, by omega⟩ ⟨n / 256 % 4, by omega⟩
    simp only at e4
    rw [e2, e3, e4, bm, ← ih, f2]
    omega
theorem bm_bm : ∀ (k n : Nat), bm f2 k (bm f1 k n) = bm g2 k n
  | 0, n => rfl
  | k + 1, n => by
    have h := f1_lt ⟨n % 256, by omega⟩
    simp only at h
    rw [bm, bm, bm, show (256 * bm f1 k (n / 256) + f1 (n % 256)) / 256 = bm f1 k (n / 256) from by omega, show (256 * bm f1 k (n / 256) + f1 (n % 256)) % 256 = f1 (n % 256) from by omega, bm_bm k (n / 256)]
    rfl
theorem bm_low (k n : Nat) : bm g2 k n % 16 ≤ 4 := by
  cases k with
  | zero => simp [bm]
  | succ k =>
    have h := g2_le ⟨n % 256, by omega⟩
    simp only at h
    rw [bm]
    omega
theorem step3 : ∀ (k n : Nat), (bm g2 k n / 16 + bm g2 k n) &&& mk 15 k = bm h3 k n
  | 0, n => by simp [mk, bm]
  | k + 1, n => by
    have ih := step3 k (n / 256)
    have h := g2_le ⟨n % 256, by omega⟩
    have hx := bm_low k (n / 256)
    simp only at h
    rw [bm, bm]
    generalize bm g2 k (n / 256) = X at *
    generalize hy : g2 (n % 256) = y at *
    have e1 : (256 * X + y) / 16 + (256 * X + y) = 256 * (X / 16 + X) + (16 * (X % 16) + y / 16 + y) := by omega
    have hl : 16 * (X % 16) + y / 16 + y < 256 := by omega
    rw [e1, mk, land_split _ _ _ _ hl (by omega), ih, low15]
    have e2 : h3 (n % 256) = y / 16 + y % 16 := by rw [h3, hy, f3]
    rw [e2]
    omega
/-- The bytes' sum. -/
def sb (f : Nat → Nat) : Nat → Nat → Nat
  | 0, _ => 0
  | k + 1, n => f (n % 256) + sb f k (n / 256)
theorem cnt_sb : ∀ (k n : Nat), cnt n.testBit (8 * k) = sb h3 k n
  | 0, n => rfl
  | k + 1, n => by
    rw [show 8 * (k + 1) = 8 + 8 * k from by omega, cnt_add, sb, ← cnt_sb k (n / 256)]
    have e1 := h3_cnt ⟨n % 256, by omega⟩
    simp only at e1
    rw [← e1]
    congr 1
    · apply cnt_congr
      intro i hi
      have : n % 256 = n % 2 ^ 8 := rfl
      rw [this, Nat.testBit_mod_two_pow]
      simp [hi]
    · apply cnt_congr
      intro i hi
      have : n / 256 = n / 2 ^ 8 := rfl
      rw [this, Nat.testBit_div_two_pow, Nat.add_comm]
theorem dv (m q r b : Nat) (h : b = m * q + r) (hr : r < m) : b / m = q := by
  subst h
  rw [Nat.mul_add_div (by omega), Nat.div_eq_of_lt hr, Nat.add_zero]
theorem md (m q r b : Nat) (h : b = m * q + r) (hr : r < m) : b % m = r := by
  subst h
  rw [Nat.mul_add_mod, Nat.mod_eq_of_lt hr]
theorem idn1 (c0 c1 c2 c3 c4 c5 c6 c7 : Nat) : c0 + 256 * c1 + 65536 * c2 + 16777216 * c3 + 4294967296 * c4 + 1099511627776 * c5 + 281474976710656 * c6 + 72057594037927936 * c7 = 256 * (c1 + 256 * c2 + 65536 * c3 + 16777216 * c4 + 4294967296 * c5 + 1099511627776 * c6 + 281474976710656 * c7) + c0 := by omega
theorem idn2 (c0 c1 c2 c3 c4 c5 c6 c7 : Nat) : (c0 + 256 * c1 + 65536 * c2 + 16777216 * c3 + 4294967296 * c4 + 1099511627776 * c5 + 281474976710656 * c6 + 72057594037927936 * c7) + (c1 + 256 * c2 + 65536 * c3 + 16777216 * c4 + 4294967296 * c5 + 1099511627776 * c6 + 281474976710656 * c7) = 65536 * ((c2 + c3) + 256 * (c3 + c4) + 65536 * (c4 + c5) + 16777216 * (c5 + c6) + 4294967296 * (c6 + c7) + 1099511627776 * c7) + (c0 + c1 + 256 * (c1 + c2)) := by omega
theorem idn3 (c0 c1 c2 c3 c4 c5 c6 c7 : Nat) : (c0 + 256 * c1 + 65536 * c2 + 16777216 * c3 + 4294967296 * c4 + 1099511627776 * c5 + 281474976710656 * c6 + 72057594037927936 * c7) + (c1 + 256 * c2 + 65536 * c3 + 16777216 * c4 + 4294967296 * c5 + 1099511627776 * c6 + 281474976710656 * c7) + ((c2 + c3) + 256 * (c3 + c4) + 65536 * (c4 + c5) + 16777216 * (c5 + c6) + 4294967296 * (c6 + c7) + 1099511627776 * c7) = 4294967296 * ((c4 + c5 + c6 + c7) + 256 * (c5 + c6 + c7) + 65536 * (c6 + c7) + 16777216 * c7) + (c0 + c1 + c2 + c3 + 256 * (c1 + c2 + c3 + c4) + 65536 * (c2 + c3 + c4 + c5) + 16777216 * (c3 + c4 + c5 + c6)) := by omega
theorem idn4 (c0 c1 c2 c3 c4 c5 c6 c7 : Nat) : (c0 + 256 * c1 + 65536 * c2 + 16777216 * c3 + 4294967296 * c4 + 1099511627776 * c5 + 281474976710656 * c6 + 72057594037927936 * c7) + (c1 + 256 * c2 + 65536 * c3 + 16777216 * c4 + 4294967296 * c5 + 1099511627776 * c6 + 281474976710656 * c7) + ((c2 + c3) + 256 * (c3 + c4) + 65536 * (c4 + c5) + 16777216 * (c5 + c6) + 4294967296 * (c6 + c7) + 1099511627776 * c7) + ((c4 + c5 + c6 + c7) + 256 * (c5 + c6 + c7) + 65536 * (c6 + c7) + 16777216 * c7) = 128 * (2 * ((c1 + c2 + c3 + c4 + (c5 + c6 + c7)) + 256 * (c2 + c3 + c4 + c5 + (c6 + c7)) + 65536 * (c3 + c4 + c5 + c6 + c7) + 16777216 * (c4 + c5 + c6 + c7) + 4294967296 * (c5 + c6 + c7) + 1099511627776 * (c6 + c7) + 281474976710656 * c7)) + (c0 + c1 + c2 + c3 + c4 + c5 + c6 + c7) := by omega
theorem bnd2 (c0 c1 c2 c3 c4 c5 c6 c7 : Nat) (k0 : c0 ≤ 8) (k1 : c1 ≤ 8) (k2 : c2 ≤ 8) (k3 : c3 ≤ 8) (k4 : c4 ≤ 8) (k5 : c5 ≤ 8) (k6 : c6 ≤ 8) (k7 : c7 ≤ 8) : c0 + c1 + 256 * (c1 + c2) < 65536 := by omega
theorem bnd3 (c0 c1 c2 c3 c4 c5 c6 c7 : Nat) (k0 : c0 ≤ 8) (k1 : c1 ≤ 8) (k2 : c2 ≤ 8) (k3 : c3 ≤ 8) (k4 : c4 ≤ 8) (k5 : c5 ≤ 8) (k6 : c6 ≤ 8) (k7 : c7 ≤ 8) : c0 + c1 + c2 + c3 + 256 * (c1 + c2 + c3 + c4) + 65536 * (c2 + c3 + c4 + c5) + 16777216 * (c3 + c4 + c5 + c6) < 4294967296 := by omega
theorem bnd4 (c0 c1 c2 c3 c4 c5 c6 c7 : Nat) (k0 : c0 ≤ 8) (k1 : c1 ≤ 8) (k2 : c2 ≤ 8) (k3 : c3 ≤ 8) (k4 : c4 ≤ 8) (k5 : c5 ≤ 8) (k6 : c6 ≤ 8) (k7 : c7 ≤ 8) : c0 + c1 + c2 + c3 + c4 + c5 + c6 + c7 < 128 := by omega
theorem bnd5 (c0 c1 c2 c3 c4 c5 c6 c7 : Nat) (k0 : c0 ≤ 8) (k1 : c1 ≤ 8) (k2 : c2 ≤ 8) (k3 : c3 ≤ 8) (k4 : c4 ≤ 8) (k5 : c5 ≤ 8) (k6 : c6 ≤ 8) (k7 : c7 ≤ 8) : (c0 + 256 * c1 + 65536 * c2 + 16777216 * c3 + 4294967296 * c4 + 1099511627776 * c5 + 281474976710656 * c6 + 72057594037927936 * c7) + (c1 + 256 * c2 + 65536 * c3 + 16777216 * c4 + 4294967296 * c5 + 1099511627776 * c6 + 281474976710656 * c7) + ((c2 + c3) + 256 * (c3 + c4) + 65536 * (c4 + c5) + 16777216 * (c5 + c6) + 4294967296 * (c6 + c7) + 1099511627776 * c7) + ((c4 + c5 + c6 + c7) + 256 * (c5 + c6 + c7) + 65536 * (c6 + c7) + 16777216 * c7) < 18446744073709551616 := by omega
theorem fold_plain (c0 c1 c2 c3 c4 c5 c6 c7 a b c d : Nat) (k0 : c0 ≤ 8) (k1 : c1 ≤ 8) (k2 : c2 ≤ 8) (k3 : c3 ≤ 8) (k4 : c4 ≤ 8) (k5 : c5 ≤ 8) (k6 : c6 ≤ 8) (k7 : c7 ≤ 8)
    (ha : a = c0 + 256 * c1 + 65536 * c2 + 16777216 * c3 + 4294967296 * c4 + 1099511627776 * c5 + 281474976710656 * c6 + 72057594037927936 * c7)
    (hb : b = a + a / 256) (hc : c = b + b / 65536) (hd : d = c + c / 4294967296) :
    a < 18446744073709551616 ∧ b < 18446744073709551616 ∧ c < 18446744073709551616 ∧ d < 18446744073709551616 ∧ d % 128 = c0 + c1 + c2 + c3 + c4 + c5 + c6 + c7 := by
  have e1 : a / 256 = c1 + 256 * c2 + 65536 * c3 + 16777216 * c4 + 4294967296 * c5 + 1099511627776 * c6 + 281474976710656 * c7 := dv 256 _ c0 a (ha.trans (idn1 c0 c1 c2 c3 c4 c5 c6 c7)) (Nat.lt_of_le_of_lt k0 (by decide))
  rw [e1, ha] at hb
  have e2 : b / 65536 = (c2 + c3) + 256 * (c3 + c4) + 65536 * (c4 + c5) + 16777216 * (c5 + c6) + 4294967296 * (c6 + c7) + 1099511627776 * c7 := dv 65536 _ (c0 + c1 + 256 * (c1 + c2)) b (hb.trans (idn2 c0 c1 c2 c3 c4 c5 c6 c7)) (bnd2 c0 c1 c2 c3 c4 c5 c6 c7 k0 k1 k2 k3 k4 k5 k6 k7)
  rw [e2, hb] at hc
  have e3 : c / 4294967296 = (c4 + c5 + c6 + c7) + 256 * (c5 + c6 + c7) + 65536 * (c6 + c7) + 16777216 * c7 := dv 4294967296 _ (c0 + c1 + c2 + c3 + 256 * (c1 + c2 + c3 + c4) + 65536 * (c2 + c3 + c4 + c5) + 16777216 * (c3 + c4 + c5 + c6)) c (hc.trans (idn3 c0 c1 c2 c3 c4 c5 c6 c7)) (bnd3 c0 c1 c2 c3 c4 c5 c6 c7 k0 k1 k2 k3 k4 k5 k6 k7)
  rw [e3, hc] at hd
  have e4 : d % 128 = c0 + c1 + c2 + c3 + c4 + c5 + c6 + c7 := md 128 (2 * ((c1 + c2 + c3 + c4 + (c5 + c6 + c7)) + 256 * (c2 + c3 + c4 + c5 + (c6 + c7)) + 65536 * (c3 + c4 + c5 + c6 + c7) + 16777216 * (c4 + c5 + c6 + c7) + 4294967296 * (c5 + c6 + c7) + 1099511627776 * (c6 + c7) + 281474976710656 * c7)) _ d (hd.trans (idn4 c0 c1 c2 c3 c4 c5 c6 c7)) (bnd4 c0 c1 c2 c3 c4 c5 c6 c7 k0 k1 k2 k3 k4 k5 k6 k7)
  have b5 := bnd5 c0 c1 c2 c3 c4 c5 c6 c7 k0 k1 k2 k3 k4 k5 k6 k7
  rw [← hd] at b5
  have l1 : c ≤ d := by rw [hd, hc]; exact Nat.le_add_right _ _
  have l2 : b ≤ c := by rw [hc, hb]; exact Nat.le_add_right _ _
  have l3 : a ≤ b := by rw [hb, ha]; exact Nat.le_add_right _ _
  exact ⟨Nat.lt_of_le_of_lt (Nat.le_trans l3 (Nat.le_trans l2 l1)) b5, Nat.lt_of_le_of_lt (Nat.le_trans l2 l1) b5, Nat.lt_of_le_of_lt l1 b5, b5, e4⟩
theorem flat_bytes (c0 c1 c2 c3 c4 c5 c6 c7 : Nat) : 256 * (256 * (256 * (256 * (256 * (256 * (256 * (256 * 0 + c7) + c6) + c5) + c4) + c3) + c2) + c1) + c0 = c0 + 256 * c1 + 65536 * c2 + 16777216 * c3 + 4294967296 * c4 + 1099511627776 * c5 + 281474976710656 * c6 + 72057594037927936 * c7 := by omega
theorem sum_bytes (c0 c1 c2 c3 c4 c5 c6 c7 : Nat) : c0 + c1 + c2 + c3 + c4 + c5 + c6 + c7 = c0 + (c1 + (c2 + (c3 + (c4 + (c5 + (c6 + (c7 + 0))))))) := by omega
theorem fold_bytes (n a b c d : Nat) (ha : a = bm h3 8 n) (hb : b = a + a / 256) (hc : c = b + b / 65536) (hd : d = c + c / 4294967296) :
    a < 18446744073709551616 ∧ b < 18446744073709551616 ∧ c < 18446744073709551616 ∧ d < 18446744073709551616 ∧ d % 128 = sb h3 8 n := by
  have key : ∀ m : Nat, h3 (m % 256) ≤ 8 := fun m => h3_le ⟨m % 256, Nat.mod_lt _ (by decide)⟩
  have h := fold_plain _ _ _ _ _ _ _ _ a b c d (key n) (key (n / 256)) (key (n / 256 / 256)) (key (n / 256 / 256 / 256)) (key (n / 256 / 256 / 256 / 256)) (key (n / 256 / 256 / 256 / 256 / 256)) (key (n / 256 / 256 / 256 / 256 / 256 / 256)) (key (n / 256 / 256 / 256 / 256 / 256 / 256 / 256)) (ha.trans (flat_bytes _ _ _ _ _ _ _ _)) hb hc hd
  exact ⟨h.1, h.2.1, h.2.2.1, h.2.2.2.1, h.2.2.2.2.trans (sum_bytes _ _ _ _ _ _ _ _)⟩
end Go.Proofs.Ytmdfdlljeggbbaa
