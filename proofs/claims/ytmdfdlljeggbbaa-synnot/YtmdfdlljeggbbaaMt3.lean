/- Plain mathematics of classes, third part: what a class has; and, or, not, add; how many. -/
import Derived.Test.YtmdfdlljeggbbaaMt2
set_option linter.unusedSimpArgs false
set_option linter.unusedVariables false
namespace Go.Proofs.Ytmdfdlljeggbbaa
open Go.RowKit

def okW (x : Int) : Prop := 0 ≤ x ∧ x < 18446744073709551616
def C4.ok (k : C4) : Prop := okW k.a ∧ okW k.b ∧ okW k.c ∧ okW k.d
theorem C4.ok_w {k : C4} (h : k.ok) (i : Nat) : okW (k.w i) := by
  unfold C4.w
  split
  · exact h.1
  · split
    · exact h.2.1
    · split
      · exact h.2.2.1
      · exact h.2.2.2
/-- What a class has. -/
def C4.has (k : C4) (i : Nat) : Bool := (k.w (i / 64)).toNat.testBit (i % 64)

theorem okW_nat {x : Int} (h : okW x) : ∃ n : Nat, x = (n : Int) ∧ n < 18446744073709551616 := by
  unfold okW at h
  exact ⟨x.toNat, by omega, by omega⟩
theorem tb_eq (n j : Nat) : n.testBit j = decide (n / 2 ^ j % 2 = 1) := by
  rw [Nat.testBit_eq_decide_div_mod_eq]
theorem bit_and1 (n j : Nat) (h : n < 18446744073709551616) : (bits .and .u64 ((n : Int) / 2 ^ j) 1 == 1) = n.testBit j := by
  have e : (n : Int) / 2 ^ j = ((n / 2 ^ j : Nat) : Int) := by rw [Int.natCast_ediv, Int.natCast_pow]; rfl
  have hl : n / 2 ^ j < 18446744073709551616 := Nat.lt_of_le_of_lt (Nat.div_le_self _ _) h
  have a1 := u64_and_nat (n / 2 ^ j) 1 hl (by omega)
  rw [e, show (1 : Int) = ((1 : Nat) : Int) from rfl, a1, nat_mask1, tb_eq]
  generalize n / 2 ^ j % 2 = z
  by_cases hz : z = 1
  · simp [hz]
  · simp only [hz, decide_false]
    rw [beq_eq_false_iff_ne]
    intro e
    exact hz (Int.ofNat_inj.1 e)
theorem C4.hasI_eq (k : C4) (h : k.ok) (i : Nat) : k.hasI (i : Int) = k.has i := by
  obtain ⟨n, hn, hl⟩ := okW_nat (C4.ok_w h (i / 64))
  have e1 : ((i : Int) / 64).toNat = i / 64 := by omega
  have e2 : ((i : Int) % 64).toNat = i % 64 := by omega
  unfold C4.hasI C4.has
  rw [e1, e2, hn, Int.toNat_natCast]
  exact bit_and1 n _ hl
theorem C4.p_eq (k : C4) (h : k.ok) : k.p = k.has := by
  funext i
  exact C4.hasI_eq k h i

theorem word_ext {x y : Int} (hx : okW x) (hy : okW y) (h : ∀ j, j < 64 → x.toNat.testBit j = y.toNat.testBit j) : x = y := by
  obtain ⟨n, rfl, hn⟩ := okW_nat hx
  obtain ⟨m, rfl, hm⟩ := okW_nat hy
  simp only [Int.toNat_natCast] at h
  have : n = m := by
    apply Nat.eq_of_testBit_eq
    intro j
    by_cases hj : j < 64
    · exact h j hj
    · have p : (18446744073709551616 : Nat) = 2 ^ 64 := by decide
      have q : 2 ^ 64 ≤ 2 ^ j := Nat.pow_le_pow_right (by decide) (by omega)
      rw [Nat.testBit_lt_two_pow (Nat.lt_of_lt_of_le (p ▸ hn) q), Nat.testBit_lt_two_pow (Nat.lt_of_lt_of_le (p ▸ hm) q)]
  rw [this]
theorem C4.ext_has {x y : C4} (hx : x.ok) (hy : y.ok) (h : ∀ i, i < 256 → x.has i = y.has i) : x = y := by
  have key : ∀ q, q < 4 → x.w q = y.w q := by
    intro q hq
    apply word_ext (C4.ok_w hx q) (C4.ok_w hy q)
    intro j hj
    have := h (64 * q + j) (by omega)
    unfold C4.has at this
    rwa [show (64 * q + j) / 64 = q from by omega, show (64 * q + j) % 64 = j from by omega] at this
  have k0 := key 0 (by decide)
  have k1 := key 1 (by decide)
  have k2 := key 2 (by decide)
  have k3 := key 3 (by decide)
  cases x; cases y
  simp [C4.w] at k0 k1 k2 k3
  simp [k0, k1, k2, k3]

theorem and_ok {x y : Int} (hx : okW x) (hy : okW y) : okW (bits .and .u64 x y) ∧ ∀ j, (bits .and .u64 x y).toNat.testBit j = (x.toNat.testBit j && y.toNat.testBit j) := by
  obtain ⟨n, rfl, hn⟩ := okW_nat hx
  obtain ⟨m, rfl, hm⟩ := okW_nat hy
  rw [u64_and_nat n m hn hm]
  have : n &&& m ≤ n := Nat.and_le_left
  refine ⟨⟨by omega, by omega⟩, fun j => ?_⟩
  simp only [Int.toNat_natCast, Nat.testBit_and]
theorem or_ok {x y : Int} (hx : okW x) (hy : okW y) : okW (bits .or .u64 x y) ∧ ∀ j, (bits .or .u64 x y).toNat.testBit j = (x.toNat.testBit j || y.toNat.testBit j) := by
  obtain ⟨n, rfl, hn⟩ := okW_nat hx
  obtain ⟨m, rfl, hm⟩ := okW_nat hy
  rw [u64_or_nat n m hn hm]
  have : n ||| m < 2 ^ 64 := Nat.or_lt_two_pow hn hm
  refine ⟨⟨by omega, by omega⟩, fun j => ?_⟩
  simp only [Int.toNat_natCast, Nat.testBit_or]
theorem not_ok {x : Int} (hx : okW x) : okW (not64 x) ∧ ∀ j, j < 64 → (not64 x).toNat.testBit j = !x.toNat.testBit j := by
  obtain ⟨n, rfl, hn⟩ := okW_nat hx
  have hm : IntKind.u64.max = ((18446744073709551615 : Nat) : Int) := by decide
  have e : not64 (n : Int) = (((2 ^ 64 - 1) ^^^ n : Nat) : Int) := by
    rw [not64, hm, u64_xor_nat _ n (by omega) hn]
  rw [e]
  have : (2 ^ 64 - 1) ^^^ n < 2 ^ 64 := Nat.xor_lt_two_pow (by decide) hn
  refine ⟨⟨by omega, by omega⟩, fun j hj => ?_⟩
  rw [Int.toNat_natCast, Int.toNat_natCast, Nat.testBit_xor, Nat.testBit_two_pow_sub_one]
  simp [hj]
theorem C4.and_ok {x y : C4} (hx : x.ok) (hy : y.ok) : (x.and y).ok := ⟨(Go.Proofs.Ytmdfdlljeggbbaa.and_ok hx.1 hy.1).1, (Go.Proofs.Ytmdfdlljeggbbaa.and_ok hx.2.1 hy.2.1).1, (Go.Proofs.Ytmdfdlljeggbbaa.and_ok hx.2.2.1 hy.2.2.1).1, (Go.Proofs.Ytmdfdlljeggbbaa.and_ok hx.2.2.2 hy.2.2.2).1⟩
theorem C4.or_ok {x y : C4} (hx : x.ok) (hy : y.ok) : (x.or y).ok := ⟨(Go.Proofs.Ytmdfdlljeggbbaa.or_ok hx.1 hy.1).1, (Go.Proofs.Ytmdfdlljeggbbaa.or_ok hx.2.1 hy.2.1).1, (Go.Proofs.Ytmdfdlljeggbbaa.or_ok hx.2.2.1 hy.2.2.1).1, (Go.Proofs.Ytmdfdlljeggbbaa.or_ok hx.2.2.2 hy.2.2.2).1⟩
theorem C4.not_ok {x : C4} (hx : x.ok) : x.not.ok := ⟨(Go.Proofs.Ytmdfdlljeggbbaa.not_ok hx.1).1, (Go.Proofs.Ytmdfdlljeggbbaa.not_ok hx.2.1).1, (Go.Proofs.Ytmdfdlljeggbbaa.not_ok hx.2.2.1).1, (Go.Proofs.Ytmdfdlljeggbbaa.not_ok hx.2.2.2).1⟩
theorem C4.and_w (x y : C4) (i : Nat) : (x.and y).w i = bits .and .u64 (x.w i) (y.w i) := by
  unfold C4.w C4.and
  split
  · rfl
  · split
    · rfl
    · split <;> rfl
theorem C4.or_w (x y : C4) (i : Nat) : (x.or y).w i = bits .or .u64 (x.w i) (y.w i) := by
  unfold C4.w C4.or
  split
  · rfl
  · split
    · rfl
    · split <;> rfl
theorem C4.not_w (x : C4) (i : Nat) : x.not.w i = not64 (x.w i) := by
  unfold C4.w C4.not
  split
  · rfl
  · split
    · rfl
    · split <;> rfl
theorem C4.has_and {x y : C4} (hx : x.ok) (hy : y.ok) (i : Nat) : (x.and y).has i = (x.has i && y.has i) := by
  unfold C4.has
  rw [C4.and_w]
  exact (Go.Proofs.Ytmdfdlljeggbbaa.and_ok (C4.ok_w hx _) (C4.ok_w hy _)).2 _
theorem C4.has_or {x y : C4} (hx : x.ok) (hy : y.ok) (i : Nat) : (x.or y).has i = (x.has i || y.has i) := by
  unfold C4.has
  rw [C4.or_w]
  exact (Go.Proofs.Ytmdfdlljeggbbaa.or_ok (C4.ok_w hx _) (C4.ok_w hy _)).2 _
theorem C4.has_not {x : C4} (hx : x.ok) (i : Nat) : x.not.has i = !x.has i := by
  unfold C4.has
  rw [C4.not_w]
  exact (Go.Proofs.Ytmdfdlljeggbbaa.not_ok (C4.ok_w hx _)).2 _ (by omega)
theorem z4_ok : z4.ok := by
  unfold C4.ok okW z4
  simp
theorem z4_has (i : Nat) : z4.has i = false := by
  unfold C4.has C4.w z4
  split
  · simp
  · split
    · simp
    · split <;> simp

/-! One byte more -/
theorem pow_small (j : Nat) (h : j < 64) : okW (IntKind.u64.wrap (2 ^ j)) ∧ ∀ i, (IntKind.u64.wrap (2 ^ j)).toNat.testBit i = decide (j = i) := by
  have e : IntKind.u64.wrap (2 ^ j) = ((2 ^ j : Nat) : Int) := by
    have h2 : 2 ^ j < 2 ^ 64 := Nat.pow_lt_pow_right (by decide) h
    have := u64_small (2 ^ j) (by omega)
    rw [Int.natCast_pow] at this
    rw [Int.natCast_pow]
    exact this
  have h2 : 2 ^ j < 2 ^ 64 := Nat.pow_lt_pow_right (by decide) h
  rw [e]
  refine ⟨⟨Int.natCast_nonneg _, Int.ofNat_lt.2 h2⟩, fun i => ?_⟩
  rw [Int.toNat_natCast, Nat.testBit_two_pow]
theorem C4.put_w (k : C4) (q : Nat) (hq : q < 4) (z : Int) (i : Nat) (hi : i < 4) : (k.put q z).w i = if i = q then z else k.w i := by
  match q, hq, i, hi with
  | 0, _, 0, _ | 0, _, 1, _ | 0, _, 2, _ | 0, _, 3, _ | 1, _, 0, _ | 1, _, 1, _ | 1, _, 2, _ | 1, _, 3, _ | 2, _, 0, _ | 2, _, 1, _ | 2, _, 2, _ | 2, _, 3, _ | 3, _, 0, _ | 3, _, 1, _ | 3, _, 2, _ | 3, _, 3, _ => simp [C4.put, C4.w]
theorem C4.put_ok {k : C4} (h : k.ok) (q : Nat) {z : Int} (hz : okW z) : (k.put q z).ok := by
  unfold C4.put C4.ok
  refine ⟨?_, ?_, ?_, ?_⟩
  · simp only; split
    · exact hz
    · exact h.1
  · simp only; split
    · exact hz
    · exact h.2.1
  · simp only; split
    · exact hz
    · exact h.2.2.1
  · simp only; split
    · exact hz
    · exact h.2.2.2
theorem C4.add_ok {k : C4} (h : k.ok) (n : Nat) : (k.add (n : Int)).ok :=
  C4.put_ok h _ (Go.Proofs.Ytmdfdlljeggbbaa.or_ok (C4.ok_w h _) (pow_small _ (by omega)).1).1
theorem C4.has_add {k : C4} (h : k.ok) (n i : Nat) (hn : n < 256) (hi : i < 256) : (k.add (n : Int)).has i = (k.has i || decide (n = i)) := by
  have e1 : ((n : Int) / 64).toNat = n / 64 := by omega
  have e2 : ((n : Int) % 64).toNat = n % 64 := by omega
  unfold C4.add C4.has
  rw [e1, e2, C4.put_w k (n / 64) (by omega) _ (i / 64) (by omega)]
  by_cases hq : i / 64 = n / 64
  · rw [if_pos hq, (Go.Proofs.Ytmdfdlljeggbbaa.or_ok (C4.ok_w h _) (pow_small _ (by omega)).1).2, (pow_small _ (by omega)).2, hq]
    congr 1
    have : (n % 64 = i % 64) = (n = i) := by apply propext; omega
    simp only [this]
  · rw [if_neg hq]
    have : ¬ n = i := by omega
    simp [this]
theorem ofL_ok : ∀ (l : List UInt8), (C4.ofL l).ok := by
  have key : ∀ (l : List UInt8) (k : C4), k.ok → (l.foldl (fun k c => k.add (c.toNat : Int)) k).ok := by
    intro l
    induction l with
    | nil => intro k h; exact h
    | cons c l ih => intro k h; exact ih _ (C4.add_ok h _)
  intro l
  exact key l z4 z4_ok
theorem ofL_has (l : List UInt8) (i : Nat) (hi : i < 256) : (C4.ofL l).has i = decide (∃ c ∈ l, c.toNat = i) := by
  have key : ∀ (l : List UInt8) (k : C4), k.ok → (l.foldl (fun k c => k.add (c.toNat : Int)) k).has i = (k.has i || decide (∃ c ∈ l, c.toNat = i)) := by
    intro l
    induction l with
    | nil => intro k h; simp
    | cons c l ih =>
      intro k h
      rw [List.foldl_cons, ih _ (C4.add_ok h _), C4.has_add h _ _ c.toNat_lt hi, Bool.or_assoc]
      congr 1
      simp
  have := key l z4 z4_ok
  rw [z4_has, Bool.false_or] at this
  exact this

/-! How many -/
theorem many_cnt {k : C4} (h : k.ok) : k.many 4 = ((cnt k.has 256 : Nat) : Int) := by
  have key : ∀ n, n ≤ 4 → k.many n = ((cnt k.has (64 * n) : Nat) : Int) := by
    intro n
    induction n with
    | zero => intro _; rfl
    | succ n ih =>
      intro hn
      obtain ⟨m, hm, hl⟩ := okW_nat (C4.ok_w h n)
      have h1 := cnt_le k.has (64 * n)
      have h2 := cnt_le m.testBit 64
      rw [C4.many, ih (by omega), hm, ones_nat m hl, show 64 * (n + 1) = 64 * n + 64 from by omega, cnt_add]
      have e : cnt (fun j => k.has (64 * n + j)) 64 = cnt m.testBit 64 := by
        apply cnt_congr
        intro i hi
        unfold C4.has
        rw [show (64 * n + i) / 64 = n from by omega, show (64 * n + i) % 64 = i from by omega, hm, Int.toNat_natCast]
      rw [e]
      unfold wrap64
      omega
  exact key 4 (Nat.le_refl _)
theorem eqb_self (x : C4) : x.eqb x = true := (C4.eqb_iff x x).2 rfl
theorem deMorgan {x y : C4} (hx : x.ok) (hy : y.ok) : (x.and y).not = x.not.or y.not := by
  apply C4.ext_has (C4.not_ok (C4.and_ok hx hy)) (C4.or_ok (C4.not_ok hx) (C4.not_ok hy))
  intro i hi
  rw [C4.has_not (C4.and_ok hx hy), C4.has_and hx hy, C4.has_or (C4.not_ok hx) (C4.not_ok hy), C4.has_not hx, C4.has_not hy, Bool.not_and]
theorem not_not4 {x : C4} (hx : x.ok) : x.not.not = x := by
  apply C4.ext_has (C4.not_ok (C4.not_ok hx)) hx
  intro i hi
  rw [C4.has_not (C4.not_ok hx), C4.has_not hx, Bool.not_not]
theorem many_both {x y : C4} (hx : x.ok) (hy : y.ok) : (x.and y).many 4 + (x.or y).many 4 = x.many 4 + y.many 4 := by
  rw [many_cnt (C4.and_ok hx hy), many_cnt (C4.or_ok hx hy), many_cnt hx, many_cnt hy]
  have h := cnt_both x.has y.has 256
  rw [← cnt_congr (x.and y).has _ 256 (fun i _ => C4.has_and hx hy i), ← cnt_congr (x.or y).has _ 256 (fun i _ => C4.has_or hx hy i)] at h
  omega
theorem many_not {x : C4} (hx : x.ok) : x.many 4 + x.not.many 4 = 256 := by
  rw [many_cnt hx, many_cnt (C4.not_ok hx)]
  have h := cnt_not x.has 256
  rw [← cnt_congr x.not.has _ 256 (fun i _ => C4.has_not hx i)] at h
  omega
end Go.Proofs.Ytmdfdlljeggbbaa
