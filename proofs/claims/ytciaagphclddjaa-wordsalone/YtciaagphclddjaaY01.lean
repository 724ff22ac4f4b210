/- Plain mathematics of classes (four words of 64 bits), with no program in it: what a class holds, the words' arithmetic, the texts of bytes, runs and classes. Plain mathematics of classes: bits, how many, that two classes have other texts. No program in it. Plain mathematics of classes, second part: the library's bit count is the number of bits. Plain mathematics of classes, third part: what a class has; and, or, not, add; how many. A class as an argument: opened and shut. -/
import Derived.WalkKit
import Derived.Lib.Builder
import Derived.Lib.Bytealg
import Derived.Test.YtciaagphclddjaaProg
import Derived.ProofKit
import Derived.OpenShut
import Derived.Laws.IdiomArrays
namespace Go.Proofs.Ytciaagphclddjaa
set_option linter.unusedSimpArgs false
set_option linter.unusedVariables false
open Go.RowKit

/-- Four words. -/
structure C4 where
  a : Int
  b : Int
  c : Int
  d : Int
def C4.w (x : C4) (i : Nat) : Int := if i = 0 then x.a else if i = 1 then x.b else if i = 2 then x.c else x.d
def C4.put (k : C4) (i : Nat) (z : Int) : C4 := ⟨if i = 0 then z else k.a, if i = 1 then z else k.b, if i = 2 then z else k.c, if i = 3 then z else k.d⟩
abbrev C4.cells (k : C4) : Array Value := #[.int .u64 k.a, .int .u64 k.b, .int .u64 k.c, .int .u64 k.d]
abbrev C4.v (k : C4) : Value := .agg #[.int .u64 k.a, .int .u64 k.b, .int .u64 k.c, .int .u64 k.d]
def z4 : C4 := ⟨0, 0, 0, 0⟩
theorem C4.get (x : C4) (i : Nat) (h : i < 4) : ([.int .u64 x.a, .int .u64 x.b, .int .u64 x.c, .int .u64 x.d] : List Value)[i]? = some (.int .u64 (x.w i)) := by
  match i, h with
  | 0, _ => rfl
  | 1, _ => rfl
  | 2, _ => rfl
  | 3, _ => rfl
theorem C4.set (x : C4) (i : Nat) (h : i < 4) (z : Int) : ([.int .u64 x.a, .int .u64 x.b, .int .u64 x.c, .int .u64 x.d] : List Value).set i (.int .u64 z) = [.int .u64 (x.put i z).a, .int .u64 (x.put i z).b, .int .u64 (x.put i z).c, .int .u64 (x.put i z).d] := by
  match i, h with
  | 0, _ => rfl
  | 1, _ => rfl
  | 2, _ => rfl
  | 3, _ => rfl
def C4.eqb (x y : C4) : Bool := x.a == y.a && (x.b == y.b && (x.c == y.c && x.d == y.d))
theorem C4.eqb_iff (x y : C4) : C4.eqb x y = true ↔ x = y := by
  cases x; cases y; simp [C4.eqb]

/-! What the Go functions compute, on words -/
def C4.add (k : C4) (x : Int) : C4 := k.put (x / 64).toNat (bits .or .u64 (k.w (x / 64).toNat) (IntKind.u64.wrap (2 ^ (x % 64).toNat)))
def C4.hasI (k : C4) (x : Int) : Bool := bits .and .u64 (k.w (x / 64).toNat / 2 ^ (x % 64).toNat) 1 == 1
def jn (F : Int → Int → Int) (x y : C4) (k : Nat) : C4 := ⟨if 0 < k then F x.a y.a else 0, if 1 < k then F x.b y.b else 0, if 2 < k then F x.c y.c else 0, if 3 < k then F x.d y.d else 0⟩
theorem jn_put (F : Int → Int → Int) (x y : C4) (k : Nat) (h : k < 4) : (jn F x y k).put k (F (x.w k) (y.w k)) = jn F x y (k + 1) := by
  match k, h with
  | 0, _ => rfl
  | 1, _ => rfl
  | 2, _ => rfl
  | 3, _ => rfl
def C4.and (x y : C4) : C4 := ⟨bits .and .u64 x.a y.a, bits .and .u64 x.b y.b, bits .and .u64 x.c y.c, bits .and .u64 x.d y.d⟩
def C4.or (x y : C4) : C4 := ⟨bits .or .u64 x.a y.a, bits .or .u64 x.b y.b, bits .or .u64 x.c y.c, bits .or .u64 x.d y.d⟩
def not64 (x : Int) : Int := bits .xor .u64 IntKind.u64.max x
def C4.not (x : C4) : C4 := ⟨not64 x.a, not64 x.b, not64 x.c, not64 x.d⟩
def o1 (x : Int) : Int := IntKind.u64.wrap (bits BinOp.and IntKind.u64 (x / 2) 6148914691236517205 + bits BinOp.and IntKind.u64 x 6148914691236517205)
def o2 (x : Int) : Int := IntKind.u64.wrap (bits BinOp.and IntKind.u64 (x / 4) 3689348814741910323 + bits BinOp.and IntKind.u64 x 3689348814741910323)
def o3 (x : Int) : Int := bits BinOp.and IntKind.u64 (IntKind.u64.wrap (x / 16 + x)) 1085102592571150095
def o4 (s : Int) (x : Int) : Int := IntKind.u64.wrap (x + x / s)
def ones (x : Int) : Int := bits BinOp.and IntKind.i64 (wrap64 (o4 4294967296 (o4 65536 (o4 256 (o3 (o2 (o1 x))))))) 127
def C4.many (k : C4) : Nat → Int
  | 0 => 0
  | n + 1 => wrap64 (k.many n + ones (k.w n))
def C4.ofL (l : List UInt8) : C4 := l.foldl (fun k c => k.add (c.toNat : Int)) z4
theorem C4.ofL_snoc (l : List UInt8) (c : UInt8) : C4.ofL (l ++ [c]) = (C4.ofL l).add (c.toNat : Int) := by simp [C4.ofL]

/-! Texts -/
def hexd (k : Nat) : UInt8 := if k < 10 then (48 + k).toUInt8 else (87 + k).toUInt8
def signL : List UInt8 := [92, 46, 91, 93, 40, 41, 124, 42, 43, 63, 94, 36, 45]
def bt (n : Nat) : List UInt8 :=
  if n < 32 ∨ 126 < n then [92, 120, hexd (n / 16), hexd (n % 16)]
  else if n.toUInt8 ∈ signL then [92, n.toUInt8] else [n.toUInt8]
def rt (i j : Nat) : List UInt8 := if j = i then bt i else if j = i + 1 then bt i ++ bt j else bt i ++ 45 :: bt j
def rEnd (p : Nat → Bool) : Nat → Nat → Nat
  | 0, i => i
  | f + 1, i => if p i then rEnd p f (i + 1) else i
def runsL (p : Nat → Bool) : Nat → Nat → List UInt8
  | 0, _ => []
  | f + 1, i => if i < 256 then (if i < rEnd p (256 - i) i then rt i (rEnd p (256 - i) i - 1) else []) ++ runsL p f (rEnd p (256 - i) i + 1) else []

theorem bt_hex (n : Nat) (h : n < 256) (h2 : n < 32 ∨ 126 < n) :
    (({ data := #[92, 120] } : ByteArray) ++ ({ data := #[48, 49, 50, 51, 52, 53, 54, 55, 56, 57, 97, 98, 99, 100, 101, 102] } : ByteArray).extract ((n : Int) / 16).toNat ((n : Int) / 16 + 1).toNat ++
      ({ data := #[48, 49, 50, 51, 52, 53, 54, 55, 56, 57, 97, 98, 99, 100, 101, 102] } : ByteArray).extract ((n : Int) % 16).toNat ((n : Int) % 16 + 1).toNat) = ⟨(bt n).toArray⟩ := by
  have key : ∀ n : Fin 256, (n.val < 32 ∨ 126 < n.val) → (({ data := #[92, 120] } : ByteArray) ++ ({ data := #[48, 49, 50, 51, 52, 53, 54, 55, 56, 57, 97, 98, 99, 100, 101, 102] } : ByteArray).extract ((n.val : Int) / 16).toNat ((n.val : Int) / 16 + 1).toNat ++
      ({ data := #[48, 49, 50, 51, 52, 53, 54, 55, 56, 57, 97, 98, 99, 100, 101, 102] } : ByteArray).extract ((n.val : Int) % 16).toNat ((n.val : Int) % 16 + 1).toNat) = ⟨(bt n.val).toArray⟩ := by decide +kernel
  exact key ⟨n, h⟩ h2
theorem enc_ascii (n : Nat) (h : n < 128) : Utf8.encode (n : Int) = ⟨#[UInt8.ofNat n]⟩ := by
  have key : ∀ n : Fin 128, Utf8.encode (n.val : Int) = ⟨#[UInt8.ofNat n.val]⟩ := by decide +kernel
  exact key ⟨n, h⟩
theorem signs_in (n : Nat) (h : n < 256) (hm : (0 : Int) ≤ Lib.indexByte [92, 46, 91, 93, 40, 41, 124, 42, 43, 63, 94, 36, 45] (UInt8.ofNat n)) (h1 : 32 ≤ n) (h2 : n ≤ 126) : bt n = [92, UInt8.ofNat n] := by
  have key : ∀ n : Fin 256, (0 : Int) ≤ Lib.indexByte [92, 46, 91, 93, 40, 41, 124, 42, 43, 63, 94, 36, 45] (UInt8.ofNat n.val) → 32 ≤ n.val → n.val ≤ 126 → bt n.val = [92, UInt8.ofNat n.val] := by decide +kernel
  exact key ⟨n, h⟩ hm h1 h2
theorem signs_out (n : Nat) (h : n < 256) (hm : ¬ (0 : Int) ≤ Lib.indexByte [92, 46, 91, 93, 40, 41, 124, 42, 43, 63, 94, 36, 45] (UInt8.ofNat n)) (h1 : 32 ≤ n) (h2 : n ≤ 126) : bt n = [UInt8.ofNat n] := by
  have key : ∀ n : Fin 256, ¬ (0 : Int) ≤ Lib.indexByte [92, 46, 91, 93, 40, 41, 124, 42, 43, 63, 94, 36, 45] (UInt8.ofNat n.val) → 32 ≤ n.val → n.val ≤ 126 → bt n.val = [UInt8.ofNat n.val] := by decide +kernel
  exact key ⟨n, h⟩ hm h1 h2
theorem bt_len (n : Nat) : (bt n).length ≤ 4 := by
  unfold bt
  split
  · simp
  · split <;> simp
theorem rEnd_le (p : Nat → Bool) : ∀ (f i : Nat), i ≤ rEnd p f i ∧ rEnd p f i ≤ i + f
  | 0, i => by simp [rEnd]
  | f + 1, i => by
    have := rEnd_le p f (i + 1)
    simp only [rEnd]
    split <;> omega
theorem rEnd_yes (p : Nat → Bool) (j : Nat) (h : j < 256) (hp : p j = true) : rEnd p (256 - j) j = rEnd p (256 - (j + 1)) (j + 1) := by
  rw [show 256 - j = (256 - (j + 1)) + 1 from by omega, rEnd, if_pos hp]
theorem rEnd_no (p : Nat → Bool) (j : Nat) (h : j < 256) (hp : p j = false) : rEnd p (256 - j) j = j := by
  rw [show 256 - j = (256 - (j + 1)) + 1 from by omega, rEnd, if_neg (by simp [hp])]
/-- The predicate of a class. -/
def C4.p (k : C4) (n : Nat) : Bool := k.hasI n
theorem rt_len (i j : Nat) : (rt i j).length ≤ 9 := by
  have h1 := bt_len i
  have h2 := bt_len j
  unfold rt
  split
  · omega
  · split <;> simp <;> omega

def dotC : C4 := (C4.ofL [10]).not
def runs256 (k : C4) : List UInt8 := runsL k.p 256 0
def textL (k : C4) : List UInt8 := if k.eqb dotC then [46] else if k.many 4 == 1 then runs256 k else 91 :: (runs256 k ++ [93])
theorem runsL_len (p : Nat → Bool) : ∀ (f i : Nat), (runsL p f i).length ≤ 9 * f
  | 0, i => by simp [runsL]
  | f + 1, i => by
    rw [runsL]
    split
    · have h1 := runsL_len p f (rEnd p (256 - i) i + 1)
      have h2 := rt_len i (rEnd p (256 - i) i - 1)
      split <;> simp <;> omega
    · simp
theorem runs256_len (k : C4) : (runs256 k).length ≤ 2304 := runsL_len _ _ _
theorem textL_dot (k : C4) (h : k.eqb dotC = true) : textL k = [46] := by rw [textL, if_pos h]
theorem textL_one (k : C4) (h : k.eqb dotC = false) (h2 : (k.many 4 == 1) = true) : textL k = runs256 k := by rw [textL, if_neg (by rw [h]; exact Bool.false_ne_true), if_pos h2]
theorem textL_more (k : C4) (h : k.eqb dotC = false) (h2 : (k.many 4 == 1) = false) : textL k = 91 :: (runs256 k ++ [93]) := by rw [textL, if_neg (by rw [h]; exact Bool.false_ne_true), if_neg (by rw [h2]; exact Bool.false_ne_true)]
end Go.Proofs.Ytciaagphclddjaa
namespace Go.Proofs.Ytciaagphclddjaa
set_option linter.unusedSimpArgs false
set_option linter.unusedVariables false
open Go.RowKit

/-! How many bits a word has -/
def cnt (p : Nat → Bool) : Nat → Nat
  | 0 => 0
  | n + 1 => cnt p n + (if p n then 1 else 0)
theorem cnt_congr (p q : Nat → Bool) : ∀ n, (∀ i, i < n → p i = q i) → cnt p n = cnt q n
  | 0, _ => rfl
  | n + 1, h => by rw [cnt, cnt, cnt_congr p q n (fun i hi => h i (by omega)), h n (by omega)]
theorem cnt_le (p : Nat → Bool) : ∀ n, cnt p n ≤ n
  | 0 => Nat.le_refl _
  | n + 1 => by have := cnt_le p n; rw [cnt]; split <;> omega
theorem cnt_add (p : Nat → Bool) (m : Nat) : ∀ n, cnt p (m + n) = cnt p m + cnt (fun j => p (m + j)) n
  | 0 => rfl
  | n + 1 => by rw [← Nat.add_assoc, cnt, cnt, cnt_add p m n, Nat.add_assoc]
theorem cnt_both (p q : Nat → Bool) : ∀ n, cnt (fun i => p i && q i) n + cnt (fun i => p i || q i) n = cnt p n + cnt q n
  | 0 => rfl
  | n + 1 => by
    have := cnt_both p q n
    simp only [cnt]
    by_cases hp : p n = true <;> by_cases hq : q n = true <;> simp [hp, hq] <;> omega
theorem cnt_not (p : Nat → Bool) : ∀ n, cnt p n + cnt (fun i => !p i) n = n
  | 0 => rfl
  | n + 1 => by
    have := cnt_not p n
    simp only [cnt]
    by_cases hp : p n = true <;> simp [hp] <;> omega
theorem cnt_pos (p : Nat → Bool) : ∀ n, cnt p n = 0 → ∀ i, i < n → p i = false
  | 0, _, i, hi => by omega
  | n + 1, h, i, hi => by
    rw [cnt] at h
    by_cases e : i = n
    · subst e
      cases hp : p i
      · rfl
      · rw [hp] at h; simp at h
    · exact cnt_pos p n (by omega) i (by omega)

theorem land_split (A a B b : Nat) (ha : a < 256) (hb : b < 256) : (256 * A + a) &&& (256 * B + b) = 256 * (A &&& B) + (a &&& b) := by
  have hab : a &&& b < 2 ^ 8 := Nat.lt_of_le_of_lt Nat.and_le_left ha
  apply Nat.eq_of_testBit_eq
  intro j
  have e : (256 : Nat) = 2 ^ 8 := rfl
  rw [e, Nat.testBit_and, Nat.testBit_two_pow_mul_add _ (by omega), Nat.testBit_two_pow_mul_add _ (by omega), Nat.testBit_two_pow_mul_add _ hab]
  split <;> simp

/-- Byte by byte. -/
def bm (f : Nat → Nat) : Nat → Nat → Nat
  | 0, _ => 0
  | k + 1, n => 256 * bm f k (n / 256) + f (n % 256)
def mk (m : Nat) : Nat → Nat
  | 0 => 0
  | k + 1 => 256 * mk m k + m
def f1 (y : Nat) : Nat := (y / 2 &&& 85) + (y &&& 85)
def f2 (y : Nat) : Nat := (y / 4 &&& 51) + (y &&& 51)
def f3 (y : Nat) : Nat := y / 16 + y % 16
def g2 (y : Nat) : Nat := f2 (f1 y)
def h3 (y : Nat) : Nat := f3 (g2 y)
theorem f1_lt : ∀ y : Fin 256, f1 y.val < 256 := by decide +kernel
theorem g2_le : ∀ y : Fin 256, g2 y.val % 16 ≤ 4 ∧ g2 y.val / 16 ≤ 4 := by decide +kernel
theorem h3_cnt : ∀ y : Fin 256, cnt y.val.testBit 8 = h3 y.val := by decide +kernel
theorem h3_le : ∀ y : Fin 256, h3 y.val ≤ 8 := by decide +kernel
theorem half85 : ∀ (y : Fin 256) (b : Fin 2), (y.val / 2 + 128 * b.val) &&& 85 = y.val / 2 &&& 85 := by decide +kernel
theorem half51 : ∀ (y : Fin 256) (b : Fin 4), (y.val / 4 + 64 * b.val) &&& 51 = y.val / 4 &&& 51 := by decide +kernel
theorem low15 (l : Nat) : l &&& 15 = l % 16 := Nat.and_two_pow_sub_one_eq_mod l 4
theorem step1 : ∀ (k n : Nat), (n / 2 &&& mk 85 k) + (n &&& mk 85 k) = bm f1 k n
  | 0, n => by simp [mk, bm]
  | k + 1, n => by
    have ih := step1 k (n / 256)
    have e1 : n / 2 = 256 * (n / 256 / 2) + (n % 256 / 2 + 128 * (n / 256 % 2)) := by omega
    have e2 : n &&& mk 85 (k + 1) = 256 * (n / 256 &&& mk 85 k) + (n % 256 &&& 85) := by
      conv => lhs; rw [show n = 256 * (n / 256) + n % 256 from by omega]
      exact land_split _ _ _ _ (by omega) (by omega)
    have e3 : n / 2 &&& mk 85 (k + 1) = 256 * (n / 256 / 2 &&& mk 85 k) + ((n % 256 / 2 + 128 * (n / 256 % 2)) &&& 85) := by
      rw [e1]
      have : n % 256 / 2 + 128 * (n / 256 % 2) < 256 := by omega
      exact land_split _ _ _ _ this (by omega)
    have e4 := half85 ⟨n % 256, by omega⟩ ⟨n / 256 % 2, by omega⟩
    simp only at e4
    rw [e2, e3, e4, bm, ← ih, f1]
    omega
theorem step2 : ∀ (k n : Nat), (n / 4 &&& mk 51 k) + (n &&& mk 51 k) = bm f2 k n
  | 0, n => by simp [mk, bm]
  | k + 1, n => by
    have ih := step2 k (n / 256)
    have e1 : n / 4 = 256 * (n / 256 / 4) + (n % 256 / 4 + 64 * (n / 256 % 4)) := by omega
    have e2 : n &&& mk 51 (k + 1) = 256 * (n / 256 &&& mk 51 k) + (n % 256 &&& 51) := by
      conv => lhs; rw [show n = 256 * (n / 256) + n % 256 from by omega]
      exact land_split _ _ _ _ (by omega) (by omega)
    have e3 : n / 4 &&& mk 51 (k + 1) = 256 * (n / 256 / 4 &&& mk 51 k) + ((n % 256 / 4 + 64 * (n / 256 % 4)) &&& 51) := by
      rw [e1]
      have : n % 256 / 4 + 64 * (n / 256 % 4) < 256 := by omega
      exact land_split _ _ _ _ this (by omega)
    have e4 := half51 ⟨n % 256, by omega⟩ ⟨n / 256 % 4, by omega⟩
    simp only at e4
    rw [e2, e3, e4, bm, ← ih, f2]
    omega
theorem bm_bm : ∀ (k n : Nat), bm f2 k (bm f1 k n) = bm g2 k n
  | 0, n => rfl
  | k + 1, n => by
    have h := f1_lt ⟨n % 256, by omega⟩
    simp only at h
    rw [bm, bm, bm, show (256 * bm f1 k (n / 256) + f1 (n % 256)) / 256 = bm f1 k (n / 256) from by omega, show (256 * bm f1 k (n / 256) + f1 (n % 256)) % 256 = f1 (n % 256) from by omega, bm_bm k (n / 256)]
    rfl
theorem bm_low (k n : Nat) : bm g2 k n % 16 ≤ 4 := by
  cases k with
  | zero => simp [bm]
  | succ k =>
    have h := g2_le ⟨n % 256, by omega⟩
    simp only at h
    rw [bm]
    omega
theorem step3 : ∀ (k n : Nat), (bm g2 k n / 16 + bm g2 k n) &&& mk 15 k = bm h3 k n
  | 0, n => by simp [mk, bm]
  | k + 1, n => by
    have ih := step3 k (n / 256)
    have h := g2_le ⟨n % 256, by omega⟩
    have hx := bm_low k (n / 256)
    simp only at h
    rw [bm, bm]
    generalize bm g2 k (n / 256) = X at *
    generalize hy : g2 (n % 256) = y at *
    have e1 : (256 * X + y) / 16 + (256 * X + y) = 256 * (X / 16 + X) + (16 * (X % 16) + y / 16 + y) := by omega
    have hl : 16 * (X % 16) + y / 16 + y < 256 := by omega
    rw [e1, mk, land_split _ _ _ _ hl (by omega), ih, low15]
    have e2 : h3 (n % 256) = y / 16 + y % 16 := by rw [h3, hy, f3]
    rw [e2]
    omega
/-- The bytes' sum. -/
def sb (f : Nat → Nat) : Nat → Nat → Nat
  | 0, _ => 0
  | k + 1, n => f (n % 256) + sb f k (n / 256)
theorem cnt_sb : ∀ (k n : Nat), cnt n.testBit (8 * k) = sb h3 k n
  | 0, n => rfl
  | k + 1, n => by
    rw [show 8 * (k + 1) = 8 + 8 * k from by omega, cnt_add, sb, ← cnt_sb k (n / 256)]
    have e1 := h3_cnt ⟨n % 256, by omega⟩
    simp only at e1
    rw [← e1]
    congr 1
    · apply cnt_congr
      intro i hi
      have : n % 256 = n % 2 ^ 8 := rfl
      rw [this, Nat.testBit_mod_two_pow]
      simp [hi]
    · apply cnt_congr
      intro i hi
      have : n / 256 = n / 2 ^ 8 := rfl
      rw [this, Nat.testBit_div_two_pow, Nat.add_comm]
theorem dv (m q r b : Nat) (h : b = m * q + r) (hr : r < m) : b / m = q := by
  subst h
  rw [Nat.mul_add_div (by omega), Nat.div_eq_of_lt hr, Nat.add_zero]
theorem md (m q r b : Nat) (h : b = m * q + r) (hr : r < m) : b % m = r := by
  subst h
  rw [Nat.mul_add_mod, Nat.mod_eq_of_lt hr]
theorem idn1 (c0 c1 c2 c3 c4 c5 c6 c7 : Nat) : c0 + 256 * c1 + 65536 * c2 + 16777216 * c3 + 4294967296 * c4 + 1099511627776 * c5 + 281474976710656 * c6 + 72057594037927936 * c7 = 256 * (c1 + 256 * c2 + 65536 * c3 + 16777216 * c4 + 4294967296 * c5 + 1099511627776 * c6 + 281474976710656 * c7) + c0 := by omega
theorem idn2 (c0 c1 c2 c3 c4 c5 c6 c7 : Nat) : (c0 + 256 * c1 + 65536 * c2 + 16777216 * c3 + 4294967296 * c4 + 1099511627776 * c5 + 281474976710656 * c6 + 72057594037927936 * c7) + (c1 + 256 * c2 + 65536 * c3 + 16777216 * c4 + 4294967296 * c5 + 1099511627776 * c6 + 281474976710656 * c7) = 65536 * ((c2 + c3) + 256 * (c3 + c4) + 65536 * (c4 + c5) + 16777216 * (c5 + c6) + 4294967296 * (c6 + c7) + 1099511627776 * c7) + (c0 + c1 + 256 * (c1 + c2)) := by omega
theorem idn3 (c0 c1 c2 c3 c4 c5 c6 c7 : Nat) : (c0 + 256 * c1 + 65536 * c2 + 16777216 * c3 + 4294967296 * c4 + 1099511627776 * c5 + 281474976710656 * c6 + 72057594037927936 * c7) + (c1 + 256 * c2 + 65536 * c3 + 16777216 * c4 + 4294967296 * c5 + 1099511627776 * c6 + 281474976710656 * c7) + ((c2 + c3) + 256 * (c3 + c4) + 65536 * (c4 + c5) + 16777216 * (c5 + c6) + 4294967296 * (c6 + c7) + 1099511627776 * c7) = 4294967296 * ((c4 + c5 + c6 + c7) + 256 * (c5 + c6 + c7) + 65536 * (c6 + c7) + 16777216 * c7) + (c0 + c1 + c2 + c3 + 256 * (c1 + c2 + c3 + c4) + 65536 * (c2 + c3 + c4 + c5) + 16777216 * (c3 + c4 + c5 + c6)) := by omega
theorem idn4 (c0 c1 c2 c3 c4 c5 c6 c7 : Nat) : (c0 + 256 * c1 + 65536 * c2 + 16777216 * c3 + 4294967296 * c4 + 1099511627776 * c5 + 281474976710656 * c6 + 72057594037927936 * c7) + (c1 + 256 * c2 + 65536 * c3 + 16777216 * c4 + 4294967296 * c5 + 1099511627776 * c6 + 281474976710656 * c7) + ((c2 + c3) + 256 * (c3 + c4) + 65536 * (c4 + c5) + 16777216 * (c5 + c6) + 4294967296 * (c6 + c7) + 1099511627776 * c7) + ((c4 + c5 + c6 + c7) + 256 * (c5 + c6 + c7) + 65536 * (c6 + c7) + 16777216 * c7) = 128 * (2 * ((c1 + c2 + c3 + c4 + (c5 + c6 + c7)) + 256 * (c2 + c3 + c4 + c5 + (c6 + c7)) + 65536 * (c3 + c4 + c5 + c6 + c7) + 16777216 * (c4 + c5 + c6 + c7) + 4294967296 * (c5 + c6 + c7) + 1099511627776 * (c6 + c7) + 281474976710656 * c7)) + (c0 + c1 + c2 + c3 + c4 + c5 + c6 + c7) := by omega
theorem bnd2 (c0 c1 c2 c3 c4 c5 c6 c7 : Nat) (k0 : c0 ≤ 8) (k1 : c1 ≤ 8) (k2 : c2 ≤ 8) (k3 : c3 ≤ 8) (k4 : c4 ≤ 8) (k5 : c5 ≤ 8) (k6 : c6 ≤ 8) (k7 : c7 ≤ 8) : c0 + c1 + 256 * (c1 + c2) < 65536 := by omega
theorem bnd3 (c0 c1 c2 c3 c4 c5 c6 c7 : Nat) (k0 : c0 ≤ 8) (k1 : c1 ≤ 8) (k2 : c2 ≤ 8) (k3 : c3 ≤ 8) (k4 : c4 ≤ 8) (k5 : c5 ≤ 8) (k6 : c6 ≤ 8) (k7 : c7 ≤ 8) : c0 + c1 + c2 + c3 + 256 * (c1 + c2 + c3 + c4) + 65536 * (c2 + c3 + c4 + c5) + 16777216 * (c3 + c4 + c5 + c6) < 4294967296 := by omega
theorem bnd4 (c0 c1 c2 c3 c4 c5 c6 c7 : Nat) (k0 : c0 ≤ 8) (k1 : c1 ≤ 8) (k2 : c2 ≤ 8) (k3 : c3 ≤ 8) (k4 : c4 ≤ 8) (k5 : c5 ≤ 8) (k6 : c6 ≤ 8) (k7 : c7 ≤ 8) : c0 + c1 + c2 + c3 + c4 + c5 + c6 + c7 < 128 := by omega
theorem bnd5 (c0 c1 c2 c3 c4 c5 c6 c7 : Nat) (k0 : c0 ≤ 8) (k1 : c1 ≤ 8) (k2 : c2 ≤ 8) (k3 : c3 ≤ 8) (k4 : c4 ≤ 8) (k5 : c5 ≤ 8) (k6 : c6 ≤ 8) (k7 : c7 ≤ 8) : (c0 + 256 * c1 + 65536 * c2 + 16777216 * c3 + 4294967296 * c4 + 1099511627776 * c5 + 281474976710656 * c6 + 72057594037927936 * c7) + (c1 + 256 * c2 + 65536 * c3 + 16777216 * c4 + 4294967296 * c5 + 1099511627776 * c6 + 281474976710656 * c7) + ((c2 + c3) + 256 * (c3 + c4) + 65536 * (c4 + c5) + 16777216 * (c5 + c6) + 4294967296 * (c6 + c7) + 1099511627776 * c7) + ((c4 + c5 + c6 + c7) + 256 * (c5 + c6 + c7) + 65536 * (c6 + c7) + 16777216 * c7) < 18446744073709551616 := by omega
theorem fold_plain (c0 c1 c2 c3 c4 c5 c6 c7 a b c d : Nat) (k0 : c0 ≤ 8) (k1 : c1 ≤ 8) (k2 : c2 ≤ 8) (k3 : c3 ≤ 8) (k4 : c4 ≤ 8) (k5 : c5 ≤ 8) (k6 : c6 ≤ 8) (k7 : c7 ≤ 8)
    (ha : a = c0 + 256 * c1 + 65536 * c2 + 16777216 * c3 + 4294967296 * c4 + 1099511627776 * c5 + 281474976710656 * c6 + 72057594037927936 * c7)
    (hb : b = a + a / 256) (hc : c = b + b / 65536) (hd : d = c + c / 4294967296) :
    a < 18446744073709551616 ∧ b < 18446744073709551616 ∧ c < 18446744073709551616 ∧ d < 18446744073709551616 ∧ d % 128 = c0 + c1 + c2 + c3 + c4 + c5 + c6 + c7 := by
  have e1 : a / 256 = c1 + 256 * c2 + 65536 * c3 + 16777216 * c4 + 4294967296 * c5 + 1099511627776 * c6 + 281474976710656 * c7 := dv 256 _ c0 a (ha.trans (idn1 c0 c1 c2 c3 c4 c5 c6 c7)) (Nat.lt_of_le_of_lt k0 (by decide))
  rw [e1, ha] at hb
  have e2 : b / 65536 = (c2 + c3) + 256 * (c3 + c4) + 65536 * (c4 + c5) + 16777216 * (c5 + c6) + 4294967296 * (c6 + c7) + 1099511627776 * c7 := dv 65536 _ (c0 + c1 + 256 * (c1 + c2)) b (hb.trans (idn2 c0 c1 c2 c3 c4 c5 c6 c7)) (bnd2 c0 c1 c2 c3 c4 c5 c6 c7 k0 k1 k2 k3 k4 k5 k6 k7)
  rw [e2, hb] at hc
  have e3 : c / 4294967296 = (c4 + c5 + c6 + c7) + 256 * (c5 + c6 + c7) + 65536 * (c6 + c7) + 16777216 * c7 := dv 4294967296 _ (c0 + c1 + c2 + c3 + 256 * (c1 + c2 + c3 + c4) + 65536 * (c2 + c3 + c4 + c5) + 16777216 * (c3 + c4 + c5 + c6)) c (hc.trans (idn3 c0 c1 c2 c3 c4 c5 c6 c7)) (bnd3 c0 c1 c2 c3 c4 c5 c6 c7 k0 k1 k2 k3 k4 k5 k6 k7)
  rw [e3, hc] at hd
  have e4 : d % 128 = c0 + c1 + c2 + c3 + c4 + c5 + c6 + c7 := md 128 (2 * ((c1 + c2 + c3 + c4 + (c5 + c6 + c7)) + 256 * (c2 + c3 + c4 + c5 + (c6 + c7)) + 65536 * (c3 + c4 + c5 + c6 + c7) + 16777216 * (c4 + c5 + c6 + c7) + 4294967296 * (c5 + c6 + c7) + 1099511627776 * (c6 + c7) + 281474976710656 * c7)) _ d (hd.trans (idn4 c0 c1 c2 c3 c4 c5 c6 c7)) (bnd4 c0 c1 c2 c3 c4 c5 c6 c7 k0 k1 k2 k3 k4 k5 k6 k7)
  have b5 := bnd5 c0 c1 c2 c3 c4 c5 c6 c7 k0 k1 k2 k3 k4 k5 k6 k7
  rw [← hd] at b5
  have l1 : c ≤ d := by rw [hd, hc]; exact Nat.le_add_right _ _
  have l2 : b ≤ c := by rw [hc, hb]; exact Nat.le_add_right _ _
  have l3 : a ≤ b := by rw [hb, ha]; exact Nat.le_add_right _ _
  exact ⟨Nat.lt_of_le_of_lt (Nat.le_trans l3 (Nat.le_trans l2 l1)) b5, Nat.lt_of_le_of_lt (Nat.le_trans l2 l1) b5, Nat.lt_of_le_of_lt l1 b5, b5, e4⟩
theorem flat_bytes (c0 c1 c2 c3 c4 c5 c6 c7 : Nat) : 256 * (256 * (256 * (256 * (256 * (256 * (256 * (256 * 0 + c7) + c6) + c5) + c4) + c3) + c2) + c1) + c0 = c0 + 256 * c1 + 65536 * c2 + 16777216 * c3 + 4294967296 * c4 + 1099511627776 * c5 + 281474976710656 * c6 + 72057594037927936 * c7 := by omega
theorem sum_bytes (c0 c1 c2 c3 c4 c5 c6 c7 : Nat) : c0 + c1 + c2 + c3 + c4 + c5 + c6 + c7 = c0 + (c1 + (c2 + (c3 + (c4 + (c5 + (c6 + (c7 + 0))))))) := by omega
theorem fold_bytes (n a b c d : Nat) (ha : a = bm h3 8 n) (hb : b = a + a / 256) (hc : c = b + b / 65536) (hd : d = c + c / 4294967296) :
    a < 18446744073709551616 ∧ b < 18446744073709551616 ∧ c < 18446744073709551616 ∧ d < 18446744073709551616 ∧ d % 128 = sb h3 8 n := by
  have key : ∀ m : Nat, h3 (m % 256) ≤ 8 := fun m => h3_le ⟨m % 256, Nat.mod_lt _ (by decide)⟩
  have h := fold_plain _ _ _ _ _ _ _ _ a b c d (key n) (key (n / 256)) (key (n / 256 / 256)) (key (n / 256 / 256 / 256)) (key (n / 256 / 256 / 256 / 256)) (key (n / 256 / 256 / 256 / 256 / 256)) (key (n / 256 / 256 / 256 / 256 / 256 / 256)) (key (n / 256 / 256 / 256 / 256 / 256 / 256 / 256)) (ha.trans (flat_bytes _ _ _ _ _ _ _ _)) hb hc hd
  exact ⟨h.1, h.2.1, h.2.2.1, h.2.2.2.1, h.2.2.2.2.trans (sum_bytes _ _ _ _ _ _ _ _)⟩
end Go.Proofs.Ytciaagphclddjaa
namespace Go.Proofs.Ytciaagphclddjaa
set_option linter.unusedSimpArgs false
set_option linter.unusedVariables false
open Go.RowKit
theorem u64_small (n : Nat) (h : n < 18446744073709551616) : IntKind.u64.wrap (n : Int) = (n : Int) := by
  rw [IntKind.wrap_u64]; omega
theorem o1_nat (n : Nat) (h : n < 18446744073709551616) : o1 (n : Int) = ((bm f1 8 n : Nat) : Int) ∧ bm f1 8 n < 18446744073709551616 := by
  have e := step1 8 n
  have em : mk 85 8 = 6148914691236517205 := by simp [mk]
  rw [em] at e
  have l1 : n / 2 &&& 6148914691236517205 ≤ 6148914691236517205 := Nat.and_le_right
  have l2 : n &&& 6148914691236517205 ≤ 6148914691236517205 := Nat.and_le_right
  have hd : (n : Int) / 2 = ((n / 2 : Nat) : Int) := by omega
  have a1 := u64_and_nat (n / 2) 6148914691236517205 (by omega) (by omega)
  have a2 := u64_and_nat n 6148914691236517205 h (by omega)
  refine ⟨?_, by omega⟩
  rw [o1, hd, ← e]
  have c5 : ((6148914691236517205 : Nat) : Int) = 6148914691236517205 := by omega
  rw [c5] at a1 a2
  rw [a1, a2, ← Int.natCast_add]
  exact u64_small _ (by omega)
theorem o2_nat (n : Nat) (h : n < 18446744073709551616) : o2 (n : Int) = ((bm f2 8 n : Nat) : Int) ∧ bm f2 8 n < 18446744073709551616 := by
  have e := step2 8 n
  have em : mk 51 8 = 3689348814741910323 := by simp [mk]
  rw [em] at e
  have l1 : n / 4 &&& 3689348814741910323 ≤ 3689348814741910323 := Nat.and_le_right
  have l2 : n &&& 3689348814741910323 ≤ 3689348814741910323 := Nat.and_le_right
  have hd : (n : Int) / 4 = ((n / 4 : Nat) : Int) := by omega
  have a1 := u64_and_nat (n / 4) 3689348814741910323 (by omega) (by omega)
  have a2 := u64_and_nat n 3689348814741910323 h (by omega)
  refine ⟨?_, by omega⟩
  rw [o2, hd, ← e]
  have c5 : ((3689348814741910323 : Nat) : Int) = 3689348814741910323 := by omega
  rw [c5] at a1 a2
  rw [a1, a2, ← Int.natCast_add]
  exact u64_small _ (by omega)
theorem bm_g2_le : ∀ (k n : Nat), bm g2 k n ≤ 68 * mk 1 k
  | 0, n => by simp [bm, mk]
  | k + 1, n => by
    have ih := bm_g2_le k (n / 256)
    have h := g2_le ⟨n % 256, by omega⟩
    simp only at h
    rw [bm, mk]
    omega
theorem o3_nat (n : Nat) : o3 ((bm g2 8 n : Nat) : Int) = ((bm h3 8 n : Nat) : Int) := by
  have e := step3 8 n
  have em : mk 15 8 = 1085102592571150095 := by simp [mk]
  have hl := bm_g2_le 8 n
  have em1 : mk 1 8 = 72340172838076673 := by simp [mk]
  rw [em] at e
  rw [em1] at hl
  generalize bm g2 8 n = x at *
  have hd : (x : Int) / 16 = ((x / 16 : Nat) : Int) := by omega
  rw [o3, hd, ← Int.natCast_add, u64_small _ (by omega), ← e]
  exact u64_and_nat (x / 16 + x) 1085102592571150095 (by omega) (by omega)
theorem o4_nat (s n : Nat) (h : n + n / s < 18446744073709551616) : o4 (s : Int) (n : Int) = ((n + n / s : Nat) : Int) := by
  rw [o4, ← Int.natCast_ediv, ← Int.natCast_add]
  exact u64_small _ h
theorem o4_a (n : Nat) (h : n + n / 256 < 18446744073709551616) : o4 256 (n : Int) = ((n + n / 256 : Nat) : Int) := o4_nat 256 n h
theorem o4_b (n : Nat) (h : n + n / 65536 < 18446744073709551616) : o4 65536 (n : Int) = ((n + n / 65536 : Nat) : Int) := o4_nat 65536 n h
theorem o4_c (n : Nat) (h : n + n / 4294967296 < 18446744073709551616) : o4 4294967296 (n : Int) = ((n + n / 4294967296 : Nat) : Int) := o4_nat 4294967296 n h
theorem low127 (x : Nat) : bits .and .i64 (wrap64 (x : Int)) 127 = ((x % 128 : Nat) : Int) := by
  rw [i64_and127]
  unfold wrap64
  omega
theorem ones_nat (n : Nat) (h : n < 18446744073709551616) : ones (n : Int) = ((cnt n.testBit 64 : Nat) : Int) := by
  obtain ⟨a, b, c, d, e⟩ := fold_bytes n _ _ _ _ rfl rfl rfl rfl
  have hc := cnt_sb 8 n
  have h1 := o1_nat n h
  have h2 := o2_nat _ h1.2
  rw [ones, h1.1, h2.1, bm_bm, o3_nat, o4_a _ b, o4_b _ c, o4_c _ d, low127, e]
  exact congrArg (fun x : Nat => (x : Int)) hc.symm
end Go.Proofs.Ytciaagphclddjaa
namespace Go.Proofs.Ytciaagphclddjaa
set_option linter.unusedSimpArgs false
set_option linter.unusedVariables false
open Go.RowKit

def okW (x : Int) : Prop := 0 ≤ x ∧ x < 18446744073709551616
def C4.ok (k : C4) : Prop := okW k.a ∧ okW k.b ∧ okW k.c ∧ okW k.d
theorem C4.ok_w {k : C4} (h : k.ok) (i : Nat) : okW (k.w i) := by
  unfold C4.w
  split
  · exact h.1
  · split
    · exact h.2.1
    · split
      · exact h.2.2.1
      · exact h.2.2.2
/-- What a class has. -/
def C4.has (k : C4) (i : Nat) : Bool := (k.w (i / 64)).toNat.testBit (i % 64)

theorem okW_nat {x : Int} (h : okW x) : ∃ n : Nat, x = (n : Int) ∧ n < 18446744073709551616 := by
  unfold okW at h
  exact ⟨x.toNat, by omega, by omega⟩
theorem tb_eq (n j : Nat) : n.testBit j = decide (n / 2 ^ j % 2 = 1) := by
  rw [Nat.testBit_eq_decide_div_mod_eq]
theorem bit_and1 (n j : Nat) (h : n < 18446744073709551616) : (bits .and .u64 ((n : Int) / 2 ^ j) 1 == 1) = n.testBit j := by
  have e : (n : Int) / 2 ^ j = ((n / 2 ^ j : Nat) : Int) := by rw [Int.natCast_ediv, Int.natCast_pow]; rfl
  have hl : n / 2 ^ j < 18446744073709551616 := Nat.lt_of_le_of_lt (Nat.div_le_self _ _) h
  have a1 := u64_and_nat (n / 2 ^ j) 1 hl (by omega)
  rw [e, show (1 : Int) = ((1 : Nat) : Int) from rfl, a1, nat_mask1, tb_eq]
  generalize n / 2 ^ j % 2 = z
  by_cases hz : z = 1
  · simp [hz]
  · simp only [hz, decide_false]
    rw [beq_eq_false_iff_ne]
    intro e
    exact hz (Int.ofNat_inj.1 e)
theorem C4.hasI_eq (k : C4) (h : k.ok) (i : Nat) : k.hasI (i : Int) = k.has i := by
  obtain ⟨n, hn, hl⟩ := okW_nat (C4.ok_w h (i / 64))
  have e1 : ((i : Int) / 64).toNat = i / 64 := by omega
  have e2 : ((i : Int) % 64).toNat = i % 64 := by omega
  unfold C4.hasI C4.has
  rw [e1, e2, hn, Int.toNat_natCast]
  exact bit_and1 n _ hl
theorem C4.p_eq (k : C4) (h : k.ok) : k.p = k.has := by
  funext i
  exact C4.hasI_eq k h i

theorem word_ext {x y : Int} (hx : okW x) (hy : okW y) (h : ∀ j, j < 64 → x.toNat.testBit j = y.toNat.testBit j) : x = y := by
  obtain ⟨n, rfl, hn⟩ := okW_nat hx
  obtain ⟨m, rfl, hm⟩ := okW_nat hy
  simp only [Int.toNat_natCast] at h
  have : n = m := by
    apply Nat.eq_of_testBit_eq
    intro j
    by_cases hj : j < 64
    · exact h j hj
    · have p : (18446744073709551616 : Nat) = 2 ^ 64 := by decide
      have q : 2 ^ 64 ≤ 2 ^ j := Nat.pow_le_pow_right (by decide) (by omega)
      rw [Nat.testBit_lt_two_pow (Nat.lt_of_lt_of_le (p ▸ hn) q), Nat.testBit_lt_two_pow (Nat.lt_of_lt_of_le (p ▸ hm) q)]
  rw [this]
theorem C4.ext_has {x y : C4} (hx : x.ok) (hy : y.ok) (h : ∀ i, i < 256 → x.has i = y.has i) : x = y := by
  have key : ∀ q, q < 4 → x.w q = y.w q := by
    intro q hq
    apply word_ext (C4.ok_w hx q) (C4.ok_w hy q)
    intro j hj
    have := h (64 * q + j) (by omega)
    unfold C4.has at this
    rwa [show (64 * q + j) / 64 = q from by omega, show (64 * q + j) % 64 = j from by omega] at this
  have k0 := key 0 (by decide)
  have k1 := key 1 (by decide)
  have k2 := key 2 (by decide)
  have k3 := key 3 (by decide)
  cases x; cases y
  simp [C4.w] at k0 k1 k2 k3
  simp [k0, k1, k2, k3]

theorem and_ok {x y : Int} (hx : okW x) (hy : okW y) : okW (bits .and .u64 x y) ∧ ∀ j, (bits .and .u64 x y).toNat.testBit j = (x.toNat.testBit j && y.toNat.testBit j) := by
  obtain ⟨n, rfl, hn⟩ := okW_nat hx
  obtain ⟨m, rfl, hm⟩ := okW_nat hy
  rw [u64_and_nat n m hn hm]
  have : n &&& m ≤ n := Nat.and_le_left
  refine ⟨⟨by omega, by omega⟩, fun j => ?_⟩
  simp only [Int.toNat_natCast, Nat.testBit_and]
theorem or_ok {x y : Int} (hx : okW x) (hy : okW y) : okW (bits .or .u64 x y) ∧ ∀ j, (bits .or .u64 x y).toNat.testBit j = (x.toNat.testBit j || y.toNat.testBit j) := by
  obtain ⟨n, rfl, hn⟩ := okW_nat hx
  obtain ⟨m, rfl, hm⟩ := okW_nat hy
  rw [u64_or_nat n m hn hm]
  have : n ||| m < 2 ^ 64 := Nat.or_lt_two_pow hn hm
  refine ⟨⟨by omega, by omega⟩, fun j => ?_⟩
  simp only [Int.toNat_natCast, Nat.testBit_or]
theorem not_ok {x : Int} (hx : okW x) : okW (not64 x) ∧ ∀ j, j < 64 → (not64 x).toNat.testBit j = !x.toNat.testBit j := by
  obtain ⟨n, rfl, hn⟩ := okW_nat hx
  have hm : IntKind.u64.max = ((18446744073709551615 : Nat) : Int) := by decide
  have e : not64 (n : Int) = (((2 ^ 64 - 1) ^^^ n : Nat) : Int) := by
    rw [not64, hm, u64_xor_nat _ n (by omega) hn]
  rw [e]
  have : (2 ^ 64 - 1) ^^^ n < 2 ^ 64 := Nat.xor_lt_two_pow (by decide) hn
  refine ⟨⟨by omega, by omega⟩, fun j hj => ?_⟩
  rw [Int.toNat_natCast, Int.toNat_natCast, Nat.testBit_xor, Nat.testBit_two_pow_sub_one]
  simp [hj]
theorem C4.and_ok {x y : C4} (hx : x.ok) (hy : y.ok) : (x.and y).ok := ⟨(Go.Proofs.Ytciaagphclddjaa.and_ok hx.1 hy.1).1, (Go.Proofs.Ytciaagphclddjaa.and_ok hx.2.1 hy.2.1).1, (Go.Proofs.Ytciaagphclddjaa.and_ok hx.2.2.1 hy.2.2.1).1, (Go.Proofs.Ytciaagphclddjaa.and_ok hx.2.2.2 hy.2.2.2).1⟩
theorem C4.or_ok {x y : C4} (hx : x.ok) (hy : y.ok) : (x.or y).ok := ⟨(Go.Proofs.Ytciaagphclddjaa.or_ok hx.1 hy.1).1, (Go.Proofs.Ytciaagphclddjaa.or_ok hx.2.1 hy.2.1).1, (Go.Proofs.Ytciaagphclddjaa.or_ok hx.2.2.1 hy.2.2.1).1, (Go.Proofs.Ytciaagphclddjaa.or_ok hx.2.2.2 hy.2.2.2).1⟩
theorem C4.not_ok {x : C4} (hx : x.ok) : x.not.ok := ⟨(Go.Proofs.Ytciaagphclddjaa.not_ok hx.1).1, (Go.Proofs.Ytciaagphclddjaa.not_ok hx.2.1).1, (Go.Proofs.Ytciaagphclddjaa.not_ok hx.2.2.1).1, (Go.Proofs.Ytciaagphclddjaa.not_ok hx.2.2.2).1⟩
theorem C4.and_w (x y : C4) (i : Nat) : (x.and y).w i = bits .and .u64 (x.w i) (y.w i) := by
  unfold C4.w C4.and
  split
  · rfl
  · split
    · rfl
    · split <;> rfl
theorem C4.or_w (x y : C4) (i : Nat) : (x.or y).w i = bits .or .u64 (x.w i) (y.w i) := by
  unfold C4.w C4.or
  split
  · rfl
  · split
    · rfl
    · split <;> rfl
theorem C4.not_w (x : C4) (i : Nat) : x.not.w i = not64 (x.w i) := by
  unfold C4.w C4.not
  split
  · rfl
  · split
    · rfl
    · split <;> rfl
theorem C4.has_and {x y : C4} (hx : x.ok) (hy : y.ok) (i : Nat) : (x.and y).has i = (x.has i && y.has i) := by
  unfold C4.has
  rw [C4.and_w]
  exact (Go.Proofs.Ytciaagphclddjaa.and_ok (C4.ok_w hx _) (C4.ok_w hy _)).2 _
theorem C4.has_or {x y : C4} (hx : x.ok) (hy : y.ok) (i : Nat) : (x.or y).has i = (x.has i || y.has i) := by
  unfold C4.has
  rw [C4.or_w]
  exact (Go.Proofs.Ytciaagphclddjaa.or_ok (C4.ok_w hx _) (C4.ok_w hy _)).2 _
theorem C4.has_not {x : C4} (hx : x.ok) (i : Nat) : x.not.has i = !x.has i := by
  unfold C4.has
  rw [C4.not_w]
  exact (Go.Proofs.Ytciaagphclddjaa.not_ok (C4.ok_w hx _)).2 _ (by omega)
theorem z4_ok : z4.ok := by
  unfold C4.ok okW z4
  simp
theorem z4_has (i : Nat) : z4.has i = false := by
  unfold C4.has C4.w z4
  split
  · simp
  · split
    · simp
    · split <;> simp

/-! One byte more -/
theorem pow_small (j : Nat) (h : j < 64) : okW (IntKind.u64.wrap (2 ^ j)) ∧ ∀ i, (IntKind.u64.wrap (2 ^ j)).toNat.testBit i = decide (j = i) := by
  have e : IntKind.u64.wrap (2 ^ j) = ((2 ^ j : Nat) : Int) := by
    have h2 : 2 ^ j < 2 ^ 64 := Nat.pow_lt_pow_right (by decide) h
    have := u64_small (2 ^ j) (by omega)
    rw [Int.natCast_pow] at this
    rw [Int.natCast_pow]
    exact this
  have h2 : 2 ^ j < 2 ^ 64 := Nat.pow_lt_pow_right (by decide) h
  rw [e]
  refine ⟨⟨Int.natCast_nonneg _, Int.ofNat_lt.2 h2⟩, fun i => ?_⟩
  rw [Int.toNat_natCast, Nat.testBit_two_pow]
theorem C4.put_w (k : C4) (q : Nat) (hq : q < 4) (z : Int) (i : Nat) (hi : i < 4) : (k.put q z).w i = if i = q then z else k.w i := by
  match q, hq, i, hi with
  | 0, _, 0, _ | 0, _, 1, _ | 0, _, 2, _ | 0, _, 3, _ | 1, _, 0, _ | 1, _, 1, _ | 1, _, 2, _ | 1, _, 3, _ | 2, _, 0, _ | 2, _, 1, _ | 2, _, 2, _ | 2, _, 3, _ | 3, _, 0, _ | 3, _, 1, _ | 3, _, 2, _ | 3, _, 3, _ => simp [C4.put, C4.w]
theorem C4.put_ok {k : C4} (h : k.ok) (q : Nat) {z : Int} (hz : okW z) : (k.put q z).ok := by
  unfold C4.put C4.ok
  refine ⟨?_, ?_, ?_, ?_⟩
  · simp only; split
    · exact hz
    · exact h.1
  · simp only; split
    · exact hz
    · exact h.2.1
  · simp only; split
    · exact hz
    · exact h.2.2.1
  · simp only; split
    · exact hz
    · exact h.2.2.2
theorem C4.add_ok {k : C4} (h : k.ok) (n : Nat) : (k.add (n : Int)).ok :=
  C4.put_ok h _ (Go.Proofs.Ytciaagphclddjaa.or_ok (C4.ok_w h _) (pow_small _ (by omega)).1).1
theorem C4.has_add {k : C4} (h : k.ok) (n i : Nat) (hn : n < 256) (hi : i < 256) : (k.add (n : Int)).has i = (k.has i || decide (n = i)) := by
  have e1 : ((n : Int) / 64).toNat = n / 64 := by omega
  have e2 : ((n : Int) % 64).toNat = n % 64 := by omega
  unfold C4.add C4.has
  rw [e1, e2, C4.put_w k (n / 64) (by omega) _ (i / 64) (by omega)]
  by_cases hq : i / 64 = n / 64
  · rw [if_pos hq, (Go.Proofs.Ytciaagphclddjaa.or_ok (C4.ok_w h _) (pow_small _ (by omega)).1).2, (pow_small _ (by omega)).2, hq]
    congr 1
    have : (n % 64 = i % 64) = (n = i) := by apply propext; omega
    simp only [this]
  · rw [if_neg hq]
    have : ¬ n = i := by omega
    simp [this]
theorem ofL_ok : ∀ (l : List UInt8), (C4.ofL l).ok := by
  have key : ∀ (l : List UInt8) (k : C4), k.ok → (l.foldl (fun k c => k.add (c.toNat : Int)) k).ok := by
    intro l
    induction l with
    | nil => intro k h; exact h
    | cons c l ih => intro k h; exact ih _ (C4.add_ok h _)
  intro l
  exact key l z4 z4_ok
theorem ofL_has (l : List UInt8) (i : Nat) (hi : i < 256) : (C4.ofL l).has i = decide (∃ c ∈ l, c.toNat = i) := by
  have key : ∀ (l : List UInt8) (k : C4), k.ok → (l.foldl (fun k c => k.add (c.toNat : Int)) k).has i = (k.has i || decide (∃ c ∈ l, c.toNat = i)) := by
    intro l
    induction l with
    | nil => intro k h; simp
    | cons c l ih =>
      intro k h
      rw [List.foldl_cons, ih _ (C4.add_ok h _), C4.has_add h _ _ c.toNat_lt hi, Bool.or_assoc]
      congr 1
      simp
  have := key l z4 z4_ok
  rw [z4_has, Bool.false_or] at this
  exact this

/-! How many -/
theorem many_cnt {k : C4} (h : k.ok) : k.many 4 = ((cnt k.has 256 : Nat) : Int) := by
  have key : ∀ n, n ≤ 4 → k.many n = ((cnt k.has (64 * n) : Nat) : Int) := by
    intro n
    induction n with
    | zero => intro _; rfl
    | succ n ih =>
      intro hn
      obtain ⟨m, hm, hl⟩ := okW_nat (C4.ok_w h n)
      have h1 := cnt_le k.has (64 * n)
      have h2 := cnt_le m.testBit 64
      rw [C4.many, ih (by omega), hm, ones_nat m hl, show 64 * (n + 1) = 64 * n + 64 from by omega, cnt_add]
      have e : cnt (fun j => k.has (64 * n + j)) 64 = cnt m.testBit 64 := by
        apply cnt_congr
        intro i hi
        unfold C4.has
        rw [show (64 * n + i) / 64 = n from by omega, show (64 * n + i) % 64 = i from by omega, hm, Int.toNat_natCast]
      rw [e]
      unfold wrap64
      omega
  exact key 4 (Nat.le_refl _)
theorem eqb_self (x : C4) : x.eqb x = true := (C4.eqb_iff x x).2 rfl
theorem deMorgan {x y : C4} (hx : x.ok) (hy : y.ok) : (x.and y).not = x.not.or y.not := by
  apply C4.ext_has (C4.not_ok (C4.and_ok hx hy)) (C4.or_ok (C4.not_ok hx) (C4.not_ok hy))
  intro i hi
  rw [C4.has_not (C4.and_ok hx hy), C4.has_and hx hy, C4.has_or (C4.not_ok hx) (C4.not_ok hy), C4.has_not hx, C4.has_not hy, Bool.not_and]
theorem not_not4 {x : C4} (hx : x.ok) : x.not.not = x := by
  apply C4.ext_has (C4.not_ok (C4.not_ok hx)) hx
  intro i hi
  rw [C4.has_not (C4.not_ok hx), C4.has_not hx, Bool.not_not]
theorem many_both {x y : C4} (hx : x.ok) (hy : y.ok) : (x.and y).many 4 + (x.or y).many 4 = x.many 4 + y.many 4 := by
  rw [many_cnt (C4.and_ok hx hy), many_cnt (C4.or_ok hx hy), many_cnt hx, many_cnt hy]
  have h := cnt_both x.has y.has 256
  rw [← cnt_congr (x.and y).has _ 256 (fun i _ => C4.has_and hx hy i), ← cnt_congr (x.or y).has _ 256 (fun i _ => C4.has_or hx hy i)] at h
  omega
theorem many_not {x : C4} (hx : x.ok) : x.many 4 + x.not.many 4 = 256 := by
  rw [many_cnt hx, many_cnt (C4.not_ok hx)]
  have h := cnt_not x.has 256
  rw [← cnt_congr x.not.has _ 256 (fun i _ => C4.has_not hx i)] at h
  omega
end Go.Proofs.Ytciaagphclddjaa
namespace Go.Proofs.Ytciaagphclddjaa
set_option linter.unusedSimpArgs false
set_option linter.unusedVariables false
set_option maxRecDepth 100000
open Go.ChangeShapes Go.WideShapes Go.ChangeAt Go.RowKit

theorem own : ownKnob Try.prog.godebug = none := by kernel_rfl
theorem cellsClass : Try.prog.cellsOf 29 = 4 := by kernel_rfl
theorem cellsWord : Try.prog.cellsOf 27 = 1 := by kernel_rfl
theorem list4 {α : Type} (l : List α) (h : (⟨l⟩ : Array α).size = 4) : ∃ a b c d, l = [a, b, c, d] := by
  match l, h with
  | [a, b, c, d], _ => exact ⟨a, b, c, d, rfl⟩
theorem okW_wf {x : Int} (h : (Lit.int .u64 x).wf = true) : okW x := by
  have := bounds_u64 h
  unfold okW
  omega
def dat {H : Type} (k : C4) : DataW H := .agg [.lit (.int .u64 k.a), .lit (.int .u64 k.b), .lit (.int .u64 k.c), .lit (.int .u64 k.d)]
def C4.wf (k : C4) : Prop := (Lit.int .u64 k.a).wf = true ∧ (Lit.int .u64 k.b).wf = true ∧ (Lit.int .u64 k.c).wf = true ∧ (Lit.int .u64 k.d).wf = true
theorem C4.wf_ok {k : C4} (h : k.wf) : k.ok := ⟨okW_wf h.1, okW_wf h.2.1, okW_wf h.2.2.1, okW_wf h.2.2.2⟩
set_option maxRecDepth 100000 in
theorem open_class {H : Type} {enc : TypeId × Value → H} {W : World} {base : Nat} {sp : Nat → Bool} {held : Bool} {v : Value} {d : DataW H} {p : List MemPlace}
    (hval : Value.okWide Try.prog W .any base 29 v) (h : DataW.Trod enc Try.prog W 0 sp held 29 v d p) : ∃ k : C4, v = k.v ∧ d = dat k ∧ p = [] ∧ k.wf := by
  obtain ⟨cs, rfl, hsz, _⟩ : ∃ cs, v = .agg cs ∧ cs.size = Try.prog.cellsOf 29 ∧ Row.okWide Try.prog W .any base 29 cs := by
    have h' := hval
    unfold Value.okWide at h'
    rw [Try.underlying29] at h'
    exact h'
  rw [cellsClass] at hsz
  obtain ⟨l⟩ := cs
  obtain ⟨c0, c1, c2, c3, rfl⟩ := list4 l hsz
  obtain ⟨fuel, hf⟩ := h
  obtain ⟨y0, y1, y2, y3, m, hx, hy0, hy1, hy2, hy3⟩ := trod_array4 Try.underlying29 cellsWord hf
  obtain ⟨x0, e0, rfl, w0⟩ := DataW.trod_int Try.underlying27 hy0
  obtain ⟨x1, e1, rfl, w1⟩ := DataW.trod_int Try.underlying27 hy1
  obtain ⟨x2, e2, rfl, w2⟩ := DataW.trod_int Try.underlying27 hy2
  obtain ⟨x3, e3, rfl, w3⟩ := DataW.trod_int Try.underlying27 hy3
  simp at e0 e1 e2 e3
  subst e0 e1 e2 e3
  simp only [Prod.mk.injEq] at hx
  obtain ⟨rfl, rfl⟩ := hx
  exact ⟨⟨x0, x1, x2, x3⟩, rfl, rfl, rfl, w0, w1, w2, w3⟩
theorem shut_class {H : Type} {enc : TypeId × Value → H} {W : World} {base : Nat} {sp : Nat → Bool} {held : Bool} {k : C4} (hk : k.wf) : DataW.Trod enc Try.prog W base sp held 29 k.v (dat k) [] := by
  obtain ⟨w0, w1, w2, w3⟩ := hk
  exact ⟨2, by simp [DataW.trod, Value.cells, dat, Try.underlying29, Try.underlying27, cellsClass, cellsWord, w0, w1, w2, w3, show List.range 4 = [0, 1, 2, 3] from rfl]⟩

end Go.Proofs.Ytciaagphclddjaa
