/- Plain mathematics of classes (four words of 64 bits), with no program in it: what a class holds, the words' arithmetic, the texts of bytes, runs and classes. -/
import Derived.WalkKit
import Derived.Lib.Builder
import Derived.Lib.Bytealg
set_option linter.unusedSimpArgs false
set_option linter.unusedVariables false
namespace Go.Proofs.Ytmdfdlljeggbbaa
open Go.RowKit

/-- Four words. -/
structure C4 where
  a : Int
  b : Int
  c : Int
  d : Int
def C4.w (x : C4) (i : Nat) : Int := if i = 0 then x.a else if i = 1 then x.b else if i = 2 then x.c else x.d
def C4.put (k : C4) (i : Nat) (z : Int) : C4 := ⟨if i = 0 then z else k.a, if i = 1 then z else k.b, if i = 2 then z else k.c, if i = 3 then z else k.d⟩
abbrev C4.cells (k : C4) : Array Value := #[.int .u64 k.a, .int .u64 k.b, .int .u64 k.c, .int .u64 k.d]
abbrev C4.v (k : C4) : Value := .agg #[.int .u64 k.a, .int .u64 k.b, .int .u64 k.c, .int .u64 k.d]
def z4 : C4 := ⟨0, 0, 0, 0⟩
theorem C4.get (x : C4) (i : Nat) (h : i < 4) : ([.int .u64 x.a, .int .u64 x.b, .int .u64 x.c, .int .u64 x.d] : List Value)[i]? = some (.int .u64 (x.w i)) := by
  match i, h with
  | 0, _ => rfl
  | 1, _ => rfl
  | 2, _ => rfl
  | 3, _ => rfl
theorem C4.set (x : C4) (i : Nat) (h : i < 4) (z : Int) : ([.int .u64 x.a, .int .u64 x.b, .int .u64 x.c, .int .u64 x.d] : List Value).set i (.int .u64 z) = [.int .u64 (x.put i z).a, .int .u64 (x.put i z).b, .int .u64 (x.put i z).c, .int .u64 (x.put i z).d] := by
  match i, h with
  | 0, _ => rfl
  | 1, _ => rfl
  | 2, _ => rfl
  | 3, _ => rfl
def C4.eqb (x y : C4) : Bool := x.a == y.a && (x.b == y.b && (x.c == y.c && x.d == y.d))
theorem C4.eqb_iff (x y : C4) : C4.eqb x y = true ↔ x = y := by
  cases x; cases y; simp [C4.eqb]

/-! What the Go functions compute, on words -/
def C4.add (k : C4) (x : Int) : C4 := k.put (x / 64).toNat (bits .or .u64 (k.w (x / 64).toNat) (IntKind.u64.wrap (2 ^ (x % 64).toNat)))
def C4.hasI (k : C4) (x : Int) : Bool := bits .and .u64 (k.w (x / 64).toNat / 2 ^ (x % 64).toNat) 1 == 1
def jn (F : Int → Int → Int) (x y : C4) (k : Nat) : C4 := ⟨if 0 < k then F x.a y.a else 0, if 1 < k then F x.b y.b else 0, if 2 < k then F x.c y.c else 0, if 3 < k then F x.d y.d else 0⟩
theorem jn_put (F : Int → Int → Int) (x y : C4) (k : Nat) (h : k < 4) : (jn F x y k).put k (F (x.w k) (y.w k)) = jn F x y (k + 1) := by
  match k, h with
  | 0, _ => rfl
  | 1, _ => rfl
  | 2, _ => rfl
  | 3, _ => rfl
def C4.and (x y : C4) : C4 := ⟨bits .and .u64 x.a y.a, bits .and .u64 x.b y.b, bits .and .u64 x.c y.c, bits .and .u64 x.d y.d⟩
def C4.or (x y : C4) : C4 := ⟨bits .or .u64 x.a y.a, bits .or .u64 x.b y.b, bits .or .u64 x.c y.c, bits .or .u64 x.d y.d⟩
def not64 (x : Int) : Int := bits .xor .u64 IntKind.u64.max x
def C4.not (x : C4) : C4 := ⟨not64 x.a, not64 x.b, not64 x.c, not64 x.d⟩
def o1 (x : Int) : Int := IntKind.u64.wrap (bits BinOp.and IntKind.u64 (x / 2) 6148914691236517205 + bits BinOp.and IntKind.u64 x 6148914691236517205)
def o2 (x : Int) : Int := IntKind.u64.wrap (bits BinOp.and IntKind.u64 (x / 4) 3689348814741910323 + bits BinOp.and IntKind.u64 x 3689348814741910323)
def o3 (x : Int) : Int := bits BinOp.and IntKind.u64 (IntKind.u64.wrap (x / 16 + x)) 1085102592571150095
def o4 (s : Int) (x : Int) : Int := IntKind.u64.wrap (x + x / s)
def ones (x : Int) : Int := bits BinOp.and IntKind.i64 (wrap64 (o4 4294967296 (o4 65536 (o4 256 (o3 (o2 (o1 x))))))) 127
def C4.many (k : C4) : Nat → Int
  | 0 => 0
  | n + 1 => wrap64 (k.many n + ones (k.w n))
def C4.ofL (l : List UInt8) : C4 := l.foldl (fun k c => k.add (c.toNat : Int)) z4
theorem C4.ofL_snoc (l : List UInt8) (c : UInt8) : C4.ofL (l ++ [c]) = (C4.ofL l).add (c.toNat : Int) := by simp [C4.ofL]

/-! Texts -/
def hexd (k : Nat) : UInt8 := if k < 10 then (48 + k).toUInt8 else (87 + k).toUInt8
def signL : List UInt8 := [92, 46, 91, 93, 40, 41, 124, 42, 43, 63, 94, 36, 45]
def bt (n : Nat) : List UInt8 :=
  if n < 32 ∨ 126 < n then [92, 120, hexd (n / 16), hexd (n % 16)]
  else if n.toUInt8 ∈ signL then [92, n.toUInt8] else [n.toUInt8]
def rt (i j : Nat) : List UInt8 := if j = i then bt i else if j = i + 1 then bt i ++ bt j else bt i ++ 45 :: bt j
def rEnd (p : Nat → Bool) : Nat → Nat → Nat
  | 0, i => i
  | f + 1, i => if p i then rEnd p f (i + 1) else i
def runsL (p : Nat → Bool) : Nat → Nat → List UInt8
  | 0, _ => []
  | f + 1, i => if i < 256 then (if i < rEnd p (256 - i) i then rt i (rEnd p (256 - i) i - 1) else []) ++ runsL p f (rEnd p (256 - i) i + 1) else []

theorem bt_hex (n : Nat) (h : n < 256) (h2 : n < 32 ∨ 126 < n) :
    (({ data := #[92, 120] } : ByteArray) ++ ({ data := #[48, 49, 50, 51, 52, 53, 54, 55, 56, 57, 97, 98, 99, 100, 101, 102] } : ByteArray).extract ((n : Int) / 16).toNat ((n : Int) / 16 + 1).toNat ++
      ({ data := #[48, 49, 50, 51, 52, 53, 54, 55, 56, 57, 97, 98, 99, 100, 101, 102] } : ByteArray).extract ((n : Int) % 16).toNat ((n : Int) % 16 + 1).toNat) = ⟨(bt n).toArray⟩ := by
  have key : ∀ n : Fin 256, (n.val < 32 ∨ 126 < n.val) → (({ data := #[92, 120] } : ByteArray) ++ ({ data := #[48, 49, 50, 51, 52, 53, 54, 55, 56, 57, 97, 98, 99, 100, 101, 102] } : ByteArray).extract ((n.val : Int) / 16).toNat ((n.val : Int) / 16 + 1).toNat ++
      ({ data := #[48, 49, 50, 51, 52, 53, 54, 55, 56, 57, 97, 98, 99, 100, 101, 102] } : ByteArray).extract ((n.val : Int) % 16).toNat ((n.val : Int) % 16 + 1).toNat) = ⟨(bt n.val).toArray⟩ := by decide +kernel
  exact key ⟨n, h⟩ h2
theorem enc_ascii (n : Nat) (h : n < 128) : Utf8.encode (n : Int) = ⟨#[UInt8.ofNat n]⟩ := by
  have key : ∀ n : Fin 128, Utf8.encode (n.val : Int) = ⟨#[UInt8.ofNat n.val]⟩ := by decide +kernel
  exact key ⟨n, h⟩
theorem signs_in (n : Nat) (h : n < 256) (hm : (0 : Int) ≤ Lib.indexByte [92, 46, 91, 93, 40, 41, 124, 42, 43, 63, 94, 36, 45] (UInt8.ofNat n)) (h1 : 32 ≤ n) (h2 : n ≤ 126) : bt n = [92, UInt8.ofNat n] := by
  have key : ∀ n : Fin 256, (0 : Int) ≤ Lib.indexByte [92, 46, 91, 93, 40, 41, 124, 42, 43, 63, 94, 36, 45] (UInt8.ofNat n.val) → 32 ≤ n.val → n.val ≤ 126 → bt n.val = [92, UInt8.ofNat n.val] := by decide +kernel
  exact key ⟨n, h⟩ hm h1 h2
theorem signs_out (n : Nat) (h : n < 256) (hm : ¬ (0 : Int) ≤ Lib.indexByte [92, 46, 91, 93, 40, 41, 124, 42, 43, 63, 94, 36, 45] (UInt8.ofNat n)) (h1 : 32 ≤ n) (h2 : n ≤ 126) : bt n = [UInt8.ofNat n] := by
  have key : ∀ n : Fin 256, ¬ (0 : Int) ≤ Lib.indexByte [92, 46, 91, 93, 40, 41, 124, 42, 43, 63, 94, 36, 45] (UInt8.ofNat n.val) → 32 ≤ n.val → n.val ≤ 126 → bt n.val = [UInt8.ofNat n.val] := by decide +kernel
  exact key ⟨n, h⟩ hm h1 h2
theorem bt_len (n : Nat) : (bt n).length ≤ 4 := by
  unfold bt
  split
  · simp
  · split <;> simp
theorem rEnd_le (p : Nat → Bool) : ∀ (f i : Nat), i ≤ rEnd p f i ∧ rEnd p f i ≤ i + f
  | 0, i => by simp [rEnd]
  | f + 1, i => by
    have := rEnd_le p f (i + 1)
    simp only [rEnd]
    split <;> omega
theorem rEnd_yes (p : Nat → Bool) (j : Nat) (h : j < 256) (hp : p j = true) : rEnd p (256 - j) j = rEnd p (256 - (j + 1)) (j + 1) := by
  rw [show 256 - j = (256 - (j + 1)) + 1 from by omega, rEnd, if_pos hp]
theorem rEnd_no (p : Nat → Bool) (j : Nat) (h : j < 256) (hp : p j = false) : rEnd p (256 - j) j = j := by
  rw [show 256 - j = (256 - (j + 1)) + 1 from by omega, rEnd, if_neg (by simp [hp])]
/-- The predicate of a class. -/
def C4.p (k : C4) (n : Nat) : Bool := k.hasI n
theorem rt_len (i j : Nat) : (rt i j).length ≤ 9 := by
  have h1 := bt_len i
  have h2 := bt_len j
  unfold rt
  split
  · omega
  · split <;> simp <;> omega

def dotC : C4 := (C4.ofL [10]).not
def runs256 (k : C4) : List UInt8 := runsL k.p 256 0
def textL (k : C4) : List UInt8 := if k.eqb dotC then [46] else if k.many 4 == 1 then runs256 k else 91 :: (runs256 k ++ [93])
theorem runsL_len (p : Nat → Bool) : ∀ (f i : Nat), (runsL p f i).length ≤ 9 * f
  | 0, i => by simp [runsL]
  | f + 1, i => by
    rw [runsL]
    split
    · have h1 := runsL_len p f (rEnd p (256 - i) i + 1)
      have h2 := rt_len i (rEnd p (256 - i) i - 1)
      split <;> simp <;> omega
    · simp
theorem runs256_len (k : C4) : (runs256 k).length ≤ 2304 := runsL_len _ _ _
theorem textL_dot (k : C4) (h : k.eqb dotC = true) : textL k = [46] := by rw [textL, if_pos h]
theorem textL_one (k : C4) (h : k.eqb dotC = false) (h2 : (k.many 4 == 1) = true) : textL k = runs256 k := by rw [textL, if_neg (by rw [h]; exact Bool.false_ne_true), if_pos h2]
theorem textL_more (k : C4) (h : k.eqb dotC = false) (h2 : (k.many 4 == 1) = false) : textL k = 91 :: (runs256 k ++ [93]) := by rw [textL, if_neg (by rw [h]; exact Bool.false_ne_true), if_neg (by rw [h2]; exact Bool.false_ne_true)]
end Go.Proofs.Ytmdfdlljeggbbaa
