/- Plain mathematics of classes (four words of 64 bits), with no program in it: what a class holds, the words' arithmetic, the texts of bytes, runs and classes. Classes in memory, and small facts on worlds and endings: of no Go function. Plain mathematics of classes: bits, how many, that two classes have other texts. No program in it. Plain mathematics of classes, second part: the library's bit count is the number of bits. -/
import Derived.WalkKit
import Derived.Lib.Builder
import Derived.Lib.Bytealg
import Derived.Test.YtejbififfceamaaGreatDoorProg
import Derived.WalkSpells
import Derived.WalkLawsBesides
import Derived.Deep.QuietTactic
import Derived.BigQuiet
import Derived.Deep.RegionHeld3
import Derived.Lib.QuietBelow
namespace Go.Proofs.YtejbififfceamaaGreatDoor
set_option linter.unusedSimpArgs false
set_option linter.unusedVariables false
open Go.RowKit

/-- Four words. -/
structure C4 where
  a : Int
  b : Int
  c : Int
  d : Int
def C4.w (x : C4) (i : Nat) : Int := if i = 0 then x.a else if i = 1 then x.b else if i = 2 then x.c else x.d
def C4.put (k : C4) (i : Nat) (z : Int) : C4 := ⟨if i = 0 then z else k.a, if i = 1 then z else k.b, if i = 2 then z else k.c, if i = 3 then z else k.d⟩
abbrev C4.cells (k : C4) : Array Value := #[.int .u64 k.a, .int .u64 k.b, .int .u64 k.c, .int .u64 k.d]
abbrev C4.v (k : C4) : Value := .agg #[.int .u64 k.a, .int .u64 k.b, .int .u64 k.c, .int .u64 k.d]
def z4 : C4 := ⟨0, 0, 0, 0⟩
theorem C4.get (x : C4) (i : Nat) (h : i < 4) : ([.int .u64 x.a, .int .u64 x.b, .int .u64 x.c, .int .u64 x.d] : List Value)[i]? = some (.int .u64 (x.w i)) := by
  match i, h with
  | 0, _ => rfl
  | 1, _ => rfl
  | 2, _ => rfl
  | 3, _ => rfl
theorem C4.set (x : C4) (i : Nat) (h : i < 4) (z : Int) : ([.int .u64 x.a, .int .u64 x.b, .int .u64 x.c, .int .u64 x.d] : List Value).set i (.int .u64 z) = [.int .u64 (x.put i z).a, .int .u64 (x.put i z).b, .int .u64 (x.put i z).c, .int .u64 (x.put i z).d] := by
  match i, h with
  | 0, _ => rfl
  | 1, _ => rfl
  | 2, _ => rfl
  | 3, _ => rfl
def C4.eqb (x y : C4) : Bool := x.a == y.a && (x.b == y.b && (x.c == y.c && x.d == y.d))
theorem C4.eqb_iff (x y : C4) : C4.eqb x y = true ↔ x = y := by
  cases x; cases y; simp [C4.eqb]

/-! What the Go functions compute, on words -/
def C4.add (k : C4) (x : Int) : C4 := k.put (x / 64).toNat (bits .or .u64 (k.w (x / 64).toNat) (IntKind.u64.wrap (2 ^ (x % 64).toNat)))
def C4.hasI (k : C4) (x : Int) : Bool := bits .and .u64 (k.w (x / 64).toNat / 2 ^ (x % 64).toNat) 1 == 1
def jn (F : Int → Int → Int) (x y : C4) (k : Nat) : C4 := ⟨if 0 < k then F x.a y.a else 0, if 1 < k then F x.b y.b else 0, if 2 < k then F x.c y.c else 0, if 3 < k then F x.d y.d else 0⟩
theorem jn_put (F : Int → Int → Int) (x y : C4) (k : Nat) (h : k < 4) : (jn F x y k).put k (F (x.w k) (y.w k)) = jn F x y (k + 1) := by
  match k, h with
  | 0, _ => rfl
  | 1, _ => rfl
  | 2, _ => rfl
  | 3, _ => rfl
def C4.and (x y : C4) : C4 := ⟨bits .and .u64 x.a y.a, bits .and .u64 x.b y.b, bits .and .u64 x.c y.c, bits .and .u64 x.d y.d⟩
def C4.or (x y : C4) : C4 := ⟨bits .or .u64 x.a y.a, bits .or .u64 x.b y.b, bits .or .u64 x.c y.c, bits .or .u64 x.d y.d⟩
def not64 (x : Int) : Int := bits .xor .u64 IntKind.u64.max x
def C4.not (x : C4) : C4 := ⟨not64 x.a, not64 x.b, not64 x.c, not64 x.d⟩
def o1 (x : Int) : Int := IntKind.u64.wrap (bits BinOp.and IntKind.u64 (x / 2) 6148914691236517205 + bits BinOp.and IntKind.u64 x 6148914691236517205)
def o2 (x : Int) : Int := IntKind.u64.wrap (bits BinOp.and IntKind.u64 (x / 4) 3689348814741910323 + bits BinOp.and IntKind.u64 x 3689348814741910323)
def o3 (x : Int) : Int := bits BinOp.and IntKind.u64 (IntKind.u64.wrap (x / 16 + x)) 1085102592571150095
def o4 (s : Int) (x : Int) : Int := IntKind.u64.wrap (x + x / s)
def ones (x : Int) : Int := bits BinOp.and IntKind.i64 (wrap64 (o4 4294967296 (o4 65536 (o4 256 (o3 (o2 (o1 x))))))) 127
def C4.many (k : C4) : Nat → Int
  | 0 => 0
  | n + 1 => wrap64 (k.many n + ones (k.w n))
def C4.ofL (l : List UInt8) : C4 := l.foldl (fun k c => k.add (c.toNat : Int)) z4
theorem C4.ofL_snoc (l : List UInt8) (c : UInt8) : C4.ofL (l ++ [c]) = (C4.ofL l).add (c.toNat : Int) := by simp [C4.ofL]

/-! Texts -/
def hexd (k : Nat) : UInt8 := if k < 10 then (48 + k).toUInt8 else (87 + k).toUInt8
def signL : List UInt8 := [92, 46, 91, 93, 40, 41, 124, 42, 43, 63, 94, 36, 45]
def bt (n : Nat) : List UInt8 :=
  if n < 32 ∨ 126 < n then [92, 120, hexd (n / 16), hexd (n % 16)]
  else if n.toUInt8 ∈ signL then [92, n.toUInt8] else [n.toUInt8]
def rt (i j : Nat) : List UInt8 := if j = i then bt i else if j = i + 1 then bt i ++ bt j else bt i ++ 45 :: bt j
def rEnd (p : Nat → Bool) : Nat → Nat → Nat
  | 0, i => i
  | f + 1, i => if p i then rEnd p f (i + 1) else i
def runsL (p : Nat → Bool) : Nat → Nat → List UInt8
  | 0, _ => []
  | f + 1, i => if i < 256 then (if i < rEnd p (256 - i) i then rt i (rEnd p (256 - i) i - 1) else []) ++ runsL p f (rEnd p (256 - i) i + 1) else []

theorem bt_hex (n : Nat) (h : n < 256) (h2 : n < 32 ∨ 126 < n) :
    (({ data := #[92, 120] } : ByteArray) ++ ({ data := #[48, 49, 50, 51, 52, 53, 54, 55, 56, 57, 97, 98, 99, 100, 101, 102] } : ByteArray).extract ((n : Int) / 16).toNat ((n : Int) / 16 + 1).toNat ++
      ({ data := #[48, 49, 50, 51, 52, 53, 54, 55, 56, 57, 97, 98, 99, 100, 101, 102] } : ByteArray).extract ((n : Int) % 16).toNat ((n : Int) % 16 + 1).toNat) = ⟨(bt n).toArray⟩ := by
  have key : ∀ n : Fin 256, (n.val < 32 ∨ 126 < n.val) → (({ data := #[92, 120] } : ByteArray) ++ ({ data := #[48, 49, 50, 51, 52, 53, 54, 55, 56, 57, 97, 98, 99, 100, 101, 102] } : ByteArray).extract ((n.val : Int) / 16).toNat ((n.val : Int) / 16 + 1).toNat ++
      ({ data := #[48, 49, 50, 51, 52, 53, 54, 55, 56, 57, 97, 98, 99, 100, 101, 102] } : ByteArray).extract ((n.val : Int) % 16).toNat ((n.val : Int) % 16 + 1).toNat) = ⟨(bt n.val).toArray⟩ := by decide +kernel
  exact key ⟨n, h⟩ h2
theorem enc_ascii (n : Nat) (h : n < 128) : Utf8.encode (n : Int) = ⟨#[UInt8.ofNat n]⟩ := by
  have key : ∀ n : Fin 128, Utf8.encode (n.val : Int) = ⟨#[UInt8.ofNat n.val]⟩ := by decide +kernel
  exact key ⟨n, h⟩
theorem signs_in (n : Nat) (h : n < 256) (hm : (0 : Int) ≤ Lib.indexByte [92, 46, 91, 93, 40, 41, 124, 42, 43, 63, 94, 36, 45] (UInt8.ofNat n)) (h1 : 32 ≤ n) (h2 : n ≤ 126) : bt n = [92, UInt8.ofNat n] := by
  have key : ∀ n : Fin 256, (0 : Int) ≤ Lib.indexByte [92, 46, 91, 93, 40, 41, 124, 42, 43, 63, 94, 36, 45] (UInt8.ofNat n.val) → 32 ≤ n.val → n.val ≤ 126 → bt n.val = [92, UInt8.ofNat n.val] := by decide +kernel
  exact key ⟨n, h⟩ hm h1 h2
theorem signs_out (n : Nat) (h : n < 256) (hm : ¬ (0 : Int) ≤ Lib.indexByte [92, 46, 91, 93, 40, 41, 124, 42, 43, 63, 94, 36, 45] (UInt8.ofNat n)) (h1 : 32 ≤ n) (h2 : n ≤ 126) : bt n = [UInt8.ofNat n] := by
  have key : ∀ n : Fin 256, ¬ (0 : Int) ≤ Lib.indexByte [92, 46, 91, 93, 40, 41, 124, 42, 43, 63, 94, 36, 45] (UInt8.ofNat n.val) → 32 ≤ n.val → n.val ≤ 126 → bt n.val = [UInt8.ofNat n.val] := by decide +kernel
  exact key ⟨n, h⟩ hm h1 h2
theorem bt_len (n : Nat) : (bt n).length ≤ 4 := by
  unfold bt
  split
  · simp
  · split <;> simp
theorem rEnd_le (p : Nat → Bool) : ∀ (f i : Nat), i ≤ rEnd p f i ∧ rEnd p f i ≤ i + f
  | 0, i => by simp [rEnd]
  | f + 1, i => by
    have := rEnd_le p f (i + 1)
    simp only [rEnd]
    split <;> omega
theorem rEnd_yes (p : Nat → Bool) (j : Nat) (h : j < 256) (hp : p j = true) : rEnd p (256 - j) j = rEnd p (256 - (j + 1)) (j + 1) := by
  rw [show 256 - j = (256 - (j + 1)) + 1 from by omega, rEnd, if_pos hp]
theorem rEnd_no (p : Nat → Bool) (j : Nat) (h : j < 256) (hp : p j = false) : rEnd p (256 - j) j = j := by
  rw [show 256 - j = (256 - (j + 1)) + 1 from by omega, rEnd, if_neg (by simp [hp])]
/-- The predicate of a class. -/
def C4.p (k : C4) (n : Nat) : Bool := k.hasI n
theorem rt_len (i j : Nat) : (rt i j).length ≤ 9 := by
  have h1 := bt_len i
  have h2 := bt_len j
  unfold rt
  split
  · omega
  · split <;> simp <;> omega

def dotC : C4 := (C4.ofL [10]).not
def runs256 (k : C4) : List UInt8 := runsL k.p 256 0
def textL (k : C4) : List UInt8 := if k.eqb dotC then [46] else if k.many 4 == 1 then runs256 k else 91 :: (runs256 k ++ [93])
theorem runsL_len (p : Nat → Bool) : ∀ (f i : Nat), (runsL p f i).length ≤ 9 * f
  | 0, i => by simp [runsL]
  | f + 1, i => by
    rw [runsL]
    split
    · have h1 := runsL_len p f (rEnd p (256 - i) i + 1)
      have h2 := rt_len i (rEnd p (256 - i) i - 1)
      split <;> simp <;> omega
    · simp
theorem runs256_len (k : C4) : (runs256 k).length ≤ 2304 := runsL_len _ _ _
theorem textL_dot (k : C4) (h : k.eqb dotC = true) : textL k = [46] := by rw [textL, if_pos h]
theorem textL_one (k : C4) (h : k.eqb dotC = false) (h2 : (k.many 4 == 1) = true) : textL k = runs256 k := by rw [textL, if_neg (by rw [h]; exact Bool.false_ne_true), if_pos h2]
theorem textL_more (k : C4) (h : k.eqb dotC = false) (h2 : (k.many 4 == 1) = false) : textL k = 91 :: (runs256 k ++ [93]) := by rw [textL, if_neg (by rw [h]; exact Bool.false_ne_true), if_neg (by rw [h2]; exact Bool.false_ne_true)]
end Go.Proofs.YtejbififfceamaaGreatDoor
namespace Go.Proofs.YtejbififfceamaaGreatDoor
set_option linter.unusedSimpArgs false
set_option linter.unusedVariables false
open Go.RowKit

/-- Block b holds class k. -/
def Hb (w : World) (b : Nat) (k : C4) : Prop := w.heap[b]? = some (.cells k.cells 104 (0, 0))
theorem Hb.cell {w : World} {b : Nat} {k : C4} (h : Hb w b k) (i : Nat) (hi : i < 4) : w.cell? ⟨b, i, none⟩ = some (.int .u64 (k.w i)) := by
  rw [Lib.cell_of_heap h]
  have := k.get i hi
  simpa using this
theorem Hb.c0 {w : World} {b : Nat} {k : C4} (h : Hb w b k) : w.cell? ⟨b, 0, none⟩ = some (.int .u64 k.a) := h.cell 0 (by decide)
theorem Hb.c1 {w : World} {b : Nat} {k : C4} (h : Hb w b k) : w.cell? ⟨b, 1, none⟩ = some (.int .u64 k.b) := h.cell 1 (by decide)
theorem Hb.c2 {w : World} {b : Nat} {k : C4} (h : Hb w b k) : w.cell? ⟨b, 2, none⟩ = some (.int .u64 k.c) := h.cell 2 (by decide)
theorem Hb.c3 {w : World} {b : Nat} {k : C4} (h : Hb w b k) : w.cell? ⟨b, 3, none⟩ = some (.int .u64 k.d) := h.cell 3 (by decide)
theorem Hb.frozen {w : World} {b : Nat} {k : C4} (h : Hb w b k) (i : Nat) : w.frozen? ⟨b, i, none⟩ = false := Lib.frozen_of_heap h i
theorem Hb.all {w : World} {b : Nat} {k : C4} (h : Hb w b k) : w.cell? ⟨b, 0, none⟩ = some (.int .u64 k.a) ∧ w.cell? ⟨b, 1, none⟩ = some (.int .u64 k.b) ∧ w.cell? ⟨b, 2, none⟩ = some (.int .u64 k.c) ∧ w.cell? ⟨b, 3, none⟩ = some (.int .u64 k.d) ∧ w.frozen? ⟨b, 0, none⟩ = false ∧ w.frozen? ⟨b, 1, none⟩ = false ∧ w.frozen? ⟨b, 2, none⟩ = false ∧ w.frozen? ⟨b, 3, none⟩ = false :=
  ⟨h.c0, h.c1, h.c2, h.c3, h.frozen 0, h.frozen 1, h.frozen 2, h.frozen 3⟩
theorem Hb.lt {w : World} {b : Nat} {k : C4} (h : Hb w b k) : b < w.heap.size := by
  rcases Nat.lt_or_ge b w.heap.size with h' | h'
  · exact h'
  · simp [Hb, Array.getElem?_eq_none h'] at h
theorem Hb.drew {w : World} {b : Nat} {k : C4} (h : Hb w b k) : Hb w.drew b k := h
theorem Hb.below {w w' : World} {B b : Nat} {k : C4} (h : Hb w b k) (hb : Below B w w') (hlt : b < B) : Hb w' b k := (hb.block b hlt).trans h
theorem Hb.alloc {w : World} {b : Nat} {k : C4} (h : Hb w b k) (o : Obj) : Hb (w.alloc o) b k := (Below.heap_alloc w o b h.lt).trans h
theorem Hb.new (w : World) (k : C4) (b : Nat) (hb : b = w.heap.size) : Hb (w.alloc (.cells k.cells 104)) b k := by subst hb; exact heap_alloc_new w _
theorem Hb.ca {w : World} {b : Nat} {k : C4} (h : Hb w b k) : (∀ o, (w.alloc o).cell? ⟨b, 0, none⟩ = some (.int .u64 k.a)) ∧ (∀ o, (w.alloc o).cell? ⟨b, 1, none⟩ = some (.int .u64 k.b)) ∧ (∀ o, (w.alloc o).cell? ⟨b, 2, none⟩ = some (.int .u64 k.c)) ∧ (∀ o, (w.alloc o).cell? ⟨b, 3, none⟩ = some (.int .u64 k.d)) :=
  ⟨fun o => (h.alloc o).c0, fun o => (h.alloc o).c1, fun o => (h.alloc o).c2, fun o => (h.alloc o).c3⟩
theorem Hb.cr {w : World} {b : Nat} {k : C4} (h : Hb w b k) : (∀ d os, (Go.Sort.grow (redrawn w d) os).cell? ⟨b, 0, none⟩ = some (.int .u64 k.a)) ∧ (∀ d os, (Go.Sort.grow (redrawn w d) os).cell? ⟨b, 1, none⟩ = some (.int .u64 k.b)) ∧ (∀ d os, (Go.Sort.grow (redrawn w d) os).cell? ⟨b, 2, none⟩ = some (.int .u64 k.c)) ∧ (∀ d os, (Go.Sort.grow (redrawn w d) os).cell? ⟨b, 3, none⟩ = some (.int .u64 k.d)) :=
  ⟨cell_regrown h.c0, cell_regrown h.c1, cell_regrown h.c2, cell_regrown h.c3⟩
theorem Hb.other {w : World} {b : Nat} {k : C4} (h : Hb w b k) (p : Addr) (v : Value) (hp : b ≠ p.block) : Hb (w.setCell p v) b k := (Below.heap_setCell w p v b hp).trans h
theorem Hb.store {w : World} {b : Nat} {k : C4} (h : Hb w b k) (i : Nat) (hi : i < 4) (z : Int) : Hb (w.setCell ⟨b, i, none⟩ (.int .u64 z)) b (k.put i z) := by
  have hs := k.set i hi z
  simp only [Hb] at h ⊢
  simp [World.setCell, Array.getElem?_modify, h, hs]
abbrev put4 (w : World) (b : Nat) (u : C4) : World := (((w.setCell ⟨b, 0, none⟩ (.int .u64 u.a)).setCell ⟨b, 1, none⟩ (.int .u64 u.b)).setCell ⟨b, 2, none⟩ (.int .u64 u.c)).setCell ⟨b, 3, none⟩ (.int .u64 u.d)
theorem Hb.put4 {w : World} {b : Nat} {k : C4} (h : Hb w b k) (u : C4) : Hb (put4 w b u) b u :=
  ((((h.store 0 (by decide) u.a).store 1 (by decide) u.b).store 2 (by decide) u.c).store 3 (by decide) u.d)
theorem Hb.other4 {w : World} {b c : Nat} {k : C4} (h : Hb w b k) (u : C4) (hc : b ≠ c) : Hb (Go.Proofs.YtejbififfceamaaGreatDoor.put4 w c u) b k :=
  (((h.other _ _ hc).other _ _ hc).other _ _ hc).other _ _ hc
theorem below_put4 {w0 w : World} {B b : Nat} (h : Below B w0 w) (hb : B ≤ b) (u : C4) : Below B w0 (put4 w b u) :=
  (((h.setCell hb _).setCell hb _).setCell hb _).setCell hb _
theorem put4_size (w : World) (b : Nat) (u : C4) : (put4 w b u).heap.size = w.heap.size := by simp [World.setCell]

set_option maxRecDepth 100000 in
theorem eq4d (d : Nat) (x y : C4) (w : World) : (Op.equalIn (d + 1 + 1) 104 x.v y.v).run Tryz.prog w = .ok (x.eqb y) w := by
  have hi : ∀ (a b : Int) (w : World), (Op.equalIn (d + 1) 102 (.int .u64 a) (.int .u64 b)).run Tryz.prog w = .ok (a == b) w := fun a b w => run_equalIn_int w d 102 .u64 .u64 a b Tryz.underlying102
  have p0 : ∀ (z : C4) (w : World), (part 102 z.cells 0).run Tryz.prog w = .ok (.int .u64 z.a) w := fun _ _ => by kernel_rfl
  have p1 : ∀ (z : C4) (w : World), (part 102 z.cells 1).run Tryz.prog w = .ok (.int .u64 z.b) w := fun _ _ => by kernel_rfl
  have p2 : ∀ (z : C4) (w : World), (part 102 z.cells 2).run Tryz.prog w = .ok (.int .u64 z.c) w := fun _ _ => by kernel_rfl
  have p3 : ∀ (z : C4) (w : World), (part 102 z.cells 3).run Tryz.prog w = .ok (.int .u64 z.d) w := fun _ _ => by kernel_rfl
  rw [Op.equalIn]
  simp only [Sem.run_bind, run_underlying Tryz.underlying104, Result.andThen_ok, Tryz.sizeOf102]
  rw [Std.Legacy.Range.forIn_eq_forIn_range']
  rw [show List.range' _ _ _ = [0, 1, 2, 3] from rfl]
  simp only [List.forIn_cons, List.forIn_nil, Sem.run_bind, Nat.mul_one, p0, Result.andThen_ok, hi, Sem.run_ite]
  simp only [C4.eqb]
  cases h1 : x.a == y.a <;> cases h2 : x.b == y.b <;> cases h3 : x.c == y.c <;> cases h4 : x.d == y.d <;> simp [p1, p2, p3, hi, h2, h3, h4]
theorem eq4 (x y : C4) (w : World) : (Op.equalIn 10000 104 x.v y.v).run Tryz.prog w = .ok (x.eqb y) w := eq4d 9998 x y w

theorem ret_str {a b : ByteArray} (h : a = b) : Ending.returned (.string a) = .returned (.string b) := by rw [h]
theorem below_drewN' (w : World) (n : Nat) : Below w.heap.size w (w.drewN n) := ⟨rfl, rfl, rfl, Nat.le_refl _, fun _ _ => rfl⟩

theorem cat_str (a b : List UInt8) : (⟨a.toArray⟩ : ByteArray) ++ ⟨b.toArray⟩ = ⟨(a ++ b).toArray⟩ := by
  apply ByteArray.ext
  simp [ByteArray.data_append]
theorem size_str (a : List UInt8) : (⟨a.toArray⟩ : ByteArray).size = a.length := by simp [ByteArray.size]

theorem ret_int {k : IntKind} {a b : Int} (h : a = b) : Ending.returned (.int k a) = .returned (.int k b) := by rw [h]
end Go.Proofs.YtejbififfceamaaGreatDoor
namespace Go.Proofs.YtejbififfceamaaGreatDoor
set_option linter.unusedSimpArgs false
set_option linter.unusedVariables false
open Go.RowKit

/-! How many bits a word has -/
def cnt (p : Nat → Bool) : Nat → Nat
  | 0 => 0
  | n + 1 => cnt p n + (if p n then 1 else 0)
theorem cnt_congr (p q : Nat → Bool) : ∀ n, (∀ i, i < n → p i = q i) → cnt p n = cnt q n
  | 0, _ => rfl
  | n + 1, h => by rw [cnt, cnt, cnt_congr p q n (fun i hi => h i (by omega)), h n (by omega)]
theorem cnt_le (p : Nat → Bool) : ∀ n, cnt p n ≤ n
  | 0 => Nat.le_refl _
  | n + 1 => by have := cnt_le p n; rw [cnt]; split <;> omega
theorem cnt_add (p : Nat → Bool) (m : Nat) : ∀ n, cnt p (m + n) = cnt p m + cnt (fun j => p (m + j)) n
  | 0 => rfl
  | n + 1 => by rw [← Nat.add_assoc, cnt, cnt, cnt_add p m n, Nat.add_assoc]
theorem cnt_both (p q : Nat → Bool) : ∀ n, cnt (fun i => p i && q i) n + cnt (fun i => p i || q i) n = cnt p n + cnt q n
  | 0 => rfl
  | n + 1 => by
    have := cnt_both p q n
    simp only [cnt]
    by_cases hp : p n = true <;> by_cases hq : q n = true <;> simp [hp, hq] <;> omega
theorem cnt_not (p : Nat → Bool) : ∀ n, cnt p n + cnt (fun i => !p i) n = n
  | 0 => rfl
  | n + 1 => by
    have := cnt_not p n
    simp only [cnt]
    by_cases hp : p n = true <;> simp [hp] <;> omega
theorem cnt_pos (p : Nat → Bool) : ∀ n, cnt p n = 0 → ∀ i, i < n → p i = false
  | 0, _, i, hi => by omega
  | n + 1, h, i, hi => by
    rw [cnt] at h
    by_cases e : i = n
    · subst e
      cases hp : p i
      · rfl
      · rw [hp] at h; simp at h
    · exact cnt_pos p n (by omega) i (by omega)

theorem land_split (A a B b : Nat) (ha : a < 256) (hb : b < 256) : (256 * A + a) &&& (256 * B + b) = 256 * (A &&& B) + (a &&& b) := by
  have hab : a &&& b < 2 ^ 8 := Nat.lt_of_le_of_lt Nat.and_le_left ha
  apply Nat.eq_of_testBit_eq
  intro j
  have e : (256 : Nat) = 2 ^ 8 := rfl
  rw [e, Nat.testBit_and, Nat.testBit_two_pow_mul_add _ (by omega), Nat.testBit_two_pow_mul_add _ (by omega), Nat.testBit_two_pow_mul_add _ hab]
  split <;> simp

/-- Byte by byte. -/
def bm (f : Nat → Nat) : Nat → Nat → Nat
  | 0, _ => 0
  | k + 1, n => 256 * bm f k (n / 256) + f (n % 256)
def mk (m : Nat) : Nat → Nat
  | 0 => 0
  | k + 1 => 256 * mk m k + m
def f1 (y : Nat) : Nat := (y / 2 &&& 85) + (y &&& 85)
def f2 (y : Nat) : Nat := (y / 4 &&& 51) + (y &&& 51)
def f3 (y : Nat) : Nat := y / 16 + y % 16
def g2 (y : Nat) : Nat := f2 (f1 y)
def h3 (y : Nat) : Nat := f3 (g2 y)
theorem f1_lt : ∀ y : Fin 256, f1 y.val < 256 := by decide +kernel
theorem g2_le : ∀ y : Fin 256, g2 y.val % 16 ≤ 4 ∧ g2 y.val / 16 ≤ 4 := by decide +kernel
theorem h3_cnt : ∀ y : Fin 256, cnt y.val.testBit 8 = h3 y.val := by decide +kernel
theorem h3_le : ∀ y : Fin 256, h3 y.val ≤ 8 := by decide +kernel
theorem half85 : ∀ (y : Fin 256) (b : Fin 2), (y.val / 2 + 128 * b.val) &&& 85 = y.val / 2 &&& 85 := by decide +kernel
theorem half51 : ∀ (y : Fin 256) (b : Fin 4), (y.val / 4 + 64 * b.val) &&& 51 = y.val / 4 &&& 51 := by decide +kernel
theorem low15 (l : Nat) : l &&& 15 = l % 16 := Nat.and_two_pow_sub_one_eq_mod l 4
theorem step1 : ∀ (k n : Nat), (n / 2 &&& mk 85 k) + (n &&& mk 85 k) = bm f1 k n
  | 0, n => by simp [mk, bm]
  | k + 1, n => by
    have ih := step1 k (n / 256)
    have e1 : n / 2 = 256 * (n / 256 / 2) + (n % 256 / 2 + 128 * (n / 256 % 2)) := by omega
    have e2 : n &&& mk 85 (k + 1) = 256 * (n / 256 &&& mk 85 k) + (n % 256 &&& 85) := by
      conv => lhs; rw [show n = 256 * (n / 256) + n % 256 from by omega]
      exact land_split _ _ _ _ (by omega) (by omega)
    have e3 : n / 2 &&& mk 85 (k + 1) = 256 * (n / 256 / 2 &&& mk 85 k) + ((n % 256 / 2 + 128 * (n / 256 % 2)) &&& 85) := by
      rw [e1]
      have : n % 256 / 2 + 128 * (n / 256 % 2) < 256 := by omega
      exact land_split _ _ _ _ this (by omega)
    have e4 := half85 ⟨n % 256, by omega⟩ ⟨n / 256 % 2, by omega⟩
    simp only at e4
    rw [e2, e3, e4, bm, ← ih, f1]
    omega
theorem step2 : ∀ (k n : Nat), (n / 4 &&& mk 51 k) + (n &&& mk 51 k) = bm f2 k n
  | 0, n => by simp [mk, bm]
  | k + 1, n => by
    have ih := step2 k (n / 256)
    have e1 : n / 4 = 256 * (n / 256 / 4) + (n % 256 / 4 + 64 * (n / 256 % 4)) := by omega
    have e2 : n &&& mk 51 (k + 1) = 256 * (n / 256 &&& mk 51 k) + (n % 256 &&& 51) := by
      conv => lhs; rw [show n = 256 * (n / 256) + n % 256 from by omega]
      exact land_split _ _ _ _ (by omega) (by omega)
    have e3 : n / 4 &&& mk 51 (k + 1) = 256 * (n / 256 / 4 &&& mk 51 k) + ((n % 256 / 4 + 64 * (n / 256 % 4)) &&& 51) := by
      rw [e1]
      have : n % 256 / 4 + 64 * (n / 256 % 4) < 256 := by omega
      exact land_split _ _ _ _ this (by omega)
    have e4 := half51 ⟨n % 256, by omega⟩ ⟨n / 256 % 4, by omega⟩
    simp only at e4
    rw [e2, e3, e4, bm, ← ih, f2]
    omega
theorem bm_bm : ∀ (k n : Nat), bm f2 k (bm f1 k n) = bm g2 k n
  | 0, n => rfl
  | k + 1, n => by
    have h := f1_lt ⟨n % 256, by omega⟩
    simp only at h
    rw [bm, bm, bm, show (256 * bm f1 k (n / 256) + f1 (n % 256)) / 256 = bm f1 k (n / 256) from by omega, show (256 * bm f1 k (n / 256) + f1 (n % 256)) % 256 = f1 (n % 256) from by omega, bm_bm k (n / 256)]
    rfl
theorem bm_low (k n : Nat) : bm g2 k n % 16 ≤ 4 := by
  cases k with
  | zero => simp [bm]
  | succ k =>
    have h := g2_le ⟨n % 256, by omega⟩
    simp only at h
    rw [bm]
    omega
theorem step3 : ∀ (k n : Nat), (bm g2 k n / 16 + bm g2 k n) &&& mk 15 k = bm h3 k n
  | 0, n => by simp [mk, bm]
  | k + 1, n => by
    have ih := step3 k (n / 256)
    have h := g2_le ⟨n % 256, by omega⟩
    have hx := bm_low k (n / 256)
    simp only at h
    rw [bm, bm]
    generalize bm g2 k (n / 256) = X at *
    generalize hy : g2 (n % 256) = y at *
    have e1 : (256 * X + y) / 16 + (256 * X + y) = 256 * (X / 16 + X) + (16 * (X % 16) + y / 16 + y) := by omega
    have hl : 16 * (X % 16) + y / 16 + y < 256 := by omega
    rw [e1, mk, land_split _ _ _ _ hl (by omega), ih, low15]
    have e2 : h3 (n % 256) = y / 16 + y % 16 := by rw [h3, hy, f3]
    rw [e2]
    omega
/-- The bytes' sum. -/
def sb (f : Nat → Nat) : Nat → Nat → Nat
  | 0, _ => 0
  | k + 1, n => f (n % 256) + sb f k (n / 256)
theorem cnt_sb : ∀ (k n : Nat), cnt n.testBit (8 * k) = sb h3 k n
  | 0, n => rfl
  | k + 1, n => by
    rw [show 8 * (k + 1) = 8 + 8 * k from by omega, cnt_add, sb, ← cnt_sb k (n / 256)]
    have e1 := h3_cnt ⟨n % 256, by omega⟩
    simp only at e1
    rw [← e1]
    congr 1
    · apply cnt_congr
      intro i hi
      have : n % 256 = n % 2 ^ 8 := rfl
      rw [this, Nat.testBit_mod_two_pow]
      simp [hi]
    · apply cnt_congr
      intro i hi
      have : n / 256 = n / 2 ^ 8 := rfl
      rw [this, Nat.testBit_div_two_pow, Nat.add_comm]
theorem dv (m q r b : Nat) (h : b = m * q + r) (hr : r < m) : b / m = q := by
  subst h
  rw [Nat.mul_add_div (by omega), Nat.div_eq_of_lt hr, Nat.add_zero]
theorem md (m q r b : Nat) (h : b = m * q + r) (hr : r < m) : b % m = r := by
  subst h
  rw [Nat.mul_add_mod, Nat.mod_eq_of_lt hr]
theorem idn1 (c0 c1 c2 c3 c4 c5 c6 c7 : Nat) : c0 + 256 * c1 + 65536 * c2 + 16777216 * c3 + 4294967296 * c4 + 1099511627776 * c5 + 281474976710656 * c6 + 72057594037927936 * c7 = 256 * (c1 + 256 * c2 + 65536 * c3 + 16777216 * c4 + 4294967296 * c5 + 1099511627776 * c6 + 281474976710656 * c7) + c0 := by omega
theorem idn2 (c0 c1 c2 c3 c4 c5 c6 c7 : Nat) : (c0 + 256 * c1 + 65536 * c2 + 16777216 * c3 + 4294967296 * c4 + 1099511627776 * c5 + 281474976710656 * c6 + 72057594037927936 * c7) + (c1 + 256 * c2 + 65536 * c3 + 16777216 * c4 + 4294967296 * c5 + 1099511627776 * c6 + 281474976710656 * c7) = 65536 * ((c2 + c3) + 256 * (c3 + c4) + 65536 * (c4 + c5) + 16777216 * (c5 + c6) + 4294967296 * (c6 + c7) + 1099511627776 * c7) + (c0 + c1 + 256 * (c1 + c2)) := by omega
theorem idn3 (c0 c1 c2 c3 c4 c5 c6 c7 : Nat) : (c0 + 256 * c1 + 65536 * c2 + 16777216 * c3 + 4294967296 * c4 + 1099511627776 * c5 + 281474976710656 * c6 + 72057594037927936 * c7) + (c1 + 256 * c2 + 65536 * c3 + 16777216 * c4 + 4294967296 * c5 + 1099511627776 * c6 + 281474976710656 * c7) + ((c2 + c3) + 256 * (c3 + c4) + 65536 * (c4 + c5) + 16777216 * (c5 + c6) + 4294967296 * (c6 + c7) + 1099511627776 * c7) = 4294967296 * ((c4 + c5 + c6 + c7) + 256 * (c5 + c6 + c7) + 65536 * (c6 + c7) + 16777216 * c7) + (c0 + c1 + c2 + c3 + 256 * (c1 + c2 + c3 + c4) + 65536 * (c2 + c3 + c4 + c5) + 16777216 * (c3 + c4 + c5 + c6)) := by omega
theorem idn4 (c0 c1 c2 c3 c4 c5 c6 c7 : Nat) : (c0 + 256 * c1 + 65536 * c2 + 16777216 * c3 + 4294967296 * c4 + 1099511627776 * c5 + 281474976710656 * c6 + 72057594037927936 * c7) + (c1 + 256 * c2 + 65536 * c3 + 16777216 * c4 + 4294967296 * c5 + 1099511627776 * c6 + 281474976710656 * c7) + ((c2 + c3) + 256 * (c3 + c4) + 65536 * (c4 + c5) + 16777216 * (c5 + c6) + 4294967296 * (c6 + c7) + 1099511627776 * c7) + ((c4 + c5 + c6 + c7) + 256 * (c5 + c6 + c7) + 65536 * (c6 + c7) + 16777216 * c7) = 128 * (2 * ((c1 + c2 + c3 + c4 + (c5 + c6 + c7)) + 256 * (c2 + c3 + c4 + c5 + (c6 + c7)) + 65536 * (c3 + c4 + c5 + c6 + c7) + 16777216 * (c4 + c5 + c6 + c7) + 4294967296 * (c5 + c6 + c7) + 1099511627776 * (c6 + c7) + 281474976710656 * c7)) + (c0 + c1 + c2 + c3 + c4 + c5 + c6 + c7) := by omega
theorem bnd2 (c0 c1 c2 c3 c4 c5 c6 c7 : Nat) (k0 : c0 ≤ 8) (k1 : c1 ≤ 8) (k2 : c2 ≤ 8) (k3 : c3 ≤ 8) (k4 : c4 ≤ 8) (k5 : c5 ≤ 8) (k6 : c6 ≤ 8) (k7 : c7 ≤ 8) : c0 + c1 + 256 * (c1 + c2) < 65536 := by omega
theorem bnd3 (c0 c1 c2 c3 c4 c5 c6 c7 : Nat) (k0 : c0 ≤ 8) (k1 : c1 ≤ 8) (k2 : c2 ≤ 8) (k3 : c3 ≤ 8) (k4 : c4 ≤ 8) (k5 : c5 ≤ 8) (k6 : c6 ≤ 8) (k7 : c7 ≤ 8) : c0 + c1 + c2 + c3 + 256 * (c1 + c2 + c3 + c4) + 65536 * (c2 + c3 + c4 + c5) + 16777216 * (c3 + c4 + c5 + c6) < 4294967296 := by omega
theorem bnd4 (c0 c1 c2 c3 c4 c5 c6 c7 : Nat) (k0 : c0 ≤ 8) (k1 : c1 ≤ 8) (k2 : c2 ≤ 8) (k3 : c3 ≤ 8) (k4 : c4 ≤ 8) (k5 : c5 ≤ 8) (k6 : c6 ≤ 8) (k7 : c7 ≤ 8) : c0 + c1 + c2 + c3 + c4 + c5 + c6 + c7 < 128 := by omega
theorem bnd5 (c0 c1 c2 c3 c4 c5 c6 c7 : Nat) (k0 : c0 ≤ 8) (k1 : c1 ≤ 8) (k2 : c2 ≤ 8) (k3 : c3 ≤ 8) (k4 : c4 ≤ 8) (k5 : c5 ≤ 8) (k6 : c6 ≤ 8) (k7 : c7 ≤ 8) : (c0 + 256 * c1 + 65536 * c2 + 16777216 * c3 + 4294967296 * c4 + 1099511627776 * c5 + 281474976710656 * c6 + 72057594037927936 * c7) + (c1 + 256 * c2 + 65536 * c3 + 16777216 * c4 + 4294967296 * c5 + 1099511627776 * c6 + 281474976710656 * c7) + ((c2 + c3) + 256 * (c3 + c4) + 65536 * (c4 + c5) + 16777216 * (c5 + c6) + 4294967296 * (c6 + c7) + 1099511627776 * c7) + ((c4 + c5 + c6 + c7) + 256 * (c5 + c6 + c7) + 65536 * (c6 + c7) + 16777216 * c7) < 18446744073709551616 := by omega
theorem fold_plain (c0 c1 c2 c3 c4 c5 c6 c7 a b c d : Nat) (k0 : c0 ≤ 8) (k1 : c1 ≤ 8) (k2 : c2 ≤ 8) (k3 : c3 ≤ 8) (k4 : c4 ≤ 8) (k5 : c5 ≤ 8) (k6 : c6 ≤ 8) (k7 : c7 ≤ 8)
    (ha : a = c0 + 256 * c1 + 65536 * c2 + 16777216 * c3 + 4294967296 * c4 + 1099511627776 * c5 + 281474976710656 * c6 + 72057594037927936 * c7)
    (hb : b = a + a / 256) (hc : c = b + b / 65536) (hd : d = c + c / 4294967296) :
    a < 18446744073709551616 ∧ b < 18446744073709551616 ∧ c < 18446744073709551616 ∧ d < 18446744073709551616 ∧ d % 128 = c0 + c1 + c2 + c3 + c4 + c5 + c6 + c7 := by
  have e1 : a / 256 = c1 + 256 * c2 + 65536 * c3 + 16777216 * c4 + 4294967296 * c5 + 1099511627776 * c6 + 281474976710656 * c7 := dv 256 _ c0 a (ha.trans (idn1 c0 c1 c2 c3 c4 c5 c6 c7)) (Nat.lt_of_le_of_lt k0 (by decide))
  rw [e1, ha] at hb
  have e2 : b / 65536 = (c2 + c3) + 256 * (c3 + c4) + 65536 * (c4 + c5) + 16777216 * (c5 + c6) + 4294967296 * (c6 + c7) + 1099511627776 * c7 := dv 65536 _ (c0 + c1 + 256 * (c1 + c2)) b (hb.trans (idn2 c0 c1 c2 c3 c4 c5 c6 c7)) (bnd2 c0 c1 c2 c3 c4 c5 c6 c7 k0 k1 k2 k3 k4 k5 k6 k7)
  rw [e2, hb] at hc
  have e3 : c / 4294967296 = (c4 + c5 + c6 + c7) + 256 * (c5 + c6 + c7) + 65536 * (c6 + c7) + 16777216 * c7 := dv 4294967296 _ (c0 + c1 + c2 + c3 + 256 * (c1 + c2 + c3 + c4) + 65536 * (c2 + c3 + c4 + c5) + 16777216 * (c3 + c4 + c5 + c6)) c (hc.trans (idn3 c0 c1 c2 c3 c4 c5 c6 c7)) (bnd3 c0 c1 c2 c3 c4 c5 c6 c7 k0 k1 k2 k3 k4 k5 k6 k7)
  rw [e3, hc] at hd
  have e4 : d % 128 = c0 + c1 + c2 + c3 + c4 + c5 + c6 + c7 := md 128 (2 * ((c1 + c2 + c3 + c4 + (c5 + c6 + c7)) + 256 * (c2 + c3 + c4 + c5 + (c6 + c7)) + 65536 * (c3 + c4 + c5 + c6 + c7) + 16777216 * (c4 + c5 + c6 + c7) + 4294967296 * (c5 + c6 + c7) + 1099511627776 * (c6 + c7) + 281474976710656 * c7)) _ d (hd.trans (idn4 c0 c1 c2 c3 c4 c5 c6 c7)) (bnd4 c0 c1 c2 c3 c4 c5 c6 c7 k0 k1 k2 k3 k4 k5 k6 k7)
  have b5 := bnd5 c0 c1 c2 c3 c4 c5 c6 c7 k0 k1 k2 k3 k4 k5 k6 k7
  rw [← hd] at b5
  have l1 : c ≤ d := by rw [hd, hc]; exact Nat.le_add_right _ _
  have l2 : b ≤ c := by rw [hc, hb]; exact Nat.le_add_right _ _
  have l3 : a ≤ b := by rw [hb, ha]; exact Nat.le_add_right _ _
  exact ⟨Nat.lt_of_le_of_lt (Nat.le_trans l3 (Nat.le_trans l2 l1)) b5, Nat.lt_of_le_of_lt (Nat.le_trans l2 l1) b5, Nat.lt_of_le_of_lt l1 b5, b5, e4⟩
theorem flat_bytes (c0 c1 c2 c3 c4 c5 c6 c7 : Nat) : 256 * (256 * (256 * (256 * (256 * (256 * (256 * (256 * 0 + c7) + c6) + c5) + c4) + c3) + c2) + c1) + c0 = c0 + 256 * c1 + 65536 * c2 + 16777216 * c3 + 4294967296 * c4 + 1099511627776 * c5 + 281474976710656 * c6 + 72057594037927936 * c7 := by omega
theorem sum_bytes (c0 c1 c2 c3 c4 c5 c6 c7 : Nat) : c0 + c1 + c2 + c3 + c4 + c5 + c6 + c7 = c0 + (c1 + (c2 + (c3 + (c4 + (c5 + (c6 + (c7 + 0))))))) := by omega
theorem fold_bytes (n a b c d : Nat) (ha : a = bm h3 8 n) (hb : b = a + a / 256) (hc : c = b + b / 65536) (hd : d = c + c / 4294967296) :
    a < 18446744073709551616 ∧ b < 18446744073709551616 ∧ c < 18446744073709551616 ∧ d < 18446744073709551616 ∧ d % 128 = sb h3 8 n := by
  have key : ∀ m : Nat, h3 (m % 256) ≤ 8 := fun m => h3_le ⟨m % 256, Nat.mod_lt _ (by decide)⟩
  have h := fold_plain _ _ _ _ _ _ _ _ a b c d (key n) (key (n / 256)) (key (n / 256 / 256)) (key (n / 256 / 256 / 256)) (key (n / 256 / 256 / 256 / 256)) (key (n / 256 / 256 / 256 / 256 / 256)) (key (n / 256 / 256 / 256 / 256 / 256 / 256)) (key (n / 256 / 256 / 256 / 256 / 256 / 256 / 256)) (ha.trans (flat_bytes _ _ _ _ _ _ _ _)) hb hc hd
  exact ⟨h.1, h.2.1, h.2.2.1, h.2.2.2.1, h.2.2.2.2.trans (sum_bytes _ _ _ _ _ _ _ _)⟩
end Go.Proofs.YtejbififfceamaaGreatDoor
namespace Go.Proofs.YtejbififfceamaaGreatDoor
set_option linter.unusedSimpArgs false
set_option linter.unusedVariables false
open Go.RowKit
theorem u64_small (n : Nat) (h : n < 18446744073709551616) : IntKind.u64.wrap (n : Int) = (n : Int) := by
  rw [IntKind.wrap_u64]; omega
theorem o1_nat (n : Nat) (h : n < 18446744073709551616) : o1 (n : Int) = ((bm f1 8 n : Nat) : Int) ∧ bm f1 8 n < 18446744073709551616 := by
  have e := step1 8 n
  have em : mk 85 8 = 6148914691236517205 := by simp [mk]
  rw [em] at e
  have l1 : n / 2 &&& 6148914691236517205 ≤ 6148914691236517205 := Nat.and_le_right
  have l2 : n &&& 6148914691236517205 ≤ 6148914691236517205 := Nat.and_le_right
  have hd : (n : Int) / 2 = ((n / 2 : Nat) : Int) := by omega
  have a1 := u64_and_nat (n / 2) 6148914691236517205 (by omega) (by omega)
  have a2 := u64_and_nat n 6148914691236517205 h (by omega)
  refine ⟨?_, by omega⟩
  rw [o1, hd, ← e]
  have c5 : ((6148914691236517205 : Nat) : Int) = 6148914691236517205 := by omega
  rw [c5] at a1 a2
  rw [a1, a2, ← Int.natCast_add]
  exact u64_small _ (by omega)
theorem o2_nat (n : Nat) (h : n < 18446744073709551616) : o2 (n : Int) = ((bm f2 8 n : Nat) : Int) ∧ bm f2 8 n < 18446744073709551616 := by
  have e := step2 8 n
  have em : mk 51 8 = 3689348814741910323 := by simp [mk]
  rw [em] at e
  have l1 : n / 4 &&& 3689348814741910323 ≤ 3689348814741910323 := Nat.and_le_right
  have l2 : n &&& 3689348814741910323 ≤ 3689348814741910323 := Nat.and_le_right
  have hd : (n : Int) / 4 = ((n / 4 : Nat) : Int) := by omega
  have a1 := u64_and_nat (n / 4) 3689348814741910323 (by omega) (by omega)
  have a2 := u64_and_nat n 3689348814741910323 h (by omega)
  refine ⟨?_, by omega⟩
  rw [o2, hd, ← e]
  have c5 : ((3689348814741910323 : Nat) : Int) = 3689348814741910323 := by omega
  rw [c5] at a1 a2
  rw [a1, a2, ← Int.natCast_add]
  exact u64_small _ (by omega)
theorem bm_g2_le : ∀ (k n : Nat), bm g2 k n ≤ 68 * mk 1 k
  | 0, n => by simp [bm, mk]
  | k + 1, n => by
    have ih := bm_g2_le k (n / 256)
    have h := g2_le ⟨n % 256, by omega⟩
    simp only at h
    rw [bm, mk]
    omega
theorem o3_nat (n : Nat) : o3 ((bm g2 8 n : Nat) : Int) = ((bm h3 8 n : Nat) : Int) := by
  have e := step3 8 n
  have em : mk 15 8 = 1085102592571150095 := by simp [mk]
  have hl := bm_g2_le 8 n
  have em1 : mk 1 8 = 72340172838076673 := by simp [mk]
  rw [em] at e
  rw [em1] at hl
  generalize bm g2 8 n = x at *
  have hd : (x : Int) / 16 = ((x / 16 : Nat) : Int) := by omega
  rw [o3, hd, ← Int.natCast_add, u64_small _ (by omega), ← e]
  exact u64_and_nat (x / 16 + x) 1085102592571150095 (by omega) (by omega)
theorem o4_nat (s n : Nat) (h : n + n / s < 18446744073709551616) : o4 (s : Int) (n : Int) = ((n + n / s : Nat) : Int) := by
  rw [o4, ← Int.natCast_ediv, ← Int.natCast_add]
  exact u64_small _ h
theorem o4_a (n : Nat) (h : n + n / 256 < 18446744073709551616) : o4 256 (n : Int) = ((n + n / 256 : Nat) : Int) := o4_nat 256 n h
theorem o4_b (n : Nat) (h : n + n / 65536 < 18446744073709551616) : o4 65536 (n : Int) = ((n + n / 65536 : Nat) : Int) := o4_nat 65536 n h
theorem o4_c (n : Nat) (h : n + n / 4294967296 < 18446744073709551616) : o4 4294967296 (n : Int) = ((n + n / 4294967296 : Nat) : Int) := o4_nat 4294967296 n h
theorem low127 (x : Nat) : bits .and .i64 (wrap64 (x : Int)) 127 = ((x % 128 : Nat) : Int) := by
  rw [i64_and127]
  unfold wrap64
  omega
theorem ones_nat (n : Nat) (h : n < 18446744073709551616) : ones (n : Int) = ((cnt n.testBit 64 : Nat) : Int) := by
  obtain ⟨a, b, c, d, e⟩ := fold_bytes n _ _ _ _ rfl rfl rfl rfl
  have hc := cnt_sb 8 n
  have h1 := o1_nat n h
  have h2 := o2_nat _ h1.2
  rw [ones, h1.1, h2.1, bm_bm, o3_nat, o4_a _ b, o4_b _ c, o4_c _ d, low127, e]
  exact congrArg (fun x : Nat => (x : Int)) hc.symm
end Go.Proofs.YtejbififfceamaaGreatDoor
