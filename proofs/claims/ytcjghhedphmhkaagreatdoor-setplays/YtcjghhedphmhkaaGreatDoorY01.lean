/- Own texts. -/
import Derived.WalkKit
import Derived.Lib.Builder
import Derived.Lib.Bytealg
import Derived.Test.YtcjghhedphmhkaaGreatDoorProg
import Derived.WalkSpells
import Derived.WalkLawsBesides
import Derived.Deep.QuietTactic
import Derived.BigQuiet
import Derived.Deep.RegionHeld3
import Derived.Lib.QuietBelow
import Derived.Deep.AppendLies
import Derived.ProofKit
import Derived.OpenShut
import Derived.Laws.IdiomArrays
import Derived.Deep.Slices
import Derived.ChangeSame
import Derived.Stop.Asserts
import Derived.Laws.Externs
import Derived.Test.YtcjghhedphmhkaaGreatDoorRows
import Derived.Test.YtcjghhedphmhkaaGreatDoorCards
import Derived.Test.YtcjghhedphmhkaaGreatDoorTie
import Derived.Carry
import Derived.LaidLaws
import Derived.LaidHandle
import Derived.Stop.Joined
import Derived.SevenTiedAt
import Derived.Lib.TrailingZeros
import Derived.OwnWalk
import Derived.Deep.Onto
set_option linter.unusedSimpArgs false
set_option linter.unusedVariables false
set_option maxRecDepth 100000
set_option maxHeartbeats 8000000
namespace Go.Proofs.YtcjghhedphmhkaaGreatDoor
open Go.RowKit
structure C4 where
  a : Int
  b : Int
  c : Int
  d : Int
def C4.w (x : C4) (i : Nat) : Int:=if i = 0 then x.a else if i = 1 then x.b else if i = 2 then x.c else x.d
def C4.put (k : C4) (i : Nat) (z : Int) : C4:=⟨if i = 0 then z else k.a,if i = 1 then z else k.b,if i = 2 then z else k.c,if i = 3 then z else k.d⟩
abbrev C4.cells (k : C4) : Array Value:=#[.int .u64 k.a,.int .u64 k.b,.int .u64 k.c,.int .u64 k.d]
abbrev C4.v (k : C4) : Value:=.agg #[.int .u64 k.a,.int .u64 k.b,.int .u64 k.c,.int .u64 k.d]
def z4 : C4:=⟨0,0,0,0⟩
theorem C4.get (x : C4) (i : Nat) (h : i < 4) : ([.int .u64 x.a,.int .u64 x.b,.int .u64 x.c,.int .u64 x.d] : List Value)[i]? = some (.int .u64 (x.w i)):=by
  match i,h with
  | 0,_ => rfl
  | 1,_ => rfl
  | 2,_ => rfl
  | 3,_ => rfl
theorem C4.set (x : C4) (i : Nat) (h : i < 4) (z : Int) : ([.int .u64 x.a,.int .u64 x.b,.int .u64 x.c,.int .u64 x.d] : List Value).set i (.int .u64 z) = [.int .u64 (x.put i z).a,.int .u64 (x.put i z).b,.int .u64 (x.put i z).c,.int .u64 (x.put i z).d]:=by
  match i,h with
  | 0,_ => rfl
  | 1,_ => rfl
  | 2,_ => rfl
  | 3,_ => rfl
def C4.eqb (x y : C4) : Bool:=x.a == y.a && (x.b == y.b && (x.c == y.c && x.d == y.d))
theorem C4.eqb_iff (x y : C4) : C4.eqb x y = true ↔ x = y:=by
  cases x; cases y; simp [C4.eqb]
/-! What the Go functions compute,on words -/
def C4.add (k : C4) (x : Int) : C4:=k.put (x / 64).toNat (bits .or .u64 (k.w (x / 64).toNat) (IntKind.u64.wrap (2 ^ (x % 64).toNat)))
def C4.hasI (k : C4) (x : Int) : Bool:=bits .and .u64 (k.w (x / 64).toNat / 2 ^ (x % 64).toNat) 1 == 1
def jn (F : Int → Int → Int) (x y : C4) (k : Nat) : C4:=⟨if 0 < k then F x.a y.a else 0,if 1 < k then F x.b y.b else 0,if 2 < k then F x.c y.c else 0,if 3 < k then F x.d y.d else 0⟩
theorem jn_put (F : Int → Int → Int) (x y : C4) (k : Nat) (h : k < 4) : (jn F x y k).put k (F (x.w k) (y.w k)) = jn F x y (k + 1):=by
  match k,h with
  | 0,_ => rfl
  | 1,_ => rfl
  | 2,_ => rfl
  | 3,_ => rfl
def C4.and (x y : C4) : C4:=⟨bits .and .u64 x.a y.a,bits .and .u64 x.b y.b,bits .and .u64 x.c y.c,bits .and .u64 x.d y.d⟩
def C4.or (x y : C4) : C4:=⟨bits .or .u64 x.a y.a,bits .or .u64 x.b y.b,bits .or .u64 x.c y.c,bits .or .u64 x.d y.d⟩
def not64 (x : Int) : Int:=bits .xor .u64 IntKind.u64.max x
def C4.not (x : C4) : C4:=⟨not64 x.a,not64 x.b,not64 x.c,not64 x.d⟩
def o1 (x : Int) : Int:=IntKind.u64.wrap (bits BinOp.and IntKind.u64 (x / 2) 6148914691236517205 + bits BinOp.and IntKind.u64 x 6148914691236517205)
def o2 (x : Int) : Int:=IntKind.u64.wrap (bits BinOp.and IntKind.u64 (x / 4) 3689348814741910323 + bits BinOp.and IntKind.u64 x 3689348814741910323)
def o3 (x : Int) : Int:=bits BinOp.and IntKind.u64 (IntKind.u64.wrap (x / 16 + x)) 1085102592571150095
def o4 (s : Int) (x : Int) : Int:=IntKind.u64.wrap (x + x / s)
def ones (x : Int) : Int:=bits BinOp.and IntKind.i64 (wrap64 (o4 4294967296 (o4 65536 (o4 256 (o3 (o2 (o1 x))))))) 127
def C4.many (k : C4) : Nat → Int
  | 0 => 0
  | n + 1 => wrap64 (k.many n + ones (k.w n))
def C4.ofL (l : List UInt8) : C4:=l.foldl (fun k c => k.add (c.toNat : Int)) z4
theorem C4.ofL_snoc (l : List UInt8) (c : UInt8) : C4.ofL (l ++ [c]) = (C4.ofL l).add (c.toNat : Int):=by simp [C4.ofL]
/-! Texts -/
def hexd (k : Nat) : UInt8:=if k < 10 then (48 + k).toUInt8 else (87 + k).toUInt8
def signL : List UInt8:=[92,46,91,93,40,41,124,42,43,63,94,36,45]
def bt (n : Nat) : List UInt8 :=
  if n < 32 ∨ 126 < n then [92,120,hexd (n / 16),hexd (n % 16)]
  else if n.toUInt8 ∈ signL then [92,n.toUInt8] else [n.toUInt8]
def rt (i j : Nat) : List UInt8:=if j = i then bt i else if j = i + 1 then bt i ++ bt j else bt i ++ 45 :: bt j
def rEnd (p : Nat → Bool) : Nat → Nat → Nat
  | 0,i => i
  | f + 1,i => if p i then rEnd p f (i + 1) else i
def runsL (p : Nat → Bool) : Nat → Nat → List UInt8
  | 0,_ => []
  | f + 1,i => if i < 256 then (if i < rEnd p (256 - i) i then rt i (rEnd p (256 - i) i - 1) else []) ++ runsL p f (rEnd p (256 - i) i + 1) else []
theorem bt_hex (n : Nat) (h : n < 256) (h2 : n < 32 ∨ 126 < n) :
    (({ data:=#[92,120] } : ByteArray) ++ ({ data:=#[48,49,50,51,52,53,54,55,56,57,97,98,99,100,101,102] } : ByteArray).extract ((n : Int) / 16).toNat ((n : Int) / 16 + 1).toNat ++
      ({ data:=#[48,49,50,51,52,53,54,55,56,57,97,98,99,100,101,102] } : ByteArray).extract ((n : Int) % 16).toNat ((n : Int) % 16 + 1).toNat) = ⟨(bt n).toArray⟩:=by
  have key : ∀ n : Fin 256,(n.val < 32 ∨ 126 < n.val) → (({ data:=#[92,120] } : ByteArray) ++ ({ data:=#[48,49,50,51,52,53,54,55,56,57,97,98,99,100,101,102] } : ByteArray).extract ((n.val : Int) / 16).toNat ((n.val : Int) / 16 + 1).toNat ++
      ({ data:=#[48,49,50,51,52,53,54,55,56,57,97,98,99,100,101,102] } : ByteArray).extract ((n.val : Int) % 16).toNat ((n.val : Int) % 16 + 1).toNat) = ⟨(bt n.val).toArray⟩:=by decide +kernel
  exact key ⟨n,h⟩ h2
theorem enc_ascii (n : Nat) (h : n < 128) : Utf8.encode (n : Int) = ⟨#[UInt8.ofNat n]⟩:=by
  have key : ∀ n : Fin 128,Utf8.encode (n.val : Int) = ⟨#[UInt8.ofNat n.val]⟩:=by decide +kernel
  exact key ⟨n,h⟩
theorem signs_in (n : Nat) (h : n < 256) (hm : (0 : Int) ≤ Lib.indexByte [92,46,91,93,40,41,124,42,43,63,94,36,45] (UInt8.ofNat n)) (h1 : 32 ≤ n) (h2 : n ≤ 126) : bt n = [92,UInt8.ofNat n]:=by
  have key : ∀ n : Fin 256,(0 : Int) ≤ Lib.indexByte [92,46,91,93,40,41,124,42,43,63,94,36,45] (UInt8.ofNat n.val) → 32 ≤ n.val → n.val ≤ 126 → bt n.val = [92,UInt8.ofNat n.val]:=by decide +kernel
  exact key ⟨n,h⟩ hm h1 h2
theorem signs_out (n : Nat) (h : n < 256) (hm : ¬ (0 : Int) ≤ Lib.indexByte [92,46,91,93,40,41,124,42,43,63,94,36,45] (UInt8.ofNat n)) (h1 : 32 ≤ n) (h2 : n ≤ 126) : bt n = [UInt8.ofNat n]:=by
  have key : ∀ n : Fin 256,¬ (0 : Int) ≤ Lib.indexByte [92,46,91,93,40,41,124,42,43,63,94,36,45] (UInt8.ofNat n.val) → 32 ≤ n.val → n.val ≤ 126 → bt n.val = [UInt8.ofNat n.val]:=by decide +kernel
  exact key ⟨n,h⟩ hm h1 h2
theorem bt_len (n : Nat) : (bt n).length ≤ 4:=by
  unfold bt
  split
  · simp
  · split <;> simp
theorem rEnd_le (p : Nat → Bool) : ∀ (f i : Nat),i ≤ rEnd p f i ∧ rEnd p f i ≤ i + f
  | 0,i => by simp [rEnd]
  | f + 1,i => by
    have:=rEnd_le p f (i + 1)
    simp only [rEnd]
    split <;> omega
theorem rEnd_yes (p : Nat → Bool) (j : Nat) (h : j < 256) (hp : p j = true) : rEnd p (256 - j) j = rEnd p (256 - (j + 1)) (j + 1):=by
  rw [show 256 - j = (256 - (j + 1)) + 1 from by omega,rEnd,if_pos hp]
theorem rEnd_no (p : Nat → Bool) (j : Nat) (h : j < 256) (hp : p j = false) : rEnd p (256 - j) j = j:=by
  rw [show 256 - j = (256 - (j + 1)) + 1 from by omega,rEnd,if_neg (by simp [hp])]
def C4.p (k : C4) (n : Nat) : Bool:=k.hasI n
theorem rt_len (i j : Nat) : (rt i j).length ≤ 9:=by
  have h1:=bt_len i
  have h2:=bt_len j
  unfold rt
  split
  · omega
  · split <;> simp <;> omega
def dotC : C4:=(C4.ofL [10]).not
def runs256 (k : C4) : List UInt8:=runsL k.p 256 0
def textL (k : C4) : List UInt8:=if k.eqb dotC then [46] else if k.many 4 == 1 then runs256 k else 91 :: (runs256 k ++ [93])
theorem runsL_len (p : Nat → Bool) : ∀ (f i : Nat),(runsL p f i).length ≤ 9 * f
  | 0,i => by simp [runsL]
  | f + 1,i => by
    rw [runsL]
    split
    · have h1:=runsL_len p f (rEnd p (256 - i) i + 1)
      have h2:=rt_len i (rEnd p (256 - i) i - 1)
      split <;> simp <;> omega
    · simp
theorem runs256_len (k : C4) : (runs256 k).length ≤ 2304:=runsL_len _ _ _
theorem textL_dot (k : C4) (h : k.eqb dotC = true) : textL k = [46]:=by rw [textL,if_pos h]
theorem textL_one (k : C4) (h : k.eqb dotC = false) (h2 : (k.many 4 == 1) = true) : textL k = runs256 k:=by rw [textL,if_neg (by rw [h]; exact Bool.false_ne_true),if_pos h2]
theorem textL_more (k : C4) (h : k.eqb dotC = false) (h2 : (k.many 4 == 1) = false) : textL k = 91 :: (runs256 k ++ [93]):=by rw [textL,if_neg (by rw [h]; exact Bool.false_ne_true),if_neg (by rw [h2]; exact Bool.false_ne_true)]
def Hb (w : World) (b : Nat) (k : C4) : Prop:=w.heap[b]? = some (.cells k.cells 104 (0,0))
theorem Hb.cell {w : World} {b : Nat} {k : C4} (h : Hb w b k) (i : Nat) (hi : i < 4) : w.cell? ⟨b,i,none⟩ = some (.int .u64 (k.w i)):=by
  rw [Lib.cell_of_heap h]
  have:=k.get i hi
  simpa using this
theorem Hb.c0 {w : World} {b : Nat} {k : C4} (h : Hb w b k) : w.cell? ⟨b,0,none⟩ = some (.int .u64 k.a):=h.cell 0 (by decide)
theorem Hb.c1 {w : World} {b : Nat} {k : C4} (h : Hb w b k) : w.cell? ⟨b,1,none⟩ = some (.int .u64 k.b):=h.cell 1 (by decide)
theorem Hb.c2 {w : World} {b : Nat} {k : C4} (h : Hb w b k) : w.cell? ⟨b,2,none⟩ = some (.int .u64 k.c):=h.cell 2 (by decide)
theorem Hb.c3 {w : World} {b : Nat} {k : C4} (h : Hb w b k) : w.cell? ⟨b,3,none⟩ = some (.int .u64 k.d):=h.cell 3 (by decide)
theorem Hb.frozen {w : World} {b : Nat} {k : C4} (h : Hb w b k) (i : Nat) : w.frozen? ⟨b,i,none⟩ = false:=Lib.frozen_of_heap h i
theorem Hb.all {w : World} {b : Nat} {k : C4} (h : Hb w b k) : w.cell? ⟨b,0,none⟩ = some (.int .u64 k.a) ∧ w.cell? ⟨b,1,none⟩ = some (.int .u64 k.b) ∧ w.cell? ⟨b,2,none⟩ = some (.int .u64 k.c) ∧ w.cell? ⟨b,3,none⟩ = some (.int .u64 k.d) ∧ w.frozen? ⟨b,0,none⟩ = false ∧ w.frozen? ⟨b,1,none⟩ = false ∧ w.frozen? ⟨b,2,none⟩ = false ∧ w.frozen? ⟨b,3,none⟩ = false :=
  ⟨h.c0,h.c1,h.c2,h.c3,h.frozen 0,h.frozen 1,h.frozen 2,h.frozen 3⟩
theorem Hb.lt {w : World} {b : Nat} {k : C4} (h : Hb w b k) : b < w.heap.size:=by
  rcases Nat.lt_or_ge b w.heap.size with h' | h'
  · exact h'
  · simp [Hb,Array.getElem?_eq_none h'] at h
theorem Hb.drew {w : World} {b : Nat} {k : C4} (h : Hb w b k) : Hb w.drew b k:=h
theorem Hb.below {w w' : World} {B b : Nat} {k : C4} (h : Hb w b k) (hb : Below B w w') (hlt : b < B) : Hb w' b k:=(hb.block b hlt).trans h
theorem Hb.alloc {w : World} {b : Nat} {k : C4} (h : Hb w b k) (o : Obj) : Hb (w.alloc o) b k:=(Below.heap_alloc w o b h.lt).trans h
theorem Hb.new (w : World) (k : C4) (b : Nat) (hb : b = w.heap.size) : Hb (w.alloc (.cells k.cells 104)) b k:=by subst hb; exact heap_alloc_new w _
theorem Hb.ca {w : World} {b : Nat} {k : C4} (h : Hb w b k) : (∀ o,(w.alloc o).cell? ⟨b,0,none⟩ = some (.int .u64 k.a)) ∧ (∀ o,(w.alloc o).cell? ⟨b,1,none⟩ = some (.int .u64 k.b)) ∧ (∀ o,(w.alloc o).cell? ⟨b,2,none⟩ = some (.int .u64 k.c)) ∧ (∀ o,(w.alloc o).cell? ⟨b,3,none⟩ = some (.int .u64 k.d)) :=
  ⟨fun o => (h.alloc o).c0,fun o => (h.alloc o).c1,fun o => (h.alloc o).c2,fun o => (h.alloc o).c3⟩
theorem Hb.cr {w : World} {b : Nat} {k : C4} (h : Hb w b k) : (∀ d os,(Go.Sort.grow (redrawn w d) os).cell? ⟨b,0,none⟩ = some (.int .u64 k.a)) ∧ (∀ d os,(Go.Sort.grow (redrawn w d) os).cell? ⟨b,1,none⟩ = some (.int .u64 k.b)) ∧ (∀ d os,(Go.Sort.grow (redrawn w d) os).cell? ⟨b,2,none⟩ = some (.int .u64 k.c)) ∧ (∀ d os,(Go.Sort.grow (redrawn w d) os).cell? ⟨b,3,none⟩ = some (.int .u64 k.d)) :=
  ⟨cell_regrown h.c0,cell_regrown h.c1,cell_regrown h.c2,cell_regrown h.c3⟩
theorem Hb.other {w : World} {b : Nat} {k : C4} (h : Hb w b k) (p : Addr) (v : Value) (hp : b ≠ p.block) : Hb (w.setCell p v) b k:=(Below.heap_setCell w p v b hp).trans h
theorem Hb.store {w : World} {b : Nat} {k : C4} (h : Hb w b k) (i : Nat) (hi : i < 4) (z : Int) : Hb (w.setCell ⟨b,i,none⟩ (.int .u64 z)) b (k.put i z):=by
  have hs:=k.set i hi z
  simp only [Hb] at h ⊢
  simp [World.setCell,Array.getElem?_modify,h,hs]
abbrev put4 (w : World) (b : Nat) (u : C4) : World:=(((w.setCell ⟨b,0,none⟩ (.int .u64 u.a)).setCell ⟨b,1,none⟩ (.int .u64 u.b)).setCell ⟨b,2,none⟩ (.int .u64 u.c)).setCell ⟨b,3,none⟩ (.int .u64 u.d)
theorem Hb.put4 {w : World} {b : Nat} {k : C4} (h : Hb w b k) (u : C4) : Hb (put4 w b u) b u :=
  ((((h.store 0 (by decide) u.a).store 1 (by decide) u.b).store 2 (by decide) u.c).store 3 (by decide) u.d)
theorem Hb.other4 {w : World} {b c : Nat} {k : C4} (h : Hb w b k) (u : C4) (hc : b ≠ c) : Hb (Go.Proofs.YtcjghhedphmhkaaGreatDoor.put4 w c u) b k :=
  (((h.other _ _ hc).other _ _ hc).other _ _ hc).other _ _ hc
theorem below_put4 {w0 w : World} {B b : Nat} (h : Below B w0 w) (hb : B ≤ b) (u : C4) : Below B w0 (put4 w b u) :=
  (((h.setCell hb _).setCell hb _).setCell hb _).setCell hb _
theorem eq4d (d : Nat) (x y : C4) (w : World) : (Op.equalIn (d + 1 + 1) 104 x.v y.v).run Tryz.prog w = .ok (x.eqb y) w:=by
  have hi : ∀ (a b : Int) (w : World),(Op.equalIn (d + 1) 102 (.int .u64 a) (.int .u64 b)).run Tryz.prog w = .ok (a == b) w:=fun a b w => run_equalIn_int w d 102 .u64 .u64 a b Tryz.underlying102
  have p0 : ∀ (z : C4) (w : World),(part 102 z.cells 0).run Tryz.prog w = .ok (.int .u64 z.a) w:=fun _ _ => by kernel_rfl
  have p1 : ∀ (z : C4) (w : World),(part 102 z.cells 1).run Tryz.prog w = .ok (.int .u64 z.b) w:=fun _ _ => by kernel_rfl
  have p2 : ∀ (z : C4) (w : World),(part 102 z.cells 2).run Tryz.prog w = .ok (.int .u64 z.c) w:=fun _ _ => by kernel_rfl
  have p3 : ∀ (z : C4) (w : World),(part 102 z.cells 3).run Tryz.prog w = .ok (.int .u64 z.d) w:=fun _ _ => by kernel_rfl
  rw [Op.equalIn]
  simp only [Sem.run_bind,run_underlying Tryz.underlying104,Result.andThen_ok,Tryz.sizeOf102]
  rw [Std.Legacy.Range.forIn_eq_forIn_range']
  rw [show List.range' _ _ _ = [0,1,2,3] from rfl]
  simp only [List.forIn_cons,List.forIn_nil,Sem.run_bind,Nat.mul_one,p0,Result.andThen_ok,hi,Sem.run_ite]
  simp only [C4.eqb]
  cases h1 : x.a == y.a <;> cases h2 : x.b == y.b <;> cases h3 : x.c == y.c <;> cases h4 : x.d == y.d <;> simp [p1,p2,p3,hi,h2,h3,h4]
theorem eq4 (x y : C4) (w : World) : (Op.equalIn 10000 104 x.v y.v).run Tryz.prog w = .ok (x.eqb y) w:=eq4d 9998 x y w
theorem ret_str {a b : ByteArray} (h : a = b) : Ending.returned (.string a) = .returned (.string b):=by rw [h]
theorem below_drewN' (w : World) (n : Nat) : Below w.heap.size w (w.drewN n):=⟨rfl,rfl,rfl,Nat.le_refl _,fun _ _ => rfl⟩
theorem cat_str (a b : List UInt8) : (⟨a.toArray⟩ : ByteArray) ++ ⟨b.toArray⟩ = ⟨(a ++ b).toArray⟩:=by
  apply ByteArray.ext
  simp [ByteArray.data_append]
theorem size_str (a : List UInt8) : (⟨a.toArray⟩ : ByteArray).size = a.length:=by simp [ByteArray.size]
theorem ret_int {k : IntKind} {a b : Int} (h : a = b) : Ending.returned (.int k a) = .returned (.int k b):=by rw [h]
/-! How many bits a word has -/
def cnt (p : Nat → Bool) : Nat → Nat
  | 0 => 0
  | n + 1 => cnt p n + (if p n then 1 else 0)
theorem cnt_congr (p q : Nat → Bool) : ∀ n,(∀ i,i < n → p i = q i) → cnt p n = cnt q n
  | 0,_ => rfl
  | n + 1,h => by rw [cnt,cnt,cnt_congr p q n (fun i hi => h i (by omega)),h n (by omega)]
theorem cnt_le (p : Nat → Bool) : ∀ n,cnt p n ≤ n
  | 0 => Nat.le_refl _
  | n + 1 => by have:=cnt_le p n; rw [cnt]; split <;> omega
theorem cnt_add (p : Nat → Bool) (m : Nat) : ∀ n,cnt p (m + n) = cnt p m + cnt (fun j => p (m + j)) n
  | 0 => rfl
  | n + 1 => by rw [← Nat.add_assoc,cnt,cnt,cnt_add p m n,Nat.add_assoc]
theorem cnt_pos (p : Nat → Bool) : ∀ n,cnt p n = 0 → ∀ i,i < n → p i = false
  | 0,_,i,hi => by omega
  | n + 1,h,i,hi => by
    rw [cnt] at h
    by_cases e : i = n
    · subst e
      cases hp : p i
      · rfl
      · rw [hp] at h; simp at h
    · exact cnt_pos p n (by omega) i (by omega)
theorem land_split (A a B b : Nat) (ha : a < 256) (hb : b < 256) : (256 * A + a) &&& (256 * B + b) = 256 * (A &&& B) + (a &&& b):=by
  have hab : a &&& b < 2 ^ 8:=Nat.lt_of_le_of_lt Nat.and_le_left ha
  apply Nat.eq_of_testBit_eq
  intro j
  have e : (256 : Nat) = 2 ^ 8:=rfl
  rw [e,Nat.testBit_and,Nat.testBit_two_pow_mul_add _ (by omega),Nat.testBit_two_pow_mul_add _ (by omega),Nat.testBit_two_pow_mul_add _ hab]
  split <;> simp
def bm (f : Nat → Nat) : Nat → Nat → Nat
  | 0,_ => 0
  | k + 1,n => 256 * bm f k (n / 256) + f (n % 256)
def mk (m : Nat) : Nat → Nat
  | 0 => 0
  | k + 1 => 256 * mk m k + m
def f1 (y : Nat) : Nat:=(y / 2 &&& 85) + (y &&& 85)
def f2 (y : Nat) : Nat:=(y / 4 &&& 51) + (y &&& 51)
def f3 (y : Nat) : Nat:=y / 16 + y % 16
def g2 (y : Nat) : Nat:=f2 (f1 y)
def h3 (y : Nat) : Nat:=f3 (g2 y)
theorem f1_lt : ∀ y : Fin 256,f1 y.val < 256:=by decide +kernel
theorem g2_le : ∀ y : Fin 256,g2 y.val % 16 ≤ 4 ∧ g2 y.val / 16 ≤ 4:=by decide +kernel
theorem h3_cnt : ∀ y : Fin 256,cnt y.val.testBit 8 = h3 y.val:=by decide +kernel
theorem h3_le : ∀ y : Fin 256,h3 y.val ≤ 8:=by decide +kernel
theorem half85 : ∀ (y : Fin 256) (b : Fin 2),(y.val / 2 + 128 * b.val) &&& 85 = y.val / 2 &&& 85:=by decide +kernel
theorem half51 : ∀ (y : Fin 256) (b : Fin 4),(y.val / 4 + 64 * b.val) &&& 51 = y.val / 4 &&& 51:=by decide +kernel
theorem low15 (l : Nat) : l &&& 15 = l % 16:=Nat.and_two_pow_sub_one_eq_mod l 4
theorem step1 : ∀ (k n : Nat),(n / 2 &&& mk 85 k) + (n &&& mk 85 k) = bm f1 k n
  | 0,n => by simp [mk,bm]
  | k + 1,n => by
    have ih:=step1 k (n / 256)
    have e1 : n / 2 = 256 * (n / 256 / 2) + (n % 256 / 2 + 128 * (n / 256 % 2)):=by omega
    have e2 : n &&& mk 85 (k + 1) = 256 * (n / 256 &&& mk 85 k) + (n % 256 &&& 85):=by
      conv => lhs; rw [show n = 256 * (n / 256) + n % 256 from by omega]
      exact land_split _ _ _ _ (by omega) (by omega)
    have e3 : n / 2 &&& mk 85 (k + 1) = 256 * (n / 256 / 2 &&& mk 85 k) + ((n % 256 / 2 + 128 * (n / 256 % 2)) &&& 85):=by
      rw [e1]
      have : n % 256 / 2 + 128 * (n / 256 % 2) < 256:=by omega
      exact land_split _ _ _ _ this (by omega)
    have e4:=half85 ⟨n % 256,by omega⟩ ⟨n / 256 % 2,by omega⟩
    simp only at e4
    rw [e2,e3,e4,bm,← ih,f1]
    omega
theorem step2 : ∀ (k n : Nat),(n / 4 &&& mk 51 k) + (n &&& mk 51 k) = bm f2 k n
  | 0,n => by simp [mk,bm]
  | k + 1,n => by
    have ih:=step2 k (n / 256)
    have e1 : n / 4 = 256 * (n / 256 / 4) + (n % 256 / 4 + 64 * (n / 256 % 4)):=by omega
    have e2 : n &&& mk 51 (k + 1) = 256 * (n / 256 &&& mk 51 k) + (n % 256 &&& 51):=by
      conv => lhs; rw [show n = 256 * (n / 256) + n % 256 from by omega]
      exact land_split _ _ _ _ (by omega) (by omega)
    have e3 : n / 4 &&& mk 51 (k + 1) = 256 * (n / 256 / 4 &&& mk 51 k) + ((n % 256 / 4 + 64 * (n / 256 % 4)) &&& 51):=by
      rw [e1]
      have : n % 256 / 4 + 64 * (n / 256 % 4) < 256:=by omega
      exact land_split _ _ _ _ this (by omega)
    have e4:=half51 ⟨n % 256,by omega⟩ ⟨n / 256 % 4,by omega⟩
    simp only at e4
    rw [e2,e3,e4,bm,← ih,f2]
    omega
theorem bm_bm : ∀ (k n : Nat),bm f2 k (bm f1 k n) = bm g2 k n
  | 0,n => rfl
  | k + 1,n => by
    have h:=f1_lt ⟨n % 256,by omega⟩
    simp only at h
    rw [bm,bm,bm,show (256 * bm f1 k (n / 256) + f1 (n % 256)) / 256 = bm f1 k (n / 256) from by omega,show (256 * bm f1 k (n / 256) + f1 (n % 256)) % 256 = f1 (n % 256) from by omega,bm_bm k (n / 256)]
    rfl
theorem bm_low (k n : Nat) : bm g2 k n % 16 ≤ 4:=by
  cases k with
  | zero => simp [bm]
  | succ k =>
    have h:=g2_le ⟨n % 256,by omega⟩
    simp only at h
    rw [bm]
    omega
theorem step3 : ∀ (k n : Nat),(bm g2 k n / 16 + bm g2 k n) &&& mk 15 k = bm h3 k n
  | 0,n => by simp [mk,bm]
  | k + 1,n => by
    have ih:=step3 k (n / 256)
    have h:=g2_le ⟨n % 256,by omega⟩
    have hx:=bm_low k (n / 256)
    simp only at h
    rw [bm,bm]
    generalize bm g2 k (n / 256) = X at *
    generalize hy : g2 (n % 256) = y at *
    have e1 : (256 * X + y) / 16 + (256 * X + y) = 256 * (X / 16 + X) + (16 * (X % 16) + y / 16 + y):=by omega
    have hl : 16 * (X % 16) + y / 16 + y < 256:=by omega
    rw [e1,mk,land_split _ _ _ _ hl (by omega),ih,low15]
    have e2 : h3 (n % 256) = y / 16 + y % 16:=by rw [h3,hy,f3]
    rw [e2]
    omega
def sb (f : Nat → Nat) : Nat → Nat → Nat
  | 0,_ => 0
  | k + 1,n => f (n % 256) + sb f k (n / 256)
theorem cnt_sb : ∀ (k n : Nat),cnt n.testBit (8 * k) = sb h3 k n
  | 0,n => rfl
  | k + 1,n => by
    rw [show 8 * (k + 1) = 8 + 8 * k from by omega,cnt_add,sb,← cnt_sb k (n / 256)]
    have e1:=h3_cnt ⟨n % 256,by omega⟩
    simp only at e1
    rw [← e1]
    congr 1
    · apply cnt_congr
      intro i hi
      have : n % 256 = n % 2 ^ 8:=rfl
      rw [this,Nat.testBit_mod_two_pow]
      simp [hi]
    · apply cnt_congr
      intro i hi
      have : n / 256 = n / 2 ^ 8:=rfl
      rw [this,Nat.testBit_div_two_pow,Nat.add_comm]
theorem dv (m q r b : Nat) (h : b = m * q + r) (hr : r < m) : b / m = q:=by
  subst h
  rw [Nat.mul_add_div (by omega),Nat.div_eq_of_lt hr,Nat.add_zero]
theorem md (m q r b : Nat) (h : b = m * q + r) (hr : r < m) : b % m = r:=by
  subst h
  rw [Nat.mul_add_mod,Nat.mod_eq_of_lt hr]
theorem idn1 (c0 c1 c2 c3 c4 c5 c6 c7 : Nat) : c0 + 256 * c1 + 65536 * c2 + 16777216 * c3 + 4294967296 * c4 + 1099511627776 * c5 + 281474976710656 * c6 + 72057594037927936 * c7 = 256 * (c1 + 256 * c2 + 65536 * c3 + 16777216 * c4 + 4294967296 * c5 + 1099511627776 * c6 + 281474976710656 * c7) + c0:=by omega
theorem idn2 (c0 c1 c2 c3 c4 c5 c6 c7 : Nat) : (c0 + 256 * c1 + 65536 * c2 + 16777216 * c3 + 4294967296 * c4 + 1099511627776 * c5 + 281474976710656 * c6 + 72057594037927936 * c7) + (c1 + 256 * c2 + 65536 * c3 + 16777216 * c4 + 4294967296 * c5 + 1099511627776 * c6 + 281474976710656 * c7) = 65536 * ((c2 + c3) + 256 * (c3 + c4) + 65536 * (c4 + c5) + 16777216 * (c5 + c6) + 4294967296 * (c6 + c7) + 1099511627776 * c7) + (c0 + c1 + 256 * (c1 + c2)):=by omega
theorem idn3 (c0 c1 c2 c3 c4 c5 c6 c7 : Nat) : (c0 + 256 * c1 + 65536 * c2 + 16777216 * c3 + 4294967296 * c4 + 1099511627776 * c5 + 281474976710656 * c6 + 72057594037927936 * c7) + (c1 + 256 * c2 + 65536 * c3 + 16777216 * c4 + 4294967296 * c5 + 1099511627776 * c6 + 281474976710656 * c7) + ((c2 + c3) + 256 * (c3 + c4) + 65536 * (c4 + c5) + 16777216 * (c5 + c6) + 4294967296 * (c6 + c7) + 1099511627776 * c7) = 4294967296 * ((c4 + c5 + c6 + c7) + 256 * (c5 + c6 + c7) + 65536 * (c6 + c7) + 16777216 * c7) + (c0 + c1 + c2 + c3 + 256 * (c1 + c2 + c3 + c4) + 65536 * (c2 + c3 + c4 + c5) + 16777216 * (c3 + c4 + c5 + c6)):=by omega
theorem idn4 (c0 c1 c2 c3 c4 c5 c6 c7 : Nat) : (c0 + 256 * c1 + 65536 * c2 + 16777216 * c3 + 4294967296 * c4 + 1099511627776 * c5 + 281474976710656 * c6 + 72057594037927936 * c7) + (c1 + 256 * c2 + 65536 * c3 + 16777216 * c4 + 4294967296 * c5 + 1099511627776 * c6 + 281474976710656 * c7) + ((c2 + c3) + 256 * (c3 + c4) + 65536 * (c4 + c5) + 16777216 * (c5 + c6) + 4294967296 * (c6 + c7) + 1099511627776 * c7) + ((c4 + c5 + c6 + c7) + 256 * (c5 + c6 + c7) + 65536 * (c6 + c7) + 16777216 * c7) = 128 * (2 * ((c1 + c2 + c3 + c4 + (c5 + c6 + c7)) + 256 * (c2 + c3 + c4 + c5 + (c6 + c7)) + 65536 * (c3 + c4 + c5 + c6 + c7) + 16777216 * (c4 + c5 + c6 + c7) + 4294967296 * (c5 + c6 + c7) + 1099511627776 * (c6 + c7) + 281474976710656 * c7)) + (c0 + c1 + c2 + c3 + c4 + c5 + c6 + c7):=by omega
theorem bnd2 (c0 c1 c2 c3 c4 c5 c6 c7 : Nat) (k0 : c0 ≤ 8) (k1 : c1 ≤ 8) (k2 : c2 ≤ 8) (k3 : c3 ≤ 8) (k4 : c4 ≤ 8) (k5 : c5 ≤ 8) (k6 : c6 ≤ 8) (k7 : c7 ≤ 8) : c0 + c1 + 256 * (c1 + c2) < 65536:=by omega
theorem bnd3 (c0 c1 c2 c3 c4 c5 c6 c7 : Nat) (k0 : c0 ≤ 8) (k1 : c1 ≤ 8) (k2 : c2 ≤ 8) (k3 : c3 ≤ 8) (k4 : c4 ≤ 8) (k5 : c5 ≤ 8) (k6 : c6 ≤ 8) (k7 : c7 ≤ 8) : c0 + c1 + c2 + c3 + 256 * (c1 + c2 + c3 + c4) + 65536 * (c2 + c3 + c4 + c5) + 16777216 * (c3 + c4 + c5 + c6) < 4294967296:=by omega
theorem bnd4 (c0 c1 c2 c3 c4 c5 c6 c7 : Nat) (k0 : c0 ≤ 8) (k1 : c1 ≤ 8) (k2 : c2 ≤ 8) (k3 : c3 ≤ 8) (k4 : c4 ≤ 8) (k5 : c5 ≤ 8) (k6 : c6 ≤ 8) (k7 : c7 ≤ 8) : c0 + c1 + c2 + c3 + c4 + c5 + c6 + c7 < 128:=by omega
theorem bnd5 (c0 c1 c2 c3 c4 c5 c6 c7 : Nat) (k0 : c0 ≤ 8) (k1 : c1 ≤ 8) (k2 : c2 ≤ 8) (k3 : c3 ≤ 8) (k4 : c4 ≤ 8) (k5 : c5 ≤ 8) (k6 : c6 ≤ 8) (k7 : c7 ≤ 8) : (c0 + 256 * c1 + 65536 * c2 + 16777216 * c3 + 4294967296 * c4 + 1099511627776 * c5 + 281474976710656 * c6 + 72057594037927936 * c7) + (c1 + 256 * c2 + 65536 * c3 + 16777216 * c4 + 4294967296 * c5 + 1099511627776 * c6 + 281474976710656 * c7) + ((c2 + c3) + 256 * (c3 + c4) + 65536 * (c4 + c5) + 16777216 * (c5 + c6) + 4294967296 * (c6 + c7) + 1099511627776 * c7) + ((c4 + c5 + c6 + c7) + 256 * (c5 + c6 + c7) + 65536 * (c6 + c7) + 16777216 * c7) < 18446744073709551616:=by omega
theorem fold_plain (c0 c1 c2 c3 c4 c5 c6 c7 a b c d : Nat) (k0 : c0 ≤ 8) (k1 : c1 ≤ 8) (k2 : c2 ≤ 8) (k3 : c3 ≤ 8) (k4 : c4 ≤ 8) (k5 : c5 ≤ 8) (k6 : c6 ≤ 8) (k7 : c7 ≤ 8)
    (ha : a = c0 + 256 * c1 + 65536 * c2 + 16777216 * c3 + 4294967296 * c4 + 1099511627776 * c5 + 281474976710656 * c6 + 72057594037927936 * c7)
    (hb : b = a + a / 256) (hc : c = b + b / 65536) (hd : d = c + c / 4294967296) :
    a < 18446744073709551616 ∧ b < 18446744073709551616 ∧ c < 18446744073709551616 ∧ d < 18446744073709551616 ∧ d % 128 = c0 + c1 + c2 + c3 + c4 + c5 + c6 + c7:=by
  have e1 : a / 256 = c1 + 256 * c2 + 65536 * c3 + 16777216 * c4 + 4294967296 * c5 + 1099511627776 * c6 + 281474976710656 * c7:=dv 256 _ c0 a (ha.trans (idn1 c0 c1 c2 c3 c4 c5 c6 c7)) (Nat.lt_of_le_of_lt k0 (by decide))
  rw [e1,ha] at hb
  have e2 : b / 65536 = (c2 + c3) + 256 * (c3 + c4) + 65536 * (c4 + c5) + 16777216 * (c5 + c6) + 4294967296 * (c6 + c7) + 1099511627776 * c7:=dv 65536 _ (c0 + c1 + 256 * (c1 + c2)) b (hb.trans (idn2 c0 c1 c2 c3 c4 c5 c6 c7)) (bnd2 c0 c1 c2 c3 c4 c5 c6 c7 k0 k1 k2 k3 k4 k5 k6 k7)
  rw [e2,hb] at hc
  have e3 : c / 4294967296 = (c4 + c5 + c6 + c7) + 256 * (c5 + c6 + c7) + 65536 * (c6 + c7) + 16777216 * c7:=dv 4294967296 _ (c0 + c1 + c2 + c3 + 256 * (c1 + c2 + c3 + c4) + 65536 * (c2 + c3 + c4 + c5) + 16777216 * (c3 + c4 + c5 + c6)) c (hc.trans (idn3 c0 c1 c2 c3 c4 c5 c6 c7)) (bnd3 c0 c1 c2 c3 c4 c5 c6 c7 k0 k1 k2 k3 k4 k5 k6 k7)
  rw [e3,hc] at hd
  have e4 : d % 128 = c0 + c1 + c2 + c3 + c4 + c5 + c6 + c7:=md 128 (2 * ((c1 + c2 + c3 + c4 + (c5 + c6 + c7)) + 256 * (c2 + c3 + c4 + c5 + (c6 + c7)) + 65536 * (c3 + c4 + c5 + c6 + c7) + 16777216 * (c4 + c5 + c6 + c7) + 4294967296 * (c5 + c6 + c7) + 1099511627776 * (c6 + c7) + 281474976710656 * c7)) _ d (hd.trans (idn4 c0 c1 c2 c3 c4 c5 c6 c7)) (bnd4 c0 c1 c2 c3 c4 c5 c6 c7 k0 k1 k2 k3 k4 k5 k6 k7)
  have b5:=bnd5 c0 c1 c2 c3 c4 c5 c6 c7 k0 k1 k2 k3 k4 k5 k6 k7
  rw [← hd] at b5
  have l1 : c ≤ d:=by rw [hd,hc]; exact Nat.le_add_right _ _
  have l2 : b ≤ c:=by rw [hc,hb]; exact Nat.le_add_right _ _
  have l3 : a ≤ b:=by rw [hb,ha]; exact Nat.le_add_right _ _
  exact ⟨Nat.lt_of_le_of_lt (Nat.le_trans l3 (Nat.le_trans l2 l1)) b5,Nat.lt_of_le_of_lt (Nat.le_trans l2 l1) b5,Nat.lt_of_le_of_lt l1 b5,b5,e4⟩
theorem flat_bytes (c0 c1 c2 c3 c4 c5 c6 c7 : Nat) : 256 * (256 * (256 * (256 * (256 * (256 * (256 * (256 * 0 + c7) + c6) + c5) + c4) + c3) + c2) + c1) + c0 = c0 + 256 * c1 + 65536 * c2 + 16777216 * c3 + 4294967296 * c4 + 1099511627776 * c5 + 281474976710656 * c6 + 72057594037927936 * c7:=by omega
theorem sum_bytes (c0 c1 c2 c3 c4 c5 c6 c7 : Nat) : c0 + c1 + c2 + c3 + c4 + c5 + c6 + c7 = c0 + (c1 + (c2 + (c3 + (c4 + (c5 + (c6 + (c7 + 0))))))):=by omega
theorem fold_bytes (n a b c d : Nat) (ha : a = bm h3 8 n) (hb : b = a + a / 256) (hc : c = b + b / 65536) (hd : d = c + c / 4294967296) :
    a < 18446744073709551616 ∧ b < 18446744073709551616 ∧ c < 18446744073709551616 ∧ d < 18446744073709551616 ∧ d % 128 = sb h3 8 n:=by
  have key : ∀ m : Nat,h3 (m % 256) ≤ 8:=fun m => h3_le ⟨m % 256,Nat.mod_lt _ (by decide)⟩
  have h:=fold_plain _ _ _ _ _ _ _ _ a b c d (key n) (key (n / 256)) (key (n / 256 / 256)) (key (n / 256 / 256 / 256)) (key (n / 256 / 256 / 256 / 256)) (key (n / 256 / 256 / 256 / 256 / 256)) (key (n / 256 / 256 / 256 / 256 / 256 / 256)) (key (n / 256 / 256 / 256 / 256 / 256 / 256 / 256)) (ha.trans (flat_bytes _ _ _ _ _ _ _ _)) hb hc hd
  exact ⟨h.1,h.2.1,h.2.2.1,h.2.2.2.1,h.2.2.2.2.trans (sum_bytes _ _ _ _ _ _ _ _)⟩
theorem u64_small (n : Nat) (h : n < 18446744073709551616) : IntKind.u64.wrap (n : Int) = (n : Int):=by
  rw [IntKind.wrap_u64]; omega
theorem o1_nat (n : Nat) (h : n < 18446744073709551616) : o1 (n : Int) = ((bm f1 8 n : Nat) : Int) ∧ bm f1 8 n < 18446744073709551616:=by
  have e:=step1 8 n
  have em : mk 85 8 = 6148914691236517205:=by simp [mk]
  rw [em] at e
  have l1 : n / 2 &&& 6148914691236517205 ≤ 6148914691236517205:=Nat.and_le_right
  have l2 : n &&& 6148914691236517205 ≤ 6148914691236517205:=Nat.and_le_right
  have hd : (n : Int) / 2 = ((n / 2 : Nat) : Int):=by omega
  have a1:=u64_and_nat (n / 2) 6148914691236517205 (by omega) (by omega)
  have a2:=u64_and_nat n 6148914691236517205 h (by omega)
  refine ⟨?_,by omega⟩
  rw [o1,hd,← e]
  have c5 : ((6148914691236517205 : Nat) : Int) = 6148914691236517205:=by omega
  rw [c5] at a1 a2
  rw [a1,a2,← Int.natCast_add]
  exact u64_small _ (by omega)
theorem o2_nat (n : Nat) (h : n < 18446744073709551616) : o2 (n : Int) = ((bm f2 8 n : Nat) : Int) ∧ bm f2 8 n < 18446744073709551616:=by
  have e:=step2 8 n
  have em : mk 51 8 = 3689348814741910323:=by simp [mk]
  rw [em] at e
  have l1 : n / 4 &&& 3689348814741910323 ≤ 3689348814741910323:=Nat.and_le_right
  have l2 : n &&& 3689348814741910323 ≤ 3689348814741910323:=Nat.and_le_right
  have hd : (n : Int) / 4 = ((n / 4 : Nat) : Int):=by omega
  have a1:=u64_and_nat (n / 4) 3689348814741910323 (by omega) (by omega)
  have a2:=u64_and_nat n 3689348814741910323 h (by omega)
  refine ⟨?_,by omega⟩
  rw [o2,hd,← e]
  have c5 : ((3689348814741910323 : Nat) : Int) = 3689348814741910323:=by omega
  rw [c5] at a1 a2
  rw [a1,a2,← Int.natCast_add]
  exact u64_small _ (by omega)
theorem bm_g2_le : ∀ (k n : Nat),bm g2 k n ≤ 68 * mk 1 k
  | 0,n => by simp [bm,mk]
  | k + 1,n => by
    have ih:=bm_g2_le k (n / 256)
    have h:=g2_le ⟨n % 256,by omega⟩
    simp only at h
    rw [bm,mk]
    omega
theorem o3_nat (n : Nat) : o3 ((bm g2 8 n : Nat) : Int) = ((bm h3 8 n : Nat) : Int):=by
  have e:=step3 8 n
  have em : mk 15 8 = 1085102592571150095:=by simp [mk]
  have hl:=bm_g2_le 8 n
  have em1 : mk 1 8 = 72340172838076673:=by simp [mk]
  rw [em] at e
  rw [em1] at hl
  generalize bm g2 8 n = x at *
  have hd : (x : Int) / 16 = ((x / 16 : Nat) : Int):=by omega
  rw [o3,hd,← Int.natCast_add,u64_small _ (by omega),← e]
  exact u64_and_nat (x / 16 + x) 1085102592571150095 (by omega) (by omega)
theorem o4_nat (s n : Nat) (h : n + n / s < 18446744073709551616) : o4 (s : Int) (n : Int) = ((n + n / s : Nat) : Int):=by
  rw [o4,← Int.natCast_ediv,← Int.natCast_add]
  exact u64_small _ h
theorem o4_a (n : Nat) (h : n + n / 256 < 18446744073709551616) : o4 256 (n : Int) = ((n + n / 256 : Nat) : Int):=o4_nat 256 n h
theorem o4_b (n : Nat) (h : n + n / 65536 < 18446744073709551616) : o4 65536 (n : Int) = ((n + n / 65536 : Nat) : Int):=o4_nat 65536 n h
theorem o4_c (n : Nat) (h : n + n / 4294967296 < 18446744073709551616) : o4 4294967296 (n : Int) = ((n + n / 4294967296 : Nat) : Int):=o4_nat 4294967296 n h
theorem low127 (x : Nat) : bits .and .i64 (wrap64 (x : Int)) 127 = ((x % 128 : Nat) : Int):=by
  rw [i64_and127]
  unfold wrap64
  omega
theorem ones_nat (n : Nat) (h : n < 18446744073709551616) : ones (n : Int) = ((cnt n.testBit 64 : Nat) : Int):=by
  obtain ⟨a,b,c,d,e⟩:=fold_bytes n _ _ _ _ rfl rfl rfl rfl
  have hc:=cnt_sb 8 n
  have h1:=o1_nat n h
  have h2:=o2_nat _ h1.2
  rw [ones,h1.1,h2.1,bm_bm,o3_nat,o4_a _ b,o4_b _ c,o4_c _ d,low127,e]
  exact congrArg (fun x : Nat => (x : Int)) hc.symm
def okW (x : Int) : Prop:=0 ≤ x ∧ x < 18446744073709551616
def C4.ok (k : C4) : Prop:=okW k.a ∧ okW k.b ∧ okW k.c ∧ okW k.d
theorem C4.ok_w {k : C4} (h : k.ok) (i : Nat) : okW (k.w i):=by
  unfold C4.w
  split
  · exact h.1
  · split
    · exact h.2.1
    · split
      · exact h.2.2.1
      · exact h.2.2.2
def C4.has (k : C4) (i : Nat) : Bool:=(k.w (i / 64)).toNat.testBit (i % 64)
theorem okW_nat {x : Int} (h : okW x) : ∃ n : Nat,x = (n : Int) ∧ n < 18446744073709551616:=by
  unfold okW at h
  exact ⟨x.toNat,by omega,by omega⟩
theorem tb_eq (n j : Nat) : n.testBit j = decide (n / 2 ^ j % 2 = 1):=by
  rw [Nat.testBit_eq_decide_div_mod_eq]
theorem bit_and1 (n j : Nat) (h : n < 18446744073709551616) : (bits .and .u64 ((n : Int) / 2 ^ j) 1 == 1) = n.testBit j:=by
  have e : (n : Int) / 2 ^ j = ((n / 2 ^ j : Nat) : Int):=by rw [Int.natCast_ediv,Int.natCast_pow]; rfl
  have hl : n / 2 ^ j < 18446744073709551616:=Nat.lt_of_le_of_lt (Nat.div_le_self _ _) h
  have a1:=u64_and_nat (n / 2 ^ j) 1 hl (by omega)
  rw [e,show (1 : Int) = ((1 : Nat) : Int) from rfl,a1,nat_mask1,tb_eq]
  generalize n / 2 ^ j % 2 = z
  by_cases hz : z = 1
  · simp [hz]
  · simp only [hz,decide_false]
    rw [beq_eq_false_iff_ne]
    intro e
    exact hz (Int.ofNat_inj.1 e)
theorem C4.hasI_eq (k : C4) (h : k.ok) (i : Nat) : k.hasI (i : Int) = k.has i:=by
  obtain ⟨n,hn,hl⟩:=okW_nat (C4.ok_w h (i / 64))
  have e1 : ((i : Int) / 64).toNat = i / 64:=by omega
  have e2 : ((i : Int) % 64).toNat = i % 64:=by omega
  unfold C4.hasI C4.has
  rw [e1,e2,hn,Int.toNat_natCast]
  exact bit_and1 n _ hl
theorem C4.p_eq (k : C4) (h : k.ok) : k.p = k.has:=by
  funext i
  exact C4.hasI_eq k h i
theorem word_ext {x y : Int} (hx : okW x) (hy : okW y) (h : ∀ j,j < 64 → x.toNat.testBit j = y.toNat.testBit j) : x = y:=by
  obtain ⟨n,rfl,hn⟩:=okW_nat hx
  obtain ⟨m,rfl,hm⟩:=okW_nat hy
  simp only [Int.toNat_natCast] at h
  have : n = m:=by
    apply Nat.eq_of_testBit_eq
    intro j
    by_cases hj : j < 64
    · exact h j hj
    · have p : (18446744073709551616 : Nat) = 2 ^ 64:=by decide
      have q : 2 ^ 64 ≤ 2 ^ j:=Nat.pow_le_pow_right (by decide) (by omega)
      rw [Nat.testBit_lt_two_pow (Nat.lt_of_lt_of_le (p ▸ hn) q),Nat.testBit_lt_two_pow (Nat.lt_of_lt_of_le (p ▸ hm) q)]
  rw [this]
theorem C4.ext_has {x y : C4} (hx : x.ok) (hy : y.ok) (h : ∀ i,i < 256 → x.has i = y.has i) : x = y:=by
  have key : ∀ q,q < 4 → x.w q = y.w q:=by
    intro q hq
    apply word_ext (C4.ok_w hx q) (C4.ok_w hy q)
    intro j hj
    have:=h (64 * q + j) (by omega)
    unfold C4.has at this
    rwa [show (64 * q + j) / 64 = q from by omega,show (64 * q + j) % 64 = j from by omega] at this
  have k0:=key 0 (by decide)
  have k1:=key 1 (by decide)
  have k2:=key 2 (by decide)
  have k3:=key 3 (by decide)
  cases x; cases y
  simp [C4.w] at k0 k1 k2 k3
  simp [k0,k1,k2,k3]
theorem or_ok {x y : Int} (hx : okW x) (hy : okW y) : okW (bits .or .u64 x y) ∧ ∀ j,(bits .or .u64 x y).toNat.testBit j = (x.toNat.testBit j || y.toNat.testBit j):=by
  obtain ⟨n,rfl,hn⟩:=okW_nat hx
  obtain ⟨m,rfl,hm⟩:=okW_nat hy
  rw [u64_or_nat n m hn hm]
  have : n ||| m < 2 ^ 64:=Nat.or_lt_two_pow hn hm
  refine ⟨⟨by omega,by omega⟩,fun j => ?_⟩
  simp only [Int.toNat_natCast,Nat.testBit_or]
theorem not_ok {x : Int} (hx : okW x) : okW (not64 x) ∧ ∀ j,j < 64 → (not64 x).toNat.testBit j = !x.toNat.testBit j:=by
  obtain ⟨n,rfl,hn⟩:=okW_nat hx
  have hm : IntKind.u64.max = ((18446744073709551615 : Nat) : Int):=by decide
  have e : not64 (n : Int) = (((2 ^ 64 - 1) ^^^ n : Nat) : Int):=by
    rw [not64,hm,u64_xor_nat _ n (by omega) hn]
  rw [e]
  have : (2 ^ 64 - 1) ^^^ n < 2 ^ 64:=Nat.xor_lt_two_pow (by decide) hn
  refine ⟨⟨by omega,by omega⟩,fun j hj => ?_⟩
  rw [Int.toNat_natCast,Int.toNat_natCast,Nat.testBit_xor,Nat.testBit_two_pow_sub_one]
  simp [hj]
theorem C4.or_ok {x y : C4} (hx : x.ok) (hy : y.ok) : (x.or y).ok:=⟨(Go.Proofs.YtcjghhedphmhkaaGreatDoor.or_ok hx.1 hy.1).1,(Go.Proofs.YtcjghhedphmhkaaGreatDoor.or_ok hx.2.1 hy.2.1).1,(Go.Proofs.YtcjghhedphmhkaaGreatDoor.or_ok hx.2.2.1 hy.2.2.1).1,(Go.Proofs.YtcjghhedphmhkaaGreatDoor.or_ok hx.2.2.2 hy.2.2.2).1⟩
theorem C4.not_ok {x : C4} (hx : x.ok) : x.not.ok:=⟨(Go.Proofs.YtcjghhedphmhkaaGreatDoor.not_ok hx.1).1,(Go.Proofs.YtcjghhedphmhkaaGreatDoor.not_ok hx.2.1).1,(Go.Proofs.YtcjghhedphmhkaaGreatDoor.not_ok hx.2.2.1).1,(Go.Proofs.YtcjghhedphmhkaaGreatDoor.not_ok hx.2.2.2).1⟩
theorem C4.or_w (x y : C4) (i : Nat) : (x.or y).w i = bits .or .u64 (x.w i) (y.w i):=by
  unfold C4.w C4.or
  split
  · rfl
  · split
    · rfl
    · split <;> rfl
theorem C4.not_w (x : C4) (i : Nat) : x.not.w i = not64 (x.w i):=by
  unfold C4.w C4.not
  split
  · rfl
  · split
    · rfl
    · split <;> rfl
theorem C4.has_or {x y : C4} (hx : x.ok) (hy : y.ok) (i : Nat) : (x.or y).has i = (x.has i || y.has i):=by
  unfold C4.has
  rw [C4.or_w]
  exact (Go.Proofs.YtcjghhedphmhkaaGreatDoor.or_ok (C4.ok_w hx _) (C4.ok_w hy _)).2 _
theorem C4.has_not {x : C4} (hx : x.ok) (i : Nat) : x.not.has i = !x.has i:=by
  unfold C4.has
  rw [C4.not_w]
  exact (Go.Proofs.YtcjghhedphmhkaaGreatDoor.not_ok (C4.ok_w hx _)).2 _ (by omega)
theorem z4_ok : z4.ok:=by
  unfold C4.ok okW z4
  simp
theorem z4_has (i : Nat) : z4.has i = false:=by
  unfold C4.has C4.w z4
  split
  · simp
  · split
    · simp
    · split <;> simp
/-! One byte more -/
theorem pow_small (j : Nat) (h : j < 64) : okW (IntKind.u64.wrap (2 ^ j)) ∧ ∀ i,(IntKind.u64.wrap (2 ^ j)).toNat.testBit i = decide (j = i):=by
  have e : IntKind.u64.wrap (2 ^ j) = ((2 ^ j : Nat) : Int):=by
    have h2 : 2 ^ j < 2 ^ 64:=Nat.pow_lt_pow_right (by decide) h
    have:=u64_small (2 ^ j) (by omega)
    rw [Int.natCast_pow] at this
    rw [Int.natCast_pow]
    exact this
  have h2 : 2 ^ j < 2 ^ 64:=Nat.pow_lt_pow_right (by decide) h
  rw [e]
  refine ⟨⟨Int.natCast_nonneg _,Int.ofNat_lt.2 h2⟩,fun i => ?_⟩
  rw [Int.toNat_natCast,Nat.testBit_two_pow]
theorem C4.put_w (k : C4) (q : Nat) (hq : q < 4) (z : Int) (i : Nat) (hi : i < 4) : (k.put q z).w i = if i = q then z else k.w i:=by
  match q,hq,i,hi with
  | 0,_,0,_ | 0,_,1,_ | 0,_,2,_ | 0,_,3,_ | 1,_,0,_ | 1,_,1,_ | 1,_,2,_ | 1,_,3,_ | 2,_,0,_ | 2,_,1,_ | 2,_,2,_ | 2,_,3,_ | 3,_,0,_ | 3,_,1,_ | 3,_,2,_ | 3,_,3,_ => simp [C4.put,C4.w]
theorem C4.put_ok {k : C4} (h : k.ok) (q : Nat) {z : Int} (hz : okW z) : (k.put q z).ok:=by
  unfold C4.put C4.ok
  refine ⟨?_,?_,?_,?_⟩
  · simp only; split
    · exact hz
    · exact h.1
  · simp only; split
    · exact hz
    · exact h.2.1
  · simp only; split
    · exact hz
    · exact h.2.2.1
  · simp only; split
    · exact hz
    · exact h.2.2.2
theorem C4.add_ok {k : C4} (h : k.ok) (n : Nat) : (k.add (n : Int)).ok :=
  C4.put_ok h _ (Go.Proofs.YtcjghhedphmhkaaGreatDoor.or_ok (C4.ok_w h _) (pow_small _ (by omega)).1).1
theorem C4.has_add {k : C4} (h : k.ok) (n i : Nat) (hn : n < 256) (hi : i < 256) : (k.add (n : Int)).has i = (k.has i || decide (n = i)):=by
  have e1 : ((n : Int) / 64).toNat = n / 64:=by omega
  have e2 : ((n : Int) % 64).toNat = n % 64:=by omega
  unfold C4.add C4.has
  rw [e1,e2,C4.put_w k (n / 64) (by omega) _ (i / 64) (by omega)]
  by_cases hq : i / 64 = n / 64
  · rw [if_pos hq,(Go.Proofs.YtcjghhedphmhkaaGreatDoor.or_ok (C4.ok_w h _) (pow_small _ (by omega)).1).2,(pow_small _ (by omega)).2,hq]
    congr 1
    have : (n % 64 = i % 64) = (n = i):=by apply propext; omega
    simp only [this]
  · rw [if_neg hq]
    have : ¬ n = i:=by omega
    simp [this]
theorem ofL_ok : ∀ (l : List UInt8),(C4.ofL l).ok:=by
  have key : ∀ (l : List UInt8) (k : C4),k.ok → (l.foldl (fun k c => k.add (c.toNat : Int)) k).ok:=by
    intro l
    induction l with
    | nil => intro k h; exact h
    | cons c l ih => intro k h; exact ih _ (C4.add_ok h _)
  intro l
  exact key l z4 z4_ok
theorem ofL_has (l : List UInt8) (i : Nat) (hi : i < 256) : (C4.ofL l).has i = decide (∃ c ∈ l,c.toNat = i):=by
  have key : ∀ (l : List UInt8) (k : C4),k.ok → (l.foldl (fun k c => k.add (c.toNat : Int)) k).has i = (k.has i || decide (∃ c ∈ l,c.toNat = i)):=by
    intro l
    induction l with
    | nil => intro k h; simp
    | cons c l ih =>
      intro k h
      rw [List.foldl_cons,ih _ (C4.add_ok h _),C4.has_add h _ _ c.toNat_lt hi,Bool.or_assoc]
      congr 1
      simp
  have:=key l z4 z4_ok
  rw [z4_has,Bool.false_or] at this
  exact this
/-! How many -/
theorem many_cnt {k : C4} (h : k.ok) : k.many 4 = ((cnt k.has 256 : Nat) : Int):=by
  have key : ∀ n,n ≤ 4 → k.many n = ((cnt k.has (64 * n) : Nat) : Int):=by
    intro n
    induction n with
    | zero => intro _; rfl
    | succ n ih =>
      intro hn
      obtain ⟨m,hm,hl⟩:=okW_nat (C4.ok_w h n)
      have h1:=cnt_le k.has (64 * n)
      have h2:=cnt_le m.testBit 64
      rw [C4.many,ih (by omega),hm,ones_nat m hl,show 64 * (n + 1) = 64 * n + 64 from by omega,cnt_add]
      have e : cnt (fun j => k.has (64 * n + j)) 64 = cnt m.testBit 64:=by
        apply cnt_congr
        intro i hi
        unfold C4.has
        rw [show (64 * n + i) / 64 = n from by omega,show (64 * n + i) % 64 = i from by omega,hm,Int.toNat_natCast]
      rw [e]
      unfold wrap64
      omega
  exact key 4 (Nat.le_refl _)
theorem eqb_self (x : C4) : x.eqb x = true:=(C4.eqb_iff x x).2 rfl
theorem hid {p : Prop} (h : p) : Hid p:=h
structure Nd where
  op : Int
  c : C4
def NsAt (w : World) (b off : Nat) (ns : List Nd) : Prop:=∀ i n,ns[i]? = some n →
  w.cell? ⟨b,off + i * 5,none⟩ = some (.int .i64 n.op) ∧ w.cell? ⟨b,off + i * 5 + 1,none⟩ = some (.int .u64 n.c.a) ∧ w.cell? ⟨b,off + i * 5 + 1 + 1,none⟩ = some (.int .u64 n.c.b) ∧ w.cell? ⟨b,off + i * 5 + 1 + 2,none⟩ = some (.int .u64 n.c.c) ∧ w.cell? ⟨b,off + i * 5 + 1 + 3,none⟩ = some (.int .u64 n.c.d)
def NsIn (w : World) (v : Value) (ns : List Nd) : Prop:=∃ a cap,v = .slice a ns.length cap ∧ ns.length ≤ maxLen ∧ (ns = [] ∨ ∃ b off,a = some ⟨b,off,none⟩ ∧ b < w.heap.size ∧ NsAt w b off ns)
theorem NsAt.below {w w' : World} {B b off : Nat} {ns : List Nd} (h : NsAt w b off ns) (hb : Below B w w') (hlt : b < B) : NsAt w' b off ns:=by
  intro i n hn
  obtain ⟨h0,h1,h2,h3,h4⟩:=h i n hn
  exact ⟨(hb.cell (p:=⟨b,_,none⟩) hlt).trans h0,(hb.cell (p:=⟨b,_,none⟩) hlt).trans h1,(hb.cell (p:=⟨b,_,none⟩) hlt).trans h2,(hb.cell (p:=⟨b,_,none⟩) hlt).trans h3,(hb.cell (p:=⟨b,_,none⟩) hlt).trans h4⟩
theorem NsIn.below {w w' : World} {v : Value} {ns : List Nd} (h : NsIn w v ns) (hb : Below w.heap.size w w') : NsIn w' v ns:=by
  obtain ⟨a,cap,rfl,hm,h | ⟨b,off,rfl,hlt,hn⟩⟩:=h
  · exact ⟨a,cap,rfl,hm,Or.inl h⟩
  · exact ⟨_,cap,rfl,hm,Or.inr ⟨b,off,rfl,Nat.lt_of_lt_of_le hlt hb.size,hn.below hb hlt⟩⟩
def prt (op : Int) : Nat:=if op = 3 ∨ op = 4 then 2 else if op = 5 ∨ op = 6 ∨ op = 7 then 1 else 0
def endF (ns : List Nd) : Nat → Nat → Option Nat
  | 0,_ => none
  | f + 1,i =>
    match ns[i]? with
    | none => none
    | some n => if prt n.op = 0 then some (i + 1) else if prt n.op = 1 then endF ns f (i + 1) else (endF ns f (i + 1)).bind (endF ns f)
def endI : Option Nat → Int
  | none => -1
  | some j => j
def fin (ns : List Nd) (f : Nat) : Nat → Option Nat → Option Nat
  | 0,o => o
  | _ + 1,none => none
  | m + 1,some j => fin ns f m (endF ns f j)
theorem fin_none (ns : List Nd) (f m : Nat) : fin ns f m none = none:=by cases m <;> rfl
theorem endF_gt (ns : List Nd) : ∀ (f i j : Nat),endF ns f i = some j → i < j ∧ j ≤ ns.length
  | 0,i,j,h => by simp [endF] at h
  | f + 1,i,j,h => by
    rw [endF] at h
    cases hn : ns[i]? with
    | none => rw [hn] at h; simp at h
    | some n =>
      rw [hn] at h
      have hi : i < ns.length:=by
        rcases Nat.lt_or_ge i ns.length with h' | h'
        · exact h'
        · rw [List.getElem?_eq_none h'] at hn; cases hn
      simp only at h
      split at h
      · simp at h; omega
      · split at h
        · have:=endF_gt ns f _ _ h; omega
        · cases h1 : endF ns f (i + 1) with
          | none => rw [h1] at h; simp at h
          | some k =>
            rw [h1] at h
            simp at h
            have a1:=endF_gt ns f _ _ h1
            have a2:=endF_gt ns f _ _ h
            omega
theorem endF_fin (ns : List Nd) (f i : Nat) (n : Nd) (hn : ns[i]? = some n) : endF ns (f + 1) i = fin ns f (prt n.op) (some (i + 1)):=by
  rw [endF,hn]
  simp only
  unfold prt
  split
  · simp only [fin]
    cases h : endF ns f (i + 1) <;> simp [fin]
  · split <;> simp [fin]
theorem prt_le (op : Int) : prt op ≤ 2:=by unfold prt; split <;> (try split) <;> omega
def endE (ns : List Nd) (i : Nat) : Option Nat:=endF ns (ns.length + 1) i
theorem endE_nil (i : Nat) : endE [] i = none:=by simp [endE,endF]
theorem part_cases (ns : List Nd) (f i j : Nat) (h : endF ns (f + 1) i = some j) : ∃ n,ns[i]? = some n ∧ i < ns.length ∧
    ((prt n.op = 0 ∧ j = i + 1) ∨ (prt n.op = 1 ∧ endF ns f (i + 1) = some j) ∨ (prt n.op = 2 ∧ ∃ k,endF ns f (i + 1) = some k ∧ endF ns f k = some j)):=by
  rw [endF] at h
  cases hn : ns[i]? with
  | none => rw [hn] at h; simp at h
  | some n =>
    have hi : i < ns.length:=by
      rcases Nat.lt_or_ge i ns.length with h' | h'
      · exact h'
      · rw [List.getElem?_eq_none h'] at hn; cases hn
    refine ⟨n,rfl,hi,?_⟩
    rw [hn] at h
    simp only at h
    have hp : prt n.op ≤ 2:=prt_le n.op
    split at h
    · rename_i h0
      exact Or.inl ⟨h0,by simpa using h.symm⟩
    · split at h
      · rename_i h1
        exact Or.inr (Or.inl ⟨h1,h⟩)
      · rename_i h0 h1
        cases h2 : endF ns f (i + 1) with
        | none => rw [h2] at h; simp at h
        | some k => rw [h2] at h; exact Or.inr (Or.inr ⟨by omega,k,rfl,by simpa using h⟩)
theorem prt_two (op : Int) : prt op = 2 ↔ op = 3 ∨ op = 4:=by
  unfold prt
  split
  · rename_i h; simp [h]
  · rename_i h
    split <;> simp [h]
theorem prt_one (op : Int) : prt op = 1 ↔ op = 5 ∨ op = 6 ∨ op = 7:=by
  unfold prt
  split
  · rename_i h
    simp
    omega
  · split
    · rename_i h; simp [h]
    · rename_i h; simp [h]
def scanL : List Nd → Int
  | [] => 0
  | n :: r => if n.op < 1 ∨ 9 < n.op then 1 else if ¬ n.op = 1 ∧ ¬ n.c.eqb z4 = true then 2 else scanL r
def faultL (ns : List Nd) : Int:=if 60 < ns.length then 3 else if scanL ns ≠ 0 then scanL ns else if ns = [] ∨ endE ns 0 ≠ some ns.length then 2 else 0
theorem scan_drop (ns : List Nd) (i : Nat) (n : Nd) (hn : ns[i]? = some n) : scanL (ns.drop i) = if n.op < 1 ∨ 9 < n.op then 1 else if ¬ n.op = 1 ∧ ¬ n.c.eqb z4 = true then 2 else scanL (ns.drop (i + 1)):=by
  have hi : i < ns.length:=by
    rcases Nat.lt_or_ge i ns.length with h | h
    · exact h
    · rw [List.getElem?_eq_none h] at hn; cases hn
  rw [List.drop_eq_getElem_cons hi]
  rw [List.getElem?_eq_getElem hi] at hn
  rw [Option.some.inj hn,scanL]
abbrev Nd.cells (n : Nd) : Array Value:=#[.int .i64 n.op,.int .u64 n.c.a,.int .u64 n.c.b,.int .u64 n.c.c,.int .u64 n.c.d]
abbrev Nd.v (n : Nd) : Value:=.agg #[.int .i64 n.op,.int .u64 n.c.a,.int .u64 n.c.b,.int .u64 n.c.c,.int .u64 n.c.d]
def Nd.eqb (n m : Nd) : Bool:=n.op == m.op && n.c.eqb m.c
theorem Nd.eqb_iff (n m : Nd) : n.eqb m = true ↔ n = m:=by
  unfold Nd.eqb
  rw [Bool.and_eq_true,C4.eqb_iff,beq_iff_eq]
  cases n; cases m
  simp
def flipOp (op : Int) : Int:=if op = 8 then 9 else if op = 9 then 8 else op
def Nd.flip (n : Nd) : Nd:=⟨flipOp n.op,n.c⟩
def nsCells : List Nd → List Value
  | [] => []
  | n :: r => [.int .i64 n.op,.int .u64 n.c.a,.int .u64 n.c.b,.int .u64 n.c.c,.int .u64 n.c.d] ++ nsCells r
theorem nsCells_append : ∀ (x y : List Nd),nsCells (x ++ y) = nsCells x ++ nsCells y
  | [],y => rfl
  | n :: r,y => by simp [nsCells,nsCells_append r y]
theorem nsCells_len : ∀ (x : List Nd),(nsCells x).length = x.length * 5
  | [] => rfl
  | n :: r => by simp [nsCells,nsCells_len r]; omega
theorem nsCells_one : ∀ (x : List Nd),∀ u ∈ nsCells x,u.oneCell' = true
  | [],u,h => by simp [nsCells] at h
  | n :: r,u,h => by
    rw [nsCells,List.mem_append] at h
    rcases h with h | h
    · simp at h
      rcases h with rfl | rfl | rfl | rfl | rfl <;> rfl
    · exact nsCells_one r u h
theorem nsCells_get : ∀ (x : List Nd) (i : Nat) (n : Nd),x[i]? = some n → (nsCells x)[i * 5]? = some (.int .i64 n.op) ∧ (nsCells x)[i * 5 + 1]? = some (.int .u64 n.c.a) ∧ (nsCells x)[i * 5 + 2]? = some (.int .u64 n.c.b) ∧ (nsCells x)[i * 5 + 3]? = some (.int .u64 n.c.c) ∧ (nsCells x)[i * 5 + 4]? = some (.int .u64 n.c.d)
  | [],i,n,h => by simp at h
  | m :: r,0,n,h => by
    simp at h
    subst h
    simp [nsCells]
  | m :: r,i + 1,n,h => by
    have ih:=nsCells_get r i n (by simpa using h)
    have e : ∀ t,(nsCells (m :: r))[(i + 1) * 5 + t]? = (nsCells r)[i * 5 + t]?:=by
      intro t
      rw [nsCells,List.getElem?_append_right (by simp; omega)]
      congr 1
      simp
      omega
    have e0:=e 0
    simp only [Nat.add_zero] at e0
    rw [e0,e 1,e 2,e 3,e 4]
    exact ih
def NsOwn (w : World) (base : Nat) (v : Value) (ns : List Nd) : Prop:=w.ownsRow base 106 5 v ns.length (nsCells ns)
theorem NsOwn.below {w w' : World} {base : Nat} {v : Value} {ns : List Nd} (h : NsOwn w base v ns) (hb : Below w.heap.size w w') : NsOwn w' base v ns:=by
  refine World.ownsRow.kept (row:=none) h ⟨hb.os,hb.tape,hb.output,hb.size,fun k hk _ => hb.block k hk⟩ ?_
  cases hv : v.ownBlock with
  | none => exact Or.inl rfl
  | some x => exact Or.inr (by simp)
theorem NsOwn.form {w : World} {base : Nat} {v : Value} {ns : List Nd} (h : NsOwn w base v ns) (h0 : 0 < ns.length) : ∃ g cap,v = .slice (some ⟨g,0,none⟩) ns.length cap ∧ base ≤ g ∧ g < w.heap.size ∧ ∀ j u,(nsCells ns)[j]? = some u → w.cell? ⟨g,j,none⟩ = some u:=by
  rcases h.2 with ⟨_,h1⟩ | ⟨g,cap,cur,hv,hb,hg,_,_,hs,ht⟩
  · omega
  · refine ⟨g,cap,hv,hb,?_,?_⟩
    · rcases Nat.lt_or_ge g w.heap.size with hlt | hge
      · exact hlt
      · rw [Array.getElem?_eq_none hge] at hg; cases hg
    · intro j u hj
      have hjl : j < (nsCells ns).length:=by
        rcases Nat.lt_or_ge j (nsCells ns).length with h' | h'
        · exact h'
        · rw [List.getElem?_eq_none h'] at hj; cases hj
      rw [Lib.cell_of_heap hg]
      rw [← ht,List.getElem?_take] at hj
      split at hj
      · simpa using hj
      · cases hj
theorem NsOwn.isIn {w : World} {base : Nat} {v : Value} {ns : List Nd} (h : NsOwn w base v ns) (hm : ns.length ≤ maxLen) : NsIn w v ns:=by
  rcases Nat.eq_zero_or_pos ns.length with h0 | h0
  · have e : ns = []:=List.eq_nil_of_length_eq_zero h0
    subst e
    rcases h.2 with ⟨hv,_⟩ | ⟨g,cap,cur,hv,_⟩
    · exact ⟨none,0,hv,hm,Or.inl rfl⟩
    · exact ⟨_,cap,hv,hm,Or.inl rfl⟩
  · obtain ⟨g,cap,hv,_,hlt,hc⟩:=h.form h0
    refine ⟨_,cap,hv,hm,Or.inr ⟨g,0,rfl,hlt,?_⟩⟩
    intro i n hn
    obtain ⟨c0,c1,c2,c3,c4⟩:=nsCells_get ns i n hn
    refine ⟨?_,?_,?_,?_,?_⟩
    · rw [Nat.zero_add]; exact hc _ _ c0
    · rw [Nat.zero_add]; exact hc _ _ c1
    · rw [Nat.zero_add]; exact hc _ _ c2
    · rw [Nat.zero_add]; exact hc _ _ c3
    · rw [Nat.zero_add]; exact hc _ _ c4
end Go.Proofs.YtcjghhedphmhkaaGreatDoor
namespace Go.Proofs.YtcjghhedphmhkaaGreatDoor
open Go.ChangeShapes Go.WideShapes Go.ChangeAt Go.RowKit
theorem own : ownKnob Tryz.prog.godebug = none:=by kernel_rfl
theorem okW_wf {x : Int} (h : (Lit.int .u64 x).wf = true) : okW x:=by
  have:=bounds_u64 h
  unfold okW
  omega
def C4.wf (k : C4) : Prop:=(Lit.int .u64 k.a).wf = true ∧ (Lit.int .u64 k.b).wf = true ∧ (Lit.int .u64 k.c).wf = true ∧ (Lit.int .u64 k.d).wf = true
theorem C4.wf_ok {k : C4} (h : k.wf) : k.ok:=⟨okW_wf h.1,okW_wf h.2.1,okW_wf h.2.2.1,okW_wf h.2.2.2⟩
end Go.Proofs.YtcjghhedphmhkaaGreatDoor
namespace Go.Proofs.YtcjghhedphmhkaaGreatDoor
open Go.ChangeShapes Go.WideShapes Go.ChangeAt Go.RowKit Go.Deep
theorem cellsInt : Tryz.prog.cellsOf 3 = 1:=by kernel_rfl
def Nd.wf (n : Nd) : Prop:=(Lit.int .i64 n.op).wf = true ∧ n.c.wf
instance : Inhabited Nd:=⟨⟨0,⟨0,0,0,0⟩⟩⟩
end Go.Proofs.YtcjghhedphmhkaaGreatDoor
namespace Go.Proofs.YtcjghhedphmhkaaGreatDoor
open Go.RowKit
abbrev hnd (t : Nat) : Value:=.pointer (some ⟨3,t,none⟩)
abbrev rty (t : Nat) : Value:=.iface 181 (.agg #[hnd t])
theorem x_valueOfPtr (a : Addr) (w : World) : (callFunc 58 #[.iface 99 (.pointer (some a))]).run Tryz.prog w = .ok (.value (.agg #[hnd 99,.pointer (some ⟨w.heap.size,0,none⟩),.int .u64 150])) (w.alloc (.cells #[.pointer (some a)] 99)):=by kernel_rfl
theorem x_valueOfErr (n : Int) (w : World) : (callFunc 58 #[.iface 32 (.int .i64 n)]).run Tryz.prog w = .ok (.value (.agg #[hnd 32,.pointer (some ⟨w.heap.size,0,none⟩),.int .u64 130])) (w.alloc (.cells #[.int .i64 n] 32)):=by kernel_rfl
theorem x_type (a : Addr) (w : World) : (callFunc 59 #[.agg #[hnd 99,.pointer (some a),.int .u64 150]]).run Tryz.prog w = .ok (.value (rty 99)) w:=by kernel_rfl
theorem x_typeOf (n : Int) (w : World) : (callFunc 75 #[.iface 32 (.int .i64 n)]).run Tryz.prog w = .ok (.value (rty 32)) w:=by kernel_rfl
theorem x_kindP (w : World) : (callFunc 181 #[hnd 99]).run Tryz.prog w = .ok (.value (.int .u8 22)) w:=by kernel_rfl
theorem x_kindE (w : World) : (callFunc 181 #[hnd 32]).run Tryz.prog w = .ok (.value (.int .u8 2)) w:=by kernel_rfl
theorem x_elem (w : World) : (callFunc 192 #[.agg #[hnd 99]]).run Tryz.prog w = .ok (.value (rty 32)) w:=by kernel_rfl
theorem x_impl (w : World) : (callFunc 193 #[.agg #[hnd 32],rty 36]).run Tryz.prog w = .ok (.value (.bool true)) w:=by kernel_rfl
theorem x_assign (w : World) : (callFunc 190 #[.agg #[hnd 32],rty 32]).run Tryz.prog w = .ok (.value (.bool true)) w:=by kernel_rfl
theorem m_kind (t : Nat) (w : World) : (method 388 181 (.agg #[hnd t]) "Kind").run Tryz.prog w = .ok (181, hnd t) w := by kernel_rfl
theorem m_elem (t : Nat) (w : World) : (method 388 181 (.agg #[hnd t]) "Elem").run Tryz.prog w = .ok (192, .agg #[hnd t]) w := by kernel_rfl
theorem m_impl (t : Nat) (w : World) : (method 388 181 (.agg #[hnd t]) "Implements").run Tryz.prog w = .ok (193, .agg #[hnd t]) w := by kernel_rfl
theorem m_assign (t : Nat) (w : World) : (method 388 181 (.agg #[hnd t]) "AssignableTo").run Tryz.prog w = .ok (190, .agg #[hnd t]) w := by kernel_rfl
theorem parts_ptr (a : Addr) (w : World) : (Extern.ReflectliteValue.parts (.agg #[hnd 99,.pointer (some a),.int .u64 150])).run Tryz.prog w = .ok (some (99,a,150)) w:=by kernel_rfl
theorem parts_dst (a : Addr) (w : World) : (Extern.ReflectliteValue.parts (.agg #[hnd 32,.pointer (some a),.int .u64 386])).run Tryz.prog w = .ok (some (32,a,386)) w:=by kernel_rfl
theorem parts_src (a : Addr) (w : World) : (Extern.ReflectliteValue.parts (.agg #[hnd 32,.pointer (some a),.int .u64 130])).run Tryz.prog w = .ok (some (32,a,130)) w:=by kernel_rfl
theorem load_ptr (a p : Addr) (w : World) (h : w.cell? a = some (.pointer (some p))) : (loadVar 99 a).run Tryz.prog w = .ok (.pointer (some p)) w:=by
  go_simp
theorem load_err (a : Addr) (n : Int) (w : World) (h : w.cell? a = some (.int .i64 n)) : (loadVar 32 a).run Tryz.prog w = .ok (.int .i64 n) w:=by
  go_simp
theorem x_isNil (a p : Addr) (w : World) (h : w.cell? a = some (.pointer (some p))) : (callFunc 60 #[.agg #[hnd 99,.pointer (some a),.int .u64 150]]).run Tryz.prog w = .ok (.value (.bool false)) w:=by
  rw [run_callFunc_extern Tryz.func60 (by kernel_rfl) (by kernel_rfl) (by kernel_rfl) (e := Extern.ReflectliteValue.method (Extern.ReflectliteValue.valueError "reflectlite.Value.IsNil" 0) Extern.ReflectliteValue.isNil) (by kernel_rfl)]
  have hp:=parts_ptr a w
  have hl:=load_ptr a p w h
  change (Sem.run Tryz.prog (Extern.ReflectliteValue.parts (.agg #[hnd 99,.pointer (some a),.int .u64 150]) >>= _) w).andThen _ = _
  rw [Sem.run_bind,hp]
  simp [Extern.ReflectliteValue.isNil,hl]
theorem x_elemV (a p : Addr) (w : World) (h : w.cell? a = some (.pointer (some p))) : (callFunc 87 #[.agg #[hnd 99,.pointer (some a),.int .u64 150]]).run Tryz.prog w = .ok (.value (.agg #[hnd 32,.pointer (some p),.int .u64 386])) w:=by
  rw [run_callFunc_extern Tryz.func87 (by kernel_rfl) (by kernel_rfl) (by kernel_rfl) (e := Extern.ReflectliteValue.method (Extern.ReflectliteValue.valueError "reflectlite.Value.Elem" 0) Extern.ReflectliteValue.elem) (by kernel_rfl)]
  have hp:=parts_ptr a w
  have hl:=load_ptr a p w h
  have he : ∀ w,(Extern.Rtype.elem? 99).run Tryz.prog w = .ok (some 32) w:=fun w => by kernel_rfl
  have hm : ∀ w,(Extern.ReflectliteValue.mk 32 p Extern.ReflectliteValue.flagAddr).run Tryz.prog w = .ok (.agg #[hnd 32,.pointer (some p),.int .u64 386]) w:=fun w => by kernel_rfl
  change (Sem.run Tryz.prog (Extern.ReflectliteValue.parts (.agg #[hnd 99,.pointer (some a),.int .u64 150]) >>= _) w).andThen _ = _
  rw [Sem.run_bind,hp]
  simp [Extern.ReflectliteValue.elem,hl,he,hm]
theorem x_set (a b : Addr) (n m : Int) (w : World) (h : w.cell? a = some (.int .i64 m)) (hf : w.frozen? a = false) (hb : w.cell? b = some (.int .i64 n)) : (callFunc 88 #[.agg #[hnd 32,.pointer (some a),.int .u64 386],.agg #[hnd 32,.pointer (some b),.int .u64 130]]).run Tryz.prog w = .ok (.value (.tuple #[])) (w.setCell a (.int .i64 n)):=by
  rw [run_callFunc_extern Tryz.func88 (by kernel_rfl) (by kernel_rfl) (by kernel_rfl) (e:=Extern.ReflectliteValue.set) (by kernel_rfl)]
  have hd:=parts_dst a w
  have hs:=parts_src b w
  have hl:=load_err b n w hb
  have hda : ∀ w,(Extern.Rtype.directlyAssignable 32 32).run Tryz.prog w = .ok true w:=fun w => by kernel_rfl
  have hst : (storeVar 32 a (.int .i64 n)).run Tryz.prog w = .ok () (w.setCell a (.int .i64 n)):=by go_simp
  change (Sem.run Tryz.prog (Extern.ReflectliteValue.parts (.agg #[hnd 32,.pointer (some a),.int .u64 386]) >>= _) w).andThen _ = _
  rw [Sem.run_bind,hd,Result.andThen_ok]
  change (Sem.run Tryz.prog (Extern.ReflectliteValue.parts (.agg #[hnd 32,.pointer (some b),.int .u64 130]) >>= _) w).andThen _ = _
  rw [Sem.run_bind,hs,Result.andThen_ok]
  simp [Extern.ReflectliteValue.flagAddr,hl,hda,hst]
end Go.Proofs.YtcjghhedphmhkaaGreatDoor
namespace Go.Proofs.YtcjghhedphmhkaaGreatDoor
def errV (n : Int) : Value:=if n = 0 then .nilIface else .iface 32 (.int .i64 n)
end Go.Proofs.YtcjghhedphmhkaaGreatDoor
namespace Go.Proofs.YtcjghhedphmhkaaGreatDoor
open Go.RowKit
theorem as_in (n : Int) (b c : Nat) (w : World) (hc : w.cell? ⟨b,0,none⟩ = some (.int .i64 0)) (hf : w.frozen? ⟨b,0,none⟩ = false) (hp : w.cell? ⟨c,0,none⟩ = some (.pointer (some ⟨b,0,none⟩))) (hlt : b < w.heap.size) :
    Calls Tryz.prog 61 #[.iface 32 (.int .i64 n),.iface 99 (.pointer (some ⟨b,0,none⟩)),.agg #[hnd 99,.pointer (some ⟨c,0,none⟩),.int .u64 150],rty 32] w fun e w' => e = .returned (.bool true) ∧ w'.cell? ⟨b,0,none⟩ = some (.int .i64 n) ∧ Below b w w':=by
  have x1:=x_typeOf
  have x2:=x_assign
  have x3:=x_valueOfErr
  have m1:=m_assign
  have b1 : ∀ o,Below w.heap.size w (w.alloc o):=fun o => (Below.refl _ _).alloc (Nat.le_refl _) o
  have b2 : ∀ o o2,Below w.heap.size w ((w.alloc o).alloc o2):=fun o o2 => (b1 o).alloc (by simp) o2
  have hel:=fun o => x_elemV ⟨c,0,none⟩ ⟨b,0,none⟩ (w.alloc o) (cell_later (b1 o) hp)
  have hse:=fun o => x_set ⟨b,0,none⟩ ⟨w.heap.size + 1,0,none⟩ n 0 ((w.alloc o).alloc (.cells #[.int .i64 n] 32)) (cell_later (b2 o _) hc) (((b2 o _).frozen (p:=⟨b,0,none⟩) hlt).trans hf) (by simp)
  have B2:=(show Hid _ from b2)
  clear b1 b2
  go_enter Tryz.func61,Tryz.ntmps61
  go_wp2_with fail
  refine wp_loop_rounds 1 ?_
  rw [rounds_succ]
  go_wp2
  go_ret
  have hs : (w.setCell ⟨b,0,none⟩ (.int .i64 n)).cell? ⟨b,0,none⟩ = some (.int .i64 n):=World.cell?_setCell_same _ _ _ hc
  have hb3 : ∀ u : World,∀ o o2,Below u.heap.size u ((u.alloc o).alloc o2):=fun u o o2 => ((Below.refl _ _).alloc (Nat.le_refl _) o).alloc (by simp) o2
  refine ⟨rfl,cell_later (hb3 _ _ _) hs,?_⟩
  exact (((Below.refl b w).setCell (p:=⟨b,0,none⟩) (Nat.le_refl _) _).alloc (by simp [World.setCell]; omega) _).alloc (by simp [World.setCell]; omega) _
theorem as_errno (n : Int) (b : Nat) (w : World) (hE : w.cell? ⟨0,0,none⟩ = some (rty 36)) (hc : w.cell? ⟨b,0,none⟩ = some (.int .i64 0)) (hf : w.frozen? ⟨b,0,none⟩ = false) (hlt : b < w.heap.size) :
    Calls Tryz.prog 40 #[.iface 32 (.int .i64 n),.iface 99 (.pointer (some ⟨b,0,none⟩))] w fun e w' => e = .returned (.bool true) ∧ w'.cell? ⟨b,0,none⟩ = some (.int .i64 n) ∧ Below b w w':=by
  have x1:=x_valueOfPtr
  have x2:=x_type
  have x3:=x_kindP
  have x4:=x_kindE
  have x5:=x_elem
  have x6:=x_impl
  have m1:=m_kind
  have m2:=m_elem
  have m3:=m_impl
  have b2 : ∀ o o2,Below w.heap.size w ((w.alloc o).alloc o2):=fun o o2 => ((Below.refl _ _).alloc (Nat.le_refl _) o).alloc (by simp) o2
  have hin:=fun o => x_isNil ⟨w.heap.size,0,none⟩ ⟨b,0,none⟩ ((w.alloc (.cells #[.pointer (some ⟨b,0,none⟩)] 99)).alloc o) (by simp)
  have hE2:=fun o o2 => cell_later (b2 o o2) hE
  have B2:=(show Hid _ from b2)
  clear b2
  go_enter Tryz.func40,Tryz.ntmps40
  go_wp2_with fail
  refine (as_in n b w.heap.size _ (cell_later (B2.out _ _) hc) (((B2.out _ _).frozen (p:=⟨b,0,none⟩) hlt).trans hf) (by simp) (by simp; omega)).mono ?_
  rintro e w1 ⟨rfl,h1,h2⟩
  go_wp2
  go_ret
  exact ⟨rfl,h1,((B2.out _ _).mono (by omega)).trans h2⟩
theorem told_nil (w : World) : Calls Tryz.prog 24 #[.nilIface] w fun e w' => e = .returned (.int .i64 0) ∧ Below w.heap.size w w':=by
  go_enter Tryz.func24,Tryz.ntmps24
  go_wp2
  go_ret
  exact ⟨rfl,Below.refl _ _⟩
theorem told_errno (n : Int) (w : World) (hE : w.cell? ⟨0,0,none⟩ = some (rty 36)) : Calls Tryz.prog 24 #[.iface 32 (.int .i64 n)] w fun e w' => e = .returned (.int .i64 n) ∧ Below w.heap.size w w':=by
  go_enter Tryz.func24,Tryz.ntmps24
  go_wp2_with fail
  have hb:=(Below.refl w.heap.size w).alloc (Nat.le_refl _) (.cells #[.int .i64 0] 32)
  refine (as_errno n w.heap.size _ (cell_later hb hE) (by simp) (by simp) (by simp)).mono ?_
  rintro e w1 ⟨rfl,h1,h2⟩
  go_wp2
  go_ret
  exact ⟨rfl,hb.trans h2⟩
theorem told_any (n : Int) (w : World) (hE : w.cell? ⟨0,0,none⟩ = some (rty 36)) : Calls Tryz.prog 24 #[errV n] w fun e w' => e = .returned (.int .i64 n) ∧ Below w.heap.size w w':=by
  unfold errV
  split
  · rename_i h
    subst h
    exact told_nil w
  · exact told_errno n w hE
theorem error_any (n m : Int) (w : World) (hE : w.cell? ⟨0,0,none⟩ = some (rty 36)) : Calls Tryz.prog 9 #[errV n,.int .i64 m] w fun e w' => e = .returned (.bool (n == m)) ∧ Below w.heap.size w w':=by
  go_enter Tryz.func9,Tryz.ntmps9
  go_wp2_with fail
  refine (told_any n _ hE).mono ?_
  rintro e w1 ⟨rfl,h1⟩
  go_wp2
  go_ret
  exact ⟨rfl,h1⟩
theorem error_self (n : Int) (w : World) (hE : w.cell? ⟨0,0,none⟩ = some (rty 36)) : Calls Tryz.prog 9 #[errV n,.int .i64 n] w fun e w' => e = .returned (.bool true) ∧ Below w.heap.size w w':=by
  have h:=error_any n n w hE
  rw [beq_self_eq_true] at h
  exact h
structure Stay (w w' : World) : Prop where
  b : Below w.heap.size w w'
  e : w'.cell? ⟨0,0,none⟩ = some (rty 36)
theorem Stay.more {w w1 w2 : World} (h : Stay w w1) (h0 : 0 < w.heap.size) (hb : Below w1.heap.size w1 w2) : Stay w w2 :=
  ⟨h.b.trans (hb.mono h.b.size),(hb.cell (p:=⟨0,0,none⟩) (Nat.lt_of_lt_of_le h0 h.b.size)).trans h.e⟩
end Go.Proofs.YtcjghhedphmhkaaGreatDoor
namespace Go.Proofs.YtcjghhedphmhkaaGreatDoor
open Go.ChangeShapes Go.WideShapes Go.ChangeAt Go.RowKit
theorem et : Tryz.prog.globalNamed "errors.errorType" = some 0 := by kernel_rfl
theorem rt0 : (Tryz.prog.cutTypes.find? (·.1 == "internal/reflectlite.rtype")).map (·.2) = some 181 := by kernel_rfl
theorem oneRow : ((List.range 288).filter fun t => Tryz.prog.rowNamed t [101,114,114,111,114]) = [36]:=by kernel_rfl
theorem typesSize : Tryz.prog.types.size = 288:=by kernel_rfl
theorem handle_of_laid {W : World} (h : laidMetH Tryz.prog [("errors.errorType", Rows.laid_errors_errorType)] W) : W.cell? ⟨0, 0, none⟩ = some (rty 36) := by
  have h' : laidMet Tryz.prog [] W ∧ handlesMet Tryz.prog [("errors.errorType", Rows.laid_errors_errorType)] W := h
  obtain ⟨name,u,ty,e1,e2,e3,e4,e5⟩:=h'.2 _ (List.mem_singleton.2 rfl)
  have en : name = [101,114,114,111,114]:=(Option.some.inj e1).symm
  subst en
  obtain rfl:=Option.some.inj (rt0.symm.trans e2)
  have hm : ty ∈ (List.range 288).filter fun t => Tryz.prog.rowNamed t [101,114,114,111,114]:=List.mem_filter.2 ⟨List.mem_range.2 (by rw [← typesSize]; exact e3),e4⟩
  rw [oneRow] at hm
  obtain rfl:=List.mem_singleton.1 hm
  have hh : typeHandle Tryz.prog 36 = .pointer (some ⟨3,36,none⟩):=by kernel_rfl
  rw [hh] at e5
  simpa using World.var?_cell et e5 0
theorem laidOutI : laidOutB Tryz.prog = true:=by kernel_rfl
theorem block_of_cell {W : World} {v : Value} (h : W.cell? ⟨0,0,none⟩ = some v) : 0 < W.heap.size:=by
  rcases Nat.lt_or_ge 0 W.heap.size with h' | h'
  · exact h'
  · simp [World.cell?,Array.getElem?_eq_none h'] at h
end Go.Proofs.YtcjghhedphmhkaaGreatDoor
namespace Go.Proofs.YtcjghhedphmhkaaGreatDoor
open Go.RowKit
def mkw (f : Nat → Bool) : Nat → Nat
  | 0 => 0
  | k + 1 => (if f k then 2 ^ k else 0) ||| mkw f k
theorem mkw_bit (f : Nat → Bool) : ∀ n j,(mkw f n).testBit j = (decide (j < n) && f j)
  | 0,j => by simp [mkw]
  | n + 1,j => by
    rw [mkw,Nat.testBit_or,mkw_bit f n j]
    by_cases hj : j = n
    · subst hj
      cases hf : f j
      · simp
      · simp [Nat.testBit_two_pow_self]
    · have e : (if f n = true then 2 ^ n else 0).testBit j = false:=by
        split
        · rw [Nat.testBit_two_pow]; simp; omega
        · simp
      rw [e]
      have : (j < n + 1) = (j < n):=by apply propext; omega
      simp [this]
theorem mkw_lt (f : Nat → Bool) : ∀ n,mkw f n < 2 ^ n
  | 0 => by simp [mkw]
  | n + 1 => by
    rw [mkw]
    apply Nat.or_lt_two_pow
    · split
      · exact Nat.pow_lt_pow_right (by decide) (by omega)
      · exact Nat.two_pow_pos _
    · exact Nat.lt_trans (mkw_lt f n) (Nat.pow_lt_pow_right (by decide) (by omega))
theorem mkw64 (f : Nat → Bool) : mkw f 64 < 18446744073709551616:=mkw_lt f 64
def wd (p : Nat → Bool) (i : Nat) : Int:=((mkw (fun k => p (64 * i + k)) 64 : Nat) : Int)
theorem wd_nat (p : Nat → Bool) (i : Nat) : ∃ n : Nat,wd p i = (n : Int) ∧ n < 18446744073709551616 ∧ n = mkw (fun k => p (64 * i + k)) 64:=⟨_,rfl,mkw64 _,rfl⟩
theorem wd_ok (p : Nat → Bool) (i : Nat) : okW (wd p i):=by
  unfold wd okW
  have:=mkw64 (fun k => p (64 * i + k))
  omega
theorem wd_bit (p : Nat → Bool) (i j : Nat) (hj : j < 64) : (wd p i).toNat.testBit j = p (64 * i + j):=by
  unfold wd
  rw [Int.toNat_natCast,mkw_bit]
  simp [hj]
theorem wd_of {x : Int} {p : Nat → Bool} {i : Nat} (hx : okW x) (h : ∀ j,j < 64 → x.toNat.testBit j = p (64 * i + j)) : x = wd p i :=
  word_ext hx (wd_ok p i) (fun j hj => by rw [h j hj,wd_bit p i j hj])
theorem wd_congr {p q : Nat → Bool} {i : Nat} (h : ∀ j,j < 64 → p (64 * i + j) = q (64 * i + j)) : wd p i = wd q i :=
  wd_of (wd_ok p i) (fun j hj => by rw [wd_bit p i j hj,h j hj])
def noP : Nat → Bool:=fun _ => false
def withP (p : Nat → Bool) (a : Nat) : Nat → Bool:=fun j => p j || decide (j = a)
theorem wd_no (i : Nat) : wd noP i = 0:=by
  refine (wd_of (x:=0) ⟨by omega,by omega⟩ (fun j hj => ?_)).symm
  simp [noP]
theorem has_word (p : Nat → Bool) (a : Nat) : (bits .and .u64 (wd p (a / 64) / 2 ^ (a % 64)) 1 == 1) = p a:=by
  obtain ⟨n,hn,hl,he⟩:=wd_nat p (a / 64)
  rw [hn,bit_and1 n _ hl,he,mkw_bit]
  have e : 64 * (a / 64) + a % 64 = a:=by omega
  have : a % 64 < 64:=by omega
  simp [this,e]
def cutw (f : Nat → Bool) (m : Nat) : Nat:=mkw (fun k => decide (m ≤ k) && f k) 64
theorem cutw_zero (f : Nat → Bool) : cutw f 0 = mkw f 64:=by
  unfold cutw
  congr 1
theorem cutw_bit (f : Nat → Bool) (m j : Nat) : (cutw f m).testBit j = (decide (j < 64) && (decide (m ≤ j) && f j)):=mkw_bit _ 64 j
theorem cutw_none {f : Nat → Bool} {m : Nat} (h : cutw f m = 0) (k : Nat) (h1 : m ≤ k) (h2 : k < 64) : f k = false:=by
  have:=cutw_bit f m k
  rw [h] at this
  simp [h1,h2] at this
  exact this
theorem odd_bits (k m j : Nat) : (2 ^ k * (2 * m + 1)).testBit j = (decide (k ≤ j) && (2 * m + 1).testBit (j - k)):=by
  rw [Nat.mul_comm,Nat.testBit_mul_two_pow]
theorem cutw_step {f : Nat → Bool} {m : Nat} (h : cutw f m ≠ 0) : ∃ k,k = Lib.ctz 64 (cutw f m) ∧ m ≤ k ∧ k < 64 ∧ f k = true ∧ (∀ i,m ≤ i → i < k → f i = false) ∧ cutw f m &&& (cutw f m - 1) = cutw f (k + 1):=by
  have hlt : cutw f m < 2 ^ 64:=mkw_lt _ 64
  obtain ⟨z,hz,hk⟩:=Lib.ctzFrom_spec 64 (cutw f m) (by omega) hlt
  have e : Lib.ctz 64 (cutw f m) = Lib.ctzFrom 64 (cutw f m):=by simp [Lib.ctz,h]
  generalize Lib.ctzFrom 64 (cutw f m) = k at hz hk e
  refine ⟨k,e.symm,?_⟩
  have hb : ∀ j,(decide (j < 64) && (decide (m ≤ j) && f j)) = (decide (k ≤ j) && (2 * z + 1).testBit (j - k)):=fun j => by
    rw [← cutw_bit,hz,odd_bits]
  have hkk:=hb k
  simp [hk] at hkk
  refine ⟨hkk.1,hk,hkk.2,fun i hi hik => ?_,?_⟩
  · have:=hb i
    have h1 : i < 64:=by omega
    have h2 : ¬ k ≤ i:=by omega
    simp [h1,h2,hi] at this
    exact this
  · apply Nat.eq_of_testBit_eq
    intro j
    rw [Nat.testBit_and,cutw_bit,cutw_bit,hb j]
    have e1 : cutw f m - 1 = 2 ^ k * (2 * z) + (2 ^ k - 1):=by
      have:=Nat.two_pow_pos k
      rw [hz,Nat.mul_add,Nat.mul_one]
      omega
    have hlt2 : 2 ^ k - 1 < 2 ^ k:=by have:=Nat.two_pow_pos k; omega
    rw [e1,Nat.testBit_two_pow_mul_add _ hlt2]
    have hbj:=hb j
    by_cases hj : j < k
    · have h1 : ¬ k ≤ j:=by omega
      have h2 : ¬ k + 1 ≤ j:=by omega
      simp [h1,h2]
    · rw [if_neg hj]
      by_cases hjk : j = k
      · subst hjk
        simp [Nat.testBit_zero]
        intro _ h; omega
      · have h1 : k ≤ j:=by omega
        have h2 : k + 1 ≤ j:=by omega
        obtain ⟨d,rfl⟩ : ∃ d,j = k + (d + 1):=⟨j - k - 1,by omega⟩
        have e3 : k + (d + 1) - k = d + 1:=by omega
        have e4 : (2 * z + 1).testBit (d + 1) = z.testBit d:=by
          rw [Nat.testBit_succ]; congr 1; omega
        have e5 : (2 * z).testBit (d + 1) = z.testBit d:=by
          rw [Nat.testBit_succ]; congr 1; omega
        rw [e3,e4] at hbj
        rw [e3,e4,e5]
        have h3 : m ≤ k + (d + 1):=by omega
        simp [h1,h3] at hbj
        simp [h1,h2]
        rw [← hbj]
def el (p : Nat → Bool) (x : Nat) : List Nat:=(List.range x).filter p
theorem el_snoc (p : Nat → Bool) (x : Nat) (h : p x = true) : el p (x + 1) = el p x ++ [x]:=by
  unfold el
  rw [List.range_succ,List.filter_append]
  simp [h]
theorem el_skip (p : Nat → Bool) (x : Nat) : ∀ d,(∀ j,x ≤ j → j < x + d → p j = false) → el p (x + d) = el p x
  | 0,_ => rfl
  | d + 1,h => by
    unfold el
    rw [← Nat.add_assoc,List.range_succ,List.filter_append]
    have h1:=h (x + d) (by omega) (by omega)
    have:=el_skip p x d (fun j h2 h3 => h j h2 (by omega))
    unfold el at this
    rw [this]
    simp [h1]
theorem el_skip' (p : Nat → Bool) (x y : Nat) (hxy : x ≤ y) (h : ∀ j,x ≤ j → j < y → p j = false) : el p y = el p x:=by
  obtain ⟨d,rfl⟩ : ∃ d,y = x + d:=⟨y - x,by omega⟩
  exact el_skip p x d h
theorem el_mem (p : Nat → Bool) (x j : Nat) : j ∈ el p x ↔ j < x ∧ p j = true:=by
  unfold el
  rw [List.mem_filter,List.mem_range]
def Tab (w : World) : Prop:=∀ i,i < 64 → w.cell? ⟨2,i,none⟩ = some (.int .u8 ((Lib.deBruijn64tab.getD i 0 : Nat) : Int))
theorem tab_lt {w : World} (h : Tab w) : 2 < w.heap.size:=by
  have:=h 0 (by omega)
  rcases Nat.lt_or_ge 2 w.heap.size with h' | h'
  · exact h'
  · simp [World.cell?,Array.getElem?_eq_none h'] at this
theorem Tab.below {w w' : World} {B : Nat} (h : Tab w) (hb : Below B w w') (hB : w.heap.size ≤ B) : Tab w':=fun i hi =>
  (hb.cell (p:=⟨2,i,none⟩) (Nat.lt_of_lt_of_le (tab_lt h) hB)).trans (h i hi)
theorem Tab.grown {w w' : World} {row : Option Nat} (h : Tab w) (hg : w.grownBy w' row) (hr : some 2 ≠ row) : Tab w':=fun i hi =>
  (World.cell?_of_block (a:=⟨2,i,none⟩) (hg.block _ (tab_lt h) hr)).trans (h i hi)
theorem tz_neg (n : Nat) (h0 : n ≠ 0) (hn : n < 18446744073709551616) : IntKind.u64.wrap (-(n : Int)) = ((18446744073709551616 - n : Nat) : Int):=by
  have e : IntKind.u64.wrap (-(n : Int)) = (-(n : Int)) % 18446744073709551616:=rfl
  rw [e]; omega
theorem tz_low (n : Nat) (h0 : n ≠ 0) (hn : n < 18446744073709551616) : bits .and .u64 (n : Int) (IntKind.u64.wrap (-(n : Int))) = ((2 ^ Lib.ctz 64 n : Nat) : Int) ∧ Lib.ctz 64 n < 64:=by
  have h:=Lib.lowest_bit 64 n h0 hn
  rw [tz_neg n h0 hn,u64_and_nat n (18446744073709551616 - n) hn (by omega)]
  exact ⟨congrArg _ h.1,h.2⟩
theorem tz_at (n : Nat) (h0 : n ≠ 0) (hn : n < 18446744073709551616) : ∃ z : Nat,IntKind.u64.wrap (bits .and .u64 (n : Int) (IntKind.u64.wrap (-(n : Int))) * 285870213051353865) / 288230376151711744 = (z : Int) ∧ z < 64 ∧ Lib.deBruijn64tab.getD z 0 = Lib.ctz 64 n ∧ Lib.ctz 64 n < 64:=by
  obtain ⟨h1,h2⟩:=tz_low n h0 hn
  have h3:=Lib.deBruijn64_at _ h2
  refine ⟨_,?_,h3.1,h3.2,h2⟩
  rw [h1]
  have e : IntKind.u64.wrap (((2 ^ Lib.ctz 64 n : Nat) : Int) * 285870213051353865) = ((2 ^ Lib.ctz 64 n : Nat) : Int) * 285870213051353865 % 18446744073709551616:=rfl
  rw [e]
  generalize 2 ^ Lib.ctz 64 n = m
  omega
theorem tz_any (n : Nat) (h0 : n ≠ 0) (hn : n < 18446744073709551616) (w : World) (hT : Tab w) :
    Calls Tryz.prog 153 #[.int .u64 (n : Int)] w fun e w' => e = .returned (.int .i64 ((Lib.ctz 64 n : Nat) : Int)) ∧ w' = w:=by
  obtain ⟨z,hz,hz64,hzt,hk⟩:=tz_at n h0 hn
  have hc:=hT z hz64
  rw [hzt] at hc
  have hb : ((n : Int) == 0) = false:=by rw [beq_eq_false_iff_ne]; omega
  have hzn : ((z : Int)).toNat = z:=by omega
  have hw : wrap64 ((Lib.ctz 64 n : Nat) : Int) = ((Lib.ctz 64 n : Nat) : Int):=by unfold wrap64; omega
  clear hzt
  go_enter Tryz.func153,Tryz.ntmps153
  go_wp2
  go_ret
  exact ⟨rfl,rfl⟩
end Go.Proofs.YtcjghhedphmhkaaGreatDoor
namespace Go.Proofs.YtcjghhedphmhkaaGreatDoor
open Go.ChangeShapes Go.WideShapes Go.ChangeAt Go.RowKit
abbrev tabL : List (String × DataW Unit) := [("math/bits.deBruijn64tab", Rows.laid_math_bits_deBruijn64tab)]
theorem tabG : Tryz.prog.globalNamed "math/bits.deBruijn64tab" = some 2 := by kernel_rfl
theorem tabT : (Tryz.prog.globals[(2 : Nat)]?).map (·.type) = some 250:=by kernel_rfl
theorem tabD : (Rows.laid_math_bits_deBruijn64tab : DataW Unit) = .agg ((List.range 64).map fun i => .lit (.int .u8 ((Lib.deBruijn64tab.getD i 0 : Nat) : Int))):=by rfl
theorem tab_of_laid {W : World} (h : laidMet Tryz.prog tabL W) : Tab W:=by
  obtain ⟨ps,⟨g,t,cs,fuel,p,q,hg,ht,hv,htr,_,_⟩,_,_⟩:=h
  obtain rfl:=Option.some.inj (tabG.symm.trans hg)
  obtain rfl:=Option.some.inj (tabT.symm.trans ht)
  obtain ⟨xs,m,_,hx,hlen,hxl,hall⟩:=DataW.trod_array Tryz.underlying250 htr
  have hc1 : Tryz.prog.cellsOf 5 = 1:=by kernel_rfl
  have hd : xs.map (·.1) = (List.range 64).map fun i => (.lit (.int .u8 ((Lib.deBruijn64tab.getD i 0 : Nat) : Int)) : DataW Unit):=by
    have:=congrArg Prod.fst hx
    rw [tabD] at this
    simp only [DataW.agg.injEq] at this
    exact this.symm
  intro i hi
  rw [World.var?_cell tabG hv i]
  have h1:=hall i hi
  have hxi : i < xs.length:=by omega
  rw [List.getElem?_eq_getElem hxi,hc1,Nat.mul_one] at h1
  have h2 : xs[i].1 = .lit (.int .u8 ((Lib.deBruijn64tab.getD i 0 : Nat) : Int)):=by
    have:=congrArg (fun l => l[i]?) hd
    simp only [List.getElem?_map,List.getElem?_range hi,Option.map_some,List.getElem?_eq_getElem hxi,Option.some.injEq] at this
    exact this
  obtain ⟨z,hz,hxz,_⟩:=DataW.trod_int Tryz.underlying5 h1
  rw [hxz] at h2
  simp only [DataW.lit.injEq,Lit.int.injEq,true_and] at h2
  subst h2
  have h3 : (cs.toList.drop i)[0]? = some (.int .u8 ((Lib.deBruijn64tab.getD i 0 : Nat) : Int)):=by
    have:=congrArg (fun l => l[0]?) hz
    simpa [List.getElem?_take] using this
  simpa using h3
theorem both_parts {W : World} (h : laidMetH Tryz.prog [("math/bits.deBruijn64tab", Rows.laid_math_bits_deBruijn64tab), ("errors.errorType", Rows.laid_errors_errorType)] W) : laidMet Tryz.prog tabL W ∧ handlesMet Tryz.prog [("errors.errorType", Rows.laid_errors_errorType)] W := h
theorem tab_of_both {W : World} (h : laidMetH Tryz.prog [("math/bits.deBruijn64tab", Rows.laid_math_bits_deBruijn64tab), ("errors.errorType", Rows.laid_errors_errorType)] W) : Tab W := tab_of_laid (both_parts h).1
theorem handle_of_both {W : World} (h : laidMetH Tryz.prog [("math/bits.deBruijn64tab", Rows.laid_math_bits_deBruijn64tab), ("errors.errorType", Rows.laid_errors_errorType)] W) : W.cell? ⟨0, 0, none⟩ = some (rty 36) :=
  handle_of_laid (show laidMetH Tryz.prog [("errors.errorType", Rows.laid_errors_errorType)] W from (show laidMet Tryz.prog [] W ∧ handlesMet Tryz.prog [("errors.errorType", Rows.laid_errors_errorType)] W from ⟨laidMet_nil _ _, (both_parts h).2⟩))
def tabCells : Array Value:=(Lib.deBruijn64tab.map fun n : Nat => Value.int .u8 (n : Int)).toArray
def setTab (h : Array Obj) : Array Obj:=h.modify 2 fun
  | .cells _ t frozen => .cells tabCells t frozen
  | o => o
def setErr (h : Array Obj) : Array Obj:=h.modify 0 fun
  | .cells _ t frozen => .cells #[rty 36] t frozen
  | o => o
end Go.Proofs.YtcjghhedphmhkaaGreatDoor
namespace Go.Proofs.YtcjghhedphmhkaaGreatDoor
open Go.RowKit
structure But (F : Nat → Prop) (w w' : World) : Prop where
  os : w'.os = w.os
  tape : w'.tape = w.tape
  output : w'.output = w.output
  size : w.heap.size ≤ w'.heap.size
  block : ∀ k,k < w.heap.size → ¬ F k → w'.heap[k]? = w.heap[k]?
theorem But.refl (F : Nat → Prop) (w : World) : But F w w:=⟨rfl,rfl,rfl,Nat.le_refl _,fun _ _ _ => rfl⟩
theorem But.below {F : Nat → Prop} {w w' : World} (h : Below w.heap.size w w') : But F w w':=⟨h.os,h.tape,h.output,h.size,fun k hk _ => h.block k hk⟩
theorem But.mono {F G : Nat → Prop} {w w' : World} (h : But F w w') (hs : ∀ k,k < w.heap.size → F k → G k) : But G w w':=⟨h.os,h.tape,h.output,h.size,fun k hk hn => h.block k hk (fun hf => hn (hs k hk hf))⟩
theorem But.to {F : Nat → Prop} {w w' : World} (h : But F w w') {B : Nat} (hB : B ≤ w.heap.size) (hF : ∀ k,F k → B ≤ k) : Below B w w':=⟨h.os,h.tape,h.output,h.size,fun k hk => h.block k (by omega) (fun hf => by have:=hF k hf; omega)⟩
theorem But.trans {F G : Nat → Prop} {a b c : World} (h : But F a b) (g : But G b c) (hG : ∀ k,G k → F k ∨ a.heap.size ≤ k) : But F a c :=
  ⟨g.os.trans h.os,g.tape.trans h.tape,g.output.trans h.output,Nat.le_trans h.size g.size,fun k hk hn => (g.block k (Nat.lt_of_lt_of_le hk h.size) (fun hg => by
    rcases hG k hg with h' | h'
    · exact hn h'
    · omega)).trans (h.block k hk hn)⟩
def Onto (F F' : Nat → Prop) (w : World) : Prop:=∀ k,F' k → F k ∨ w.heap.size ≤ k
def Turns (F : Nat → Prop) (w w' : World) (P : (Nat → Prop) → Prop) : Prop:=∃ F',P F' ∧ But F w w' ∧ Onto F F' w
inductive Rx where
  | leaf : Nd → Rx
  | one : Nd → Rx → Rx
  | two : Nd → Rx → Rx → Rx
def Rx.flat : Rx → List Nd
  | .leaf n => [n]
  | .one n a => n :: a.flat
  | .two n a b => n :: (a.flat ++ b.flat)
def Rx.Ok : Rx → Prop
  | .leaf n => prt n.op = 0
  | .one n a => prt n.op = 1 ∧ a.Ok
  | .two n a b => prt n.op = 2 ∧ a.Ok ∧ b.Ok
def Rx.turn : Rx → Rx
  | .leaf n => .leaf n.flip
  | .one n a => .one n.flip a.turn
  | .two n a b => if n.op = 3 then .two n.flip b.turn a.turn else .two n.flip a.turn b.turn
theorem Rx.flat_pos : ∀ t : Rx,0 < t.flat.length
  | .leaf n => by simp [Rx.flat]
  | .one n a => by simp [Rx.flat]
  | .two n a b => by simp [Rx.flat]
theorem get_mid (p q : List Nd) (n : Nd) : (p ++ n :: q)[p.length]? = some n:=by
  rw [List.getElem?_append_right (Nat.le_refl _)]; simp
theorem endF_flat : ∀ (t : Rx),t.Ok → ∀ (p q : List Nd) (f : Nat),t.flat.length ≤ f → endF (p ++ t.flat ++ q) f p.length = some (p.length + t.flat.length)
  | .leaf n,h,p,q,f,hf => by
    obtain ⟨f,rfl⟩ : ∃ g,f = g + 1:=⟨f - 1,by simp [Rx.flat] at hf; omega⟩
    have e : p ++ (Rx.leaf n).flat ++ q = p ++ n :: q:=by simp [Rx.flat]
    rw [e,endF,get_mid]
    simp only
    rw [if_pos (show prt n.op = 0 from h)]
    simp [Rx.flat]
  | .one n a,h,p,q,f,hf => by
    obtain ⟨f,rfl⟩ : ∃ g,f = g + 1:=⟨f - 1,by simp [Rx.flat] at hf; omega⟩
    have ih:=endF_flat a h.2 (p ++ [n]) q f (by simp [Rx.flat] at hf; omega)
    have e : p ++ (Rx.one n a).flat ++ q = p ++ n :: (a.flat ++ q):=by simp [Rx.flat]
    have e' : p ++ [n] ++ a.flat ++ q = p ++ n :: (a.flat ++ q):=by simp
    rw [e'] at ih
    rw [e,endF,get_mid]
    simp only
    rw [if_neg (by have:=h.1; omega),if_pos h.1]
    rw [show p.length + 1 = (p ++ [n]).length from by simp,ih]
    simp [Rx.flat]; omega
  | .two n a b,h,p,q,f,hf => by
    obtain ⟨f,rfl⟩ : ∃ g,f = g + 1:=⟨f - 1,by simp [Rx.flat] at hf; omega⟩
    have ih:=endF_flat a h.2.1 (p ++ [n]) (b.flat ++ q) f (by simp [Rx.flat] at hf; omega)
    have ih2:=endF_flat b h.2.2 (p ++ [n] ++ a.flat) q f (by simp [Rx.flat] at hf; omega)
    have e : p ++ (Rx.two n a b).flat ++ q = p ++ n :: (a.flat ++ (b.flat ++ q)):=by simp [Rx.flat]
    have e' : p ++ [n] ++ a.flat ++ (b.flat ++ q) = p ++ n :: (a.flat ++ (b.flat ++ q)):=by simp
    have e2 : p ++ [n] ++ a.flat ++ b.flat ++ q = p ++ n :: (a.flat ++ (b.flat ++ q)):=by simp
    rw [e'] at ih
    rw [e2] at ih2
    rw [e,endF,get_mid]
    simp only
    rw [if_neg (by have:=h.1; omega),if_neg (by have:=h.1; omega)]
    rw [show p.length + 1 = (p ++ [n]).length from by simp,ih]
    rw [Option.bind_some,show (p ++ [n]).length + a.flat.length = (p ++ [n] ++ a.flat).length from by simp; omega,ih2]
    simp [Rx.flat]; omega
theorem part_tree (ns : List Nd) : ∀ (f i j : Nat),endF ns f i = some j → ∃ t : Rx,t.Ok ∧ ∃ q,ns.drop i = t.flat ++ q ∧ j = i + t.flat.length
  | 0,i,j,h => by simp [endF] at h
  | f + 1,i,j,h => by
    obtain ⟨n,hn,hil,hc⟩:=part_cases ns f i j h
    have hd : ns.drop i = n :: ns.drop (i + 1):=by
      rw [List.drop_eq_getElem_cons hil]
      rw [List.getElem?_eq_getElem hil] at hn
      rw [Option.some.inj hn]
    rcases hc with ⟨h0,rfl⟩ | ⟨h0,h1⟩ | ⟨h0,k,h1,h2⟩
    · exact ⟨.leaf n,h0,_,hd,rfl⟩
    · obtain ⟨t,ht,q,e,ej⟩:=part_tree ns f _ _ h1
      exact ⟨.one n t,⟨h0,ht⟩,q,by rw [hd,e]; simp [Rx.flat],by rw [ej]; simp [Rx.flat]; omega⟩
    · obtain ⟨t,ht,q,e,ek⟩:=part_tree ns f _ _ h1
      obtain ⟨u,hu,r,e2,ej⟩:=part_tree ns f _ _ h2
      have hq : q = ns.drop k:=by
        have : (ns.drop (i + 1)).drop t.flat.length = q:=by rw [e]; simp
        rw [← this,List.drop_drop,ek]
      refine ⟨.two n t u,⟨h0,ht,hu⟩,r,?_,?_⟩
      · rw [hd,e,hq,e2]; simp [Rx.flat]
      · rw [ej,ek]; simp [Rx.flat]; omega
theorem tree_of (ns : List Nd) (hv : endE ns 0 = some ns.length) : ∃ t : Rx,t.Ok ∧ ns = t.flat:=by
  obtain ⟨t,ht,q,e,ej⟩:=part_tree ns _ 0 _ hv
  refine ⟨t,ht,?_⟩
  rw [List.drop_zero] at e
  have : q = []:=by
    apply List.eq_nil_of_length_eq_zero
    have:=congrArg List.length e
    simp at this
    omega
  rw [e,this,List.append_nil]
theorem endE_flat (t : Rx) (ht : t.Ok) : endE t.flat 0 = some t.flat.length:=by
  have:=endF_flat t ht [] [] (t.flat.length + 1) (by omega)
  simpa [endE] using this
theorem endE_mid (t : Rx) (ht : t.Ok) (p q : List Nd) : endE (p ++ t.flat ++ q) p.length = some (p.length + t.flat.length) :=
  endF_flat t ht p q _ (by simp; omega)
theorem scanL_zero : ∀ (ns : List Nd),scanL ns = 0 ↔ ∀ n ∈ ns,(1 ≤ n.op ∧ n.op ≤ 9) ∧ (n.op = 1 ∨ n.c.eqb z4 = true)
  | [] => by simp [scanL]
  | n :: r => by
    rw [scanL]
    simp only [List.mem_cons,forall_eq_or_imp,← scanL_zero r]
    by_cases h : n.op < 1 ∨ 9 < n.op
    · rw [if_pos h]
      simp
      omega
    · rw [if_neg h]
      by_cases h2 : ¬ n.op = 1 ∧ ¬ n.c.eqb z4 = true
      · rw [if_pos h2]
        simp [h2.1,h2.2]
      · rw [if_neg h2]
        have h3 : n.op = 1 ∨ n.c.eqb z4 = true:=by
          rcases Classical.em (n.op = 1) with e | e
          · exact Or.inl e
          · exact Or.inr (Classical.byContradiction fun e' => h2 ⟨e,e'⟩)
        have h4 : 1 ≤ n.op ∧ n.op ≤ 9:=by omega
        simp only [h3,h4,and_self,true_and]
theorem faultL_zero (ns : List Nd) : faultL ns = 0 ↔ ns.length ≤ 60 ∧ (∀ n ∈ ns,(1 ≤ n.op ∧ n.op ≤ 9) ∧ (n.op = 1 ∨ n.c.eqb z4 = true)) ∧ endE ns 0 = some ns.length:=by
  rw [faultL,← scanL_zero]
  by_cases h : 60 < ns.length
  · rw [if_pos h]; simp; omega
  · rw [if_neg h]
    by_cases h2 : scanL ns = 0
    · rw [if_neg (by simp [h2])]
      by_cases h3 : endE ns 0 = some ns.length
      · have h4 : ns ≠ []:=by rintro rfl; rw [endE_nil] at h3; cases h3
        rw [if_neg (by simp [h3,h4])]
        simp [h2,h3]; omega
      · rw [if_pos (Or.inr h3)]; simp [h3]
    · rw [if_pos (by simp [h2])]
      simp [h2]
theorem hp_lt {W : World} {k : Nat} {o : Obj} (h : W.heap[k]? = some o) : k < W.heap.size:=(Array.getElem?_eq_some_iff.1 h).1
theorem owns_same {w w' : World} {B : Nat} {T : TypeId} {n : Nat} {v : Value} {k : Nat} {xs : List Value} (h : w.ownsRow B T n v k xs) (hs : ∀ g,v.ownBlock = some g → w'.heap[g]? = w.heap[g]?) : w'.ownsRow B T n v k xs:=by
  refine ⟨h.1,?_⟩
  rcases h.2 with h0 | ⟨g,cap,cur,hv,hb,hg,hr⟩
  · exact Or.inl h0
  · exact Or.inr ⟨g,cap,cur,hv,hb,(hs g (by rw [hv]; rfl)).trans hg,hr⟩
theorem owns_block {w : World} {B : Nat} {T : TypeId} {n : Nat} {v : Value} {k : Nat} {xs : List Value} (h : w.ownsRow B T n v k xs) {g : Nat} (e : v.ownBlock = some g) : B ≤ g ∧ g < w.heap.size ∧ ∃ cur,w.heap[g]? = some (.cells cur T (0,0)):=by
  rcases h.2 with ⟨hv,_⟩ | ⟨b,cap,cur,hv,hb,hh,_⟩
  · rw [hv] at e; cases e
  · rw [hv] at e
    injection e with e
    simp only at e
    subst e
    exact ⟨hb,(Array.getElem?_eq_some_iff.1 hh).1,cur,hh⟩
theorem type_ne {w : World} {a b : Nat} {c d : Array Value} {T U : TypeId} {o p : Nat × Nat} (ha : w.heap[a]? = some (.cells c T o)) (hb : w.heap[b]? = some (.cells d U p)) (h : T ≠ U) : a ≠ b:=by
  rintro rfl
  rw [ha] at hb
  injection hb with hb
  injection hb with _ hb _
  exact h hb
theorem But.grown {w w' : World} {row : Option Nat} {F : Nat → Prop} (h : w.grownBy w' row) (hF : ∀ k,row = some k → F k) : But F w w':=⟨h.os,h.tape,h.output,h.size,fun k hk hn => h.block k hk (fun e => hn (hF k e.symm))⟩
theorem owns_other {w w' : World} {B b n k : Nat} {T U : TypeId} {v : Value} {xs : List Value} {cs : Array Value} (h : w.ownsRow B T n v k xs) (hb : w.heap[b]? = some (.cells cs U (0,0))) (hne : T ≠ U) (hg : w.grownBy w' (some b)) : w'.ownsRow B T n v k xs :=
  owns_same h (fun g e => hg.block g (owns_block h e).2.1 (by
    intro e'
    injection e' with e'
    obtain ⟨_,_,cur,hc⟩:=owns_block h e
    exact type_ne hc hb hne e'))
theorem owns_row {w w' : World} {B B' n n' k k' : Nat} {T U : TypeId} {v u : Value} {xs ys : List Value} (h : w.ownsRow B T n v k xs) (hu : w.ownsRow B' U n' u k' ys) (hne : T ≠ U) (hg : w.grownBy w' u.ownBlock) : w'.ownsRow B T n v k xs :=
  owns_same h (fun g e => hg.block g (owns_block h e).2.1 (by
    intro e'
    obtain ⟨_,_,cur,hc⟩:=owns_block h e
    obtain ⟨_,_,cur',hc'⟩:=owns_block hu e'.symm
    exact type_ne hc hc' hne rfl))
theorem box_row {w w' : World} {B' n' k' b : Nat} {T U : TypeId} {u : Value} {ys : List Value} {cs : Array Value} (h : w.heap[b]? = some (.cells cs T (0,0))) (hu : w.ownsRow B' U n' u k' ys) (hne : T ≠ U) (hg : w.grownBy w' u.ownBlock) : w'.heap[b]? = some (.cells cs T (0,0)) :=
  (hg.block b (hp_lt h) (by
    intro e'
    obtain ⟨_,_,cur',hc'⟩:=owns_block hu e'.symm
    exact type_ne h hc' hne rfl)).trans h
theorem owns_below {w w' : World} {B n k : Nat} {T : TypeId} {v : Value} {xs : List Value} (h : w.ownsRow B T n v k xs) (hb : Below w.heap.size w w') : w'.ownsRow B T n v k xs:=owns_same h (fun g e => hb.block g (owns_block h e).2.1)
theorem owns_grown {w w' : World} {B n k : Nat} {T : TypeId} {v : Value} {xs : List Value} (h : w.ownsRow B T n v k xs) (hB : B ≤ w.heap.size) (hg : w.grownBy w' v.ownBlock) : Below B w w' :=
  ⟨hg.os,hg.tape,hg.output,hg.size,fun k hk => hg.block k (by omega) (fun e => by have:=(owns_block h e.symm).1; omega)⟩
theorem owns_form {w : World} {B n k : Nat} {T : TypeId} {v : Value} {xs : List Value} (h : w.ownsRow B T n v k xs) : ∃ a cap,v = .slice a k cap:=by
  rcases h.2 with ⟨hv,h0⟩ | ⟨g,cap,cur,hv,_⟩
  · exact ⟨none,0,by rw [hv,h0]⟩
  · exact ⟨_,_,hv⟩
theorem grown_cellR (w : World) (a : Addr) (u : Value) : w.grownBy (w.setCell a u) (some a.block) :=
  ⟨rfl,rfl,rfl,by simp,fun k _ hk => heap_setCell_other w a k u (fun e => hk (by rw [e]))⟩
def Rx.top : Rx → Nd
  | .leaf n => n
  | .one n _ => n
  | .two n _ _ => n
def brk (parent op : Int) (second : Bool) : Bool :=
  if op = 2 then !decide (parent = 4) else if op = 4 then !second || !decide (parent = 4) else if op = 3 then (decide (parent = 3) && !second) || decide (parent = 5) || decide (parent = 6) || decide (parent = 7) else false
def brT (x : Bool) (s : List UInt8) : List UInt8:=if x then 40 :: (s ++ [41]) else s
def signT (op : Int) : UInt8:=if op = 5 then 42 else if op = 6 then 43 else 63
def Rx.txt : Rx → List UInt8
  | .leaf n => if n.op = 1 then textL n.c else if n.op = 8 then [94] else if n.op = 9 then [36] else []
  | .one n a => brT (brk n.op a.top.op false) a.txt ++ [signT n.op]
  | .two n a b => brT (brk n.op a.top.op false) a.txt ++ ((if n.op = 4 then [124] else []) ++ brT (brk n.op b.top.op true) b.txt)
end Go.Proofs.YtcjghhedphmhkaaGreatDoor
