/- Plain mathematics of classes, third part: what a class has; and, or, not, add; how many. Patterns: lists of nodes, in memory; parts and ends, faults, what may be nothing, turned. No function of the program. A class as an argument: opened and shut. A pattern as an argument: opened. Closed facts on the model's entries that errors.As comes to. Facts on the model's entries that errors.As comes to, where memory is read or written. An error as the program hands it back. -/
import Derived.Test.YtphcncgdodhlbaaDoorY01
import Derived.Deep.AppendLies
import Derived.Test.YtphcncgdodhlbaaDoorProg
import Derived.ProofKit
import Derived.OpenShut
import Derived.Laws.IdiomArrays
import Derived.Deep.Slices
import Derived.ChangeSame
import Derived.WalkKit
import Derived.WalkSpells
import Derived.WalkLawsBesides
import Derived.Deep.QuietTactic
import Derived.BigQuiet
import Derived.Stop.Asserts
import Derived.Laws.Externs
namespace Go.Proofs.YtphcncgdodhlbaaDoor
set_option linter.unusedSimpArgs false
set_option linter.unusedVariables false
open Go.RowKit

def okW (x : Int) : Prop := 0 ≤ x ∧ x < 18446744073709551616
def C4.ok (k : C4) : Prop := okW k.a ∧ okW k.b ∧ okW k.c ∧ okW k.d
theorem C4.ok_w {k : C4} (h : k.ok) (i : Nat) : okW (k.w i) := by
  unfold C4.w
  split
  · exact h.1
  · split
    · exact h.2.1
    · split
      · exact h.2.2.1
      · exact h.2.2.2
/-- What a class has. -/
def C4.has (k : C4) (i : Nat) : Bool := (k.w (i / 64)).toNat.testBit (i % 64)

theorem okW_nat {x : Int} (h : okW x) : ∃ n : Nat, x = (n : Int) ∧ n < 18446744073709551616 := by
  unfold okW at h
  exact ⟨x.toNat, by omega, by omega⟩
theorem tb_eq (n j : Nat) : n.testBit j = decide (n / 2 ^ j % 2 = 1) := by
  rw [Nat.testBit_eq_decide_div_mod_eq]
theorem bit_and1 (n j : Nat) (h : n < 18446744073709551616) : (bits .and .u64 ((n : Int) / 2 ^ j) 1 == 1) = n.testBit j := by
  have e : (n : Int) / 2 ^ j = ((n / 2 ^ j : Nat) : Int) := by rw [Int.natCast_ediv, Int.natCast_pow]; rfl
  have hl : n / 2 ^ j < 18446744073709551616 := Nat.lt_of_le_of_lt (Nat.div_le_self _ _) h
  have a1 := u64_and_nat (n / 2 ^ j) 1 hl (by omega)
  rw [e, show (1 : Int) = ((1 : Nat) : Int) from rfl, a1, nat_mask1, tb_eq]
  generalize n / 2 ^ j % 2 = z
  by_cases hz : z = 1
  · simp [hz]
  · simp only [hz, decide_false]
    rw [beq_eq_false_iff_ne]
    intro e
    exact hz (Int.ofNat_inj.1 e)
theorem C4.hasI_eq (k : C4) (h : k.ok) (i : Nat) : k.hasI (i : Int) = k.has i := by
  obtain ⟨n, hn, hl⟩ := okW_nat (C4.ok_w h (i / 64))
  have e1 : ((i : Int) / 64).toNat = i / 64 := by omega
  have e2 : ((i : Int) % 64).toNat = i % 64 := by omega
  unfold C4.hasI C4.has
  rw [e1, e2, hn, Int.toNat_natCast]
  exact bit_and1 n _ hl
theorem C4.p_eq (k : C4) (h : k.ok) : k.p = k.has := by
  funext i
  exact C4.hasI_eq k h i

theorem word_ext {x y : Int} (hx : okW x) (hy : okW y) (h : ∀ j, j < 64 → x.toNat.testBit j = y.toNat.testBit j) : x = y := by
  obtain ⟨n, rfl, hn⟩ := okW_nat hx
  obtain ⟨m, rfl, hm⟩ := okW_nat hy
  simp only [Int.toNat_natCast] at h
  have : n = m := by
    apply Nat.eq_of_testBit_eq
    intro j
    by_cases hj : j < 64
    · exact h j hj
    · have p : (18446744073709551616 : Nat) = 2 ^ 64 := by decide
      have q : 2 ^ 64 ≤ 2 ^ j := Nat.pow_le_pow_right (by decide) (by omega)
      rw [Nat.testBit_lt_two_pow (Nat.lt_of_lt_of_le (p ▸ hn) q), Nat.testBit_lt_two_pow (Nat.lt_of_lt_of_le (p ▸ hm) q)]
  rw [this]
theorem C4.ext_has {x y : C4} (hx : x.ok) (hy : y.ok) (h : ∀ i, i < 256 → x.has i = y.has i) : x = y := by
  have key : ∀ q, q < 4 → x.w q = y.w q := by
    intro q hq
    apply word_ext (C4.ok_w hx q) (C4.ok_w hy q)
    intro j hj
    have := h (64 * q + j) (by omega)
    unfold C4.has at this
    rwa [show (64 * q + j) / 64 = q from by omega, show (64 * q + j) % 64 = j from by omega] at this
  have k0 := key 0 (by decide)
  have k1 := key 1 (by decide)
  have k2 := key 2 (by decide)
  have k3 := key 3 (by decide)
  cases x; cases y
  simp [C4.w] at k0 k1 k2 k3
  simp [k0, k1, k2, k3]

theorem and_ok {x y : Int} (hx : okW x) (hy : okW y) : okW (bits .and .u64 x y) ∧ ∀ j, (bits .and .u64 x y).toNat.testBit j = (x.toNat.testBit j && y.toNat.testBit j) := by
  obtain ⟨n, rfl, hn⟩ := okW_nat hx
  obtain ⟨m, rfl, hm⟩ := okW_nat hy
  rw [u64_and_nat n m hn hm]
  have : n &&& m ≤ n := Nat.and_le_left
  refine ⟨⟨by omega, by omega⟩, fun j => ?_⟩
  simp only [Int.toNat_natCast, Nat.testBit_and]
theorem or_ok {x y : Int} (hx : okW x) (hy : okW y) : okW (bits .or .u64 x y) ∧ ∀ j, (bits .or .u64 x y).toNat.testBit j = (x.toNat.testBit j || y.toNat.testBit j) := by
  obtain ⟨n, rfl, hn⟩ := okW_nat hx
  obtain ⟨m, rfl, hm⟩ := okW_nat hy
  rw [u64_or_nat n m hn hm]
  have : n ||| m < 2 ^ 64 := Nat.or_lt_two_pow hn hm
  refine ⟨⟨by omega, by omega⟩, fun j => ?_⟩
  simp only [Int.toNat_natCast, Nat.testBit_or]
theorem not_ok {x : Int} (hx : okW x) : okW (not64 x) ∧ ∀ j, j < 64 → (not64 x).toNat.testBit j = !x.toNat.testBit j := by
  obtain ⟨n, rfl, hn⟩ := okW_nat hx
  have hm : IntKind.u64.max = ((18446744073709551615 : Nat) : Int) := by decide
  have e : not64 (n : Int) = (((2 ^ 64 - 1) ^^^ n : Nat) : Int) := by
    rw [not64, hm, u64_xor_nat _ n (by omega) hn]
  rw [e]
  have : (2 ^ 64 - 1) ^^^ n < 2 ^ 64 := Nat.xor_lt_two_pow (by decide) hn
  refine ⟨⟨by omega, by omega⟩, fun j hj => ?_⟩
  rw [Int.toNat_natCast, Int.toNat_natCast, Nat.testBit_xor, Nat.testBit_two_pow_sub_one]
  simp [hj]
theorem C4.and_ok {x y : C4} (hx : x.ok) (hy : y.ok) : (x.and y).ok := ⟨(Go.Proofs.YtphcncgdodhlbaaDoor.and_ok hx.1 hy.1).1, (Go.Proofs.YtphcncgdodhlbaaDoor.and_ok hx.2.1 hy.2.1).1, (Go.Proofs.YtphcncgdodhlbaaDoor.and_ok hx.2.2.1 hy.2.2.1).1, (Go.Proofs.YtphcncgdodhlbaaDoor.and_ok hx.2.2.2 hy.2.2.2).1⟩
theorem C4.or_ok {x y : C4} (hx : x.ok) (hy : y.ok) : (x.or y).ok := ⟨(Go.Proofs.YtphcncgdodhlbaaDoor.or_ok hx.1 hy.1).1, (Go.Proofs.YtphcncgdodhlbaaDoor.or_ok hx.2.1 hy.2.1).1, (Go.Proofs.YtphcncgdodhlbaaDoor.or_ok hx.2.2.1 hy.2.2.1).1, (Go.Proofs.YtphcncgdodhlbaaDoor.or_ok hx.2.2.2 hy.2.2.2).1⟩
theorem C4.not_ok {x : C4} (hx : x.ok) : x.not.ok := ⟨(Go.Proofs.YtphcncgdodhlbaaDoor.not_ok hx.1).1, (Go.Proofs.YtphcncgdodhlbaaDoor.not_ok hx.2.1).1, (Go.Proofs.YtphcncgdodhlbaaDoor.not_ok hx.2.2.1).1, (Go.Proofs.YtphcncgdodhlbaaDoor.not_ok hx.2.2.2).1⟩
theorem C4.and_w (x y : C4) (i : Nat) : (x.and y).w i = bits .and .u64 (x.w i) (y.w i) := by
  unfold C4.w C4.and
  split
  · rfl
  · split
    · rfl
    · split <;> rfl
theorem C4.or_w (x y : C4) (i : Nat) : (x.or y).w i = bits .or .u64 (x.w i) (y.w i) := by
  unfold C4.w C4.or
  split
  · rfl
  · split
    · rfl
    · split <;> rfl
theorem C4.not_w (x : C4) (i : Nat) : x.not.w i = not64 (x.w i) := by
  unfold C4.w C4.not
  split
  · rfl
  · split
    · rfl
    · split <;> rfl
theorem C4.has_and {x y : C4} (hx : x.ok) (hy : y.ok) (i : Nat) : (x.and y).has i = (x.has i && y.has i) := by
  unfold C4.has
  rw [C4.and_w]
  exact (Go.Proofs.YtphcncgdodhlbaaDoor.and_ok (C4.ok_w hx _) (C4.ok_w hy _)).2 _
theorem C4.has_or {x y : C4} (hx : x.ok) (hy : y.ok) (i : Nat) : (x.or y).has i = (x.has i || y.has i) := by
  unfold C4.has
  rw [C4.or_w]
  exact (Go.Proofs.YtphcncgdodhlbaaDoor.or_ok (C4.ok_w hx _) (C4.ok_w hy _)).2 _
theorem C4.has_not {x : C4} (hx : x.ok) (i : Nat) : x.not.has i = !x.has i := by
  unfold C4.has
  rw [C4.not_w]
  exact (Go.Proofs.YtphcncgdodhlbaaDoor.not_ok (C4.ok_w hx _)).2 _ (by omega)
theorem z4_ok : z4.ok := by
  unfold C4.ok okW z4
  simp
theorem z4_has (i : Nat) : z4.has i = false := by
  unfold C4.has C4.w z4
  split
  · simp
  · split
    · simp
    · split <;> simp

/-! One byte more -/
theorem pow_small (j : Nat) (h : j < 64) : okW (IntKind.u64.wrap (2 ^ j)) ∧ ∀ i, (IntKind.u64.wrap (2 ^ j)).toNat.testBit i = decide (j = i) := by
  have e : IntKind.u64.wrap (2 ^ j) = ((2 ^ j : Nat) : Int) := by
    have h2 : 2 ^ j < 2 ^ 64 := Nat.pow_lt_pow_right (by decide) h
    have := u64_small (2 ^ j) (by omega)
    rw [Int.natCast_pow] at this
    rw [Int.natCast_pow]
    exact this
  have h2 : 2 ^ j < 2 ^ 64 := Nat.pow_lt_pow_right (by decide) h
  rw [e]
  refine ⟨⟨Int.natCast_nonneg _, Int.ofNat_lt.2 h2⟩, fun i => ?_⟩
  rw [Int.toNat_natCast, Nat.testBit_two_pow]
theorem C4.put_w (k : C4) (q : Nat) (hq : q < 4) (z : Int) (i : Nat) (hi : i < 4) : (k.put q z).w i = if i = q then z else k.w i := by
  match q, hq, i, hi with
  | 0, _, 0, _ | 0, _, 1, _ | 0, _, 2, _ | 0, _, 3, _ | 1, _, 0, _ | 1, _, 1, _ | 1, _, 2, _ | 1, _, 3, _ | 2, _, 0, _ | 2, _, 1, _ | 2, _, 2, _ | 2, _, 3, _ | 3, _, 0, _ | 3, _, 1, _ | 3, _, 2, _ | 3, _, 3, _ => simp [C4.put, C4.w]
theorem C4.put_ok {k : C4} (h : k.ok) (q : Nat) {z : Int} (hz : okW z) : (k.put q z).ok := by
  unfold C4.put C4.ok
  refine ⟨?_, ?_, ?_, ?_⟩
  · simp only; split
    · exact hz
    · exact h.1
  · simp only; split
    · exact hz
    · exact h.2.1
  · simp only; split
    · exact hz
    · exact h.2.2.1
  · simp only; split
    · exact hz
    · exact h.2.2.2
theorem C4.add_ok {k : C4} (h : k.ok) (n : Nat) : (k.add (n : Int)).ok :=
  C4.put_ok h _ (Go.Proofs.YtphcncgdodhlbaaDoor.or_ok (C4.ok_w h _) (pow_small _ (by omega)).1).1
theorem C4.has_add {k : C4} (h : k.ok) (n i : Nat) (hn : n < 256) (hi : i < 256) : (k.add (n : Int)).has i = (k.has i || decide (n = i)) := by
  have e1 : ((n : Int) / 64).toNat = n / 64 := by omega
  have e2 : ((n : Int) % 64).toNat = n % 64 := by omega
  unfold C4.add C4.has
  rw [e1, e2, C4.put_w k (n / 64) (by omega) _ (i / 64) (by omega)]
  by_cases hq : i / 64 = n / 64
  · rw [if_pos hq, (Go.Proofs.YtphcncgdodhlbaaDoor.or_ok (C4.ok_w h _) (pow_small _ (by omega)).1).2, (pow_small _ (by omega)).2, hq]
    congr 1
    have : (n % 64 = i % 64) = (n = i) := by apply propext; omega
    simp only [this]
  · rw [if_neg hq]
    have : ¬ n = i := by omega
    simp [this]
theorem ofL_ok : ∀ (l : List UInt8), (C4.ofL l).ok := by
  have key : ∀ (l : List UInt8) (k : C4), k.ok → (l.foldl (fun k c => k.add (c.toNat : Int)) k).ok := by
    intro l
    induction l with
    | nil => intro k h; exact h
    | cons c l ih => intro k h; exact ih _ (C4.add_ok h _)
  intro l
  exact key l z4 z4_ok
theorem ofL_has (l : List UInt8) (i : Nat) (hi : i < 256) : (C4.ofL l).has i = decide (∃ c ∈ l, c.toNat = i) := by
  have key : ∀ (l : List UInt8) (k : C4), k.ok → (l.foldl (fun k c => k.add (c.toNat : Int)) k).has i = (k.has i || decide (∃ c ∈ l, c.toNat = i)) := by
    intro l
    induction l with
    | nil => intro k h; simp
    | cons c l ih =>
      intro k h
      rw [List.foldl_cons, ih _ (C4.add_ok h _), C4.has_add h _ _ c.toNat_lt hi, Bool.or_assoc]
      congr 1
      simp
  have := key l z4 z4_ok
  rw [z4_has, Bool.false_or] at this
  exact this

/-! How many -/
theorem many_cnt {k : C4} (h : k.ok) : k.many 4 = ((cnt k.has 256 : Nat) : Int) := by
  have key : ∀ n, n ≤ 4 → k.many n = ((cnt k.has (64 * n) : Nat) : Int) := by
    intro n
    induction n with
    | zero => intro _; rfl
    | succ n ih =>
      intro hn
      obtain ⟨m, hm, hl⟩ := okW_nat (C4.ok_w h n)
      have h1 := cnt_le k.has (64 * n)
      have h2 := cnt_le m.testBit 64
      rw [C4.many, ih (by omega), hm, ones_nat m hl, show 64 * (n + 1) = 64 * n + 64 from by omega, cnt_add]
      have e : cnt (fun j => k.has (64 * n + j)) 64 = cnt m.testBit 64 := by
        apply cnt_congr
        intro i hi
        unfold C4.has
        rw [show (64 * n + i) / 64 = n from by omega, show (64 * n + i) % 64 = i from by omega, hm, Int.toNat_natCast]
      rw [e]
      unfold wrap64
      omega
  exact key 4 (Nat.le_refl _)
theorem eqb_self (x : C4) : x.eqb x = true := (C4.eqb_iff x x).2 rfl
theorem deMorgan {x y : C4} (hx : x.ok) (hy : y.ok) : (x.and y).not = x.not.or y.not := by
  apply C4.ext_has (C4.not_ok (C4.and_ok hx hy)) (C4.or_ok (C4.not_ok hx) (C4.not_ok hy))
  intro i hi
  rw [C4.has_not (C4.and_ok hx hy), C4.has_and hx hy, C4.has_or (C4.not_ok hx) (C4.not_ok hy), C4.has_not hx, C4.has_not hy, Bool.not_and]
theorem not_not4 {x : C4} (hx : x.ok) : x.not.not = x := by
  apply C4.ext_has (C4.not_ok (C4.not_ok hx)) hx
  intro i hi
  rw [C4.has_not (C4.not_ok hx), C4.has_not hx, Bool.not_not]
theorem many_both {x y : C4} (hx : x.ok) (hy : y.ok) : (x.and y).many 4 + (x.or y).many 4 = x.many 4 + y.many 4 := by
  rw [many_cnt (C4.and_ok hx hy), many_cnt (C4.or_ok hx hy), many_cnt hx, many_cnt hy]
  have h := cnt_both x.has y.has 256
  rw [← cnt_congr (x.and y).has _ 256 (fun i _ => C4.has_and hx hy i), ← cnt_congr (x.or y).has _ 256 (fun i _ => C4.has_or hx hy i)] at h
  omega
theorem many_not {x : C4} (hx : x.ok) : x.many 4 + x.not.many 4 = 256 := by
  rw [many_cnt hx, many_cnt (C4.not_ok hx)]
  have h := cnt_not x.has 256
  rw [← cnt_congr x.not.has _ 256 (fun i _ => C4.has_not hx i)] at h
  omega
end Go.Proofs.YtphcncgdodhlbaaDoor
namespace Go.Proofs.YtphcncgdodhlbaaDoor
set_option linter.unusedSimpArgs false
set_option linter.unusedVariables false
set_option maxRecDepth 100000
open Go.RowKit

theorem hid {p : Prop} (h : p) : Hid p := h

/-- A node. -/
structure Nd where
  op : Int
  c : C4
/-- The nodes ns lie from an address on. -/
def NsAt (w : World) (b off : Nat) (ns : List Nd) : Prop := ∀ i n, ns[i]? = some n →
  w.cell? ⟨b, off + i * 5, none⟩ = some (.int .i64 n.op) ∧ w.cell? ⟨b, off + i * 5 + 1, none⟩ = some (.int .u64 n.c.a) ∧ w.cell? ⟨b, off + i * 5 + 1 + 1, none⟩ = some (.int .u64 n.c.b) ∧ w.cell? ⟨b, off + i * 5 + 1 + 2, none⟩ = some (.int .u64 n.c.c) ∧ w.cell? ⟨b, off + i * 5 + 1 + 3, none⟩ = some (.int .u64 n.c.d)
/-- A slice that reads as the nodes ns: nil where there is none. -/
def NsIn (w : World) (v : Value) (ns : List Nd) : Prop := ∃ a cap, v = .slice a ns.length cap ∧ ns.length ≤ maxLen ∧ (ns = [] ∨ ∃ b off, a = some ⟨b, off, none⟩ ∧ b < w.heap.size ∧ NsAt w b off ns)
theorem NsAt.below {w w' : World} {B b off : Nat} {ns : List Nd} (h : NsAt w b off ns) (hb : Below B w w') (hlt : b < B) : NsAt w' b off ns := by
  intro i n hn
  obtain ⟨h0, h1, h2, h3, h4⟩ := h i n hn
  exact ⟨(hb.cell (p := ⟨b, _, none⟩) hlt).trans h0, (hb.cell (p := ⟨b, _, none⟩) hlt).trans h1, (hb.cell (p := ⟨b, _, none⟩) hlt).trans h2, (hb.cell (p := ⟨b, _, none⟩) hlt).trans h3, (hb.cell (p := ⟨b, _, none⟩) hlt).trans h4⟩
theorem NsIn.below {w w' : World} {v : Value} {ns : List Nd} (h : NsIn w v ns) (hb : Below w.heap.size w w') : NsIn w' v ns := by
  obtain ⟨a, cap, rfl, hm, h | ⟨b, off, rfl, hlt, hn⟩⟩ := h
  · exact ⟨a, cap, rfl, hm, Or.inl h⟩
  · exact ⟨_, cap, rfl, hm, Or.inr ⟨b, off, rfl, Nat.lt_of_lt_of_le hlt hb.size, hn.below hb hlt⟩⟩
/-- How many parts a node has. -/
def prt (op : Int) : Nat := if op = 3 ∨ op = 4 then 2 else if op = 5 ∨ op = 6 ∨ op = 7 then 1 else 0
/-- The place behind the part at i. -/
def endF (ns : List Nd) : Nat → Nat → Option Nat
  | 0, _ => none
  | f + 1, i =>
    match ns[i]? with
    | none => none
    | some n => if prt n.op = 0 then some (i + 1) else if prt n.op = 1 then endF ns f (i + 1) else (endF ns f (i + 1)).bind (endF ns f)
def endI : Option Nat → Int
  | none => -1
  | some j => j
/-- So many parts more, from a place on. -/
def fin (ns : List Nd) (f : Nat) : Nat → Option Nat → Option Nat
  | 0, o => o
  | _ + 1, none => none
  | m + 1, some j => fin ns f m (endF ns f j)
theorem fin_none (ns : List Nd) (f m : Nat) : fin ns f m none = none := by cases m <;> rfl
theorem endF_gt (ns : List Nd) : ∀ (f i j : Nat), endF ns f i = some j → i < j ∧ j ≤ ns.length
  | 0, i, j, h => by simp [endF] at h
  | f + 1, i, j, h => by
    rw [endF] at h
    cases hn : ns[i]? with
    | none => rw [hn] at h; simp at h
    | some n =>
      rw [hn] at h
      have hi : i < ns.length := by
        rcases Nat.lt_or_ge i ns.length with h' | h'
        · exact h'
        · rw [List.getElem?_eq_none h'] at hn; cases hn
      simp only at h
      split at h
      · simp at h; omega
      · split at h
        · have := endF_gt ns f _ _ h; omega
        · cases h1 : endF ns f (i + 1) with
          | none => rw [h1] at h; simp at h
          | some k =>
            rw [h1] at h
            simp at h
            have a1 := endF_gt ns f _ _ h1
            have a2 := endF_gt ns f _ _ h
            omega
theorem endF_fin (ns : List Nd) (f i : Nat) (n : Nd) (hn : ns[i]? = some n) : endF ns (f + 1) i = fin ns f (prt n.op) (some (i + 1)) := by
  rw [endF, hn]
  simp only
  unfold prt
  split
  · simp only [fin]
    cases h : endF ns f (i + 1) <;> simp [fin]
  · split <;> simp [fin]
theorem prt_le (op : Int) : prt op ≤ 2 := by unfold prt; split <;> (try split) <;> omega
/-- The place behind the part at i, or none. -/
def endE (ns : List Nd) (i : Nat) : Option Nat := endF ns (ns.length + 1) i
theorem endE_nil (i : Nat) : endE [] i = none := by simp [endE, endF]
theorem endF_more (ns : List Nd) : ∀ (f g i j : Nat), f ≤ g → endF ns f i = some j → endF ns g i = some j
  | 0, g, i, j, _, h => by simp [endF] at h
  | f + 1, 0, i, j, hg, h => by omega
  | f + 1, g + 1, i, j, hg, h => by
    rw [endF] at h ⊢
    cases hn : ns[i]? with
    | none => rw [hn] at h; simp at h
    | some n =>
      rw [hn] at h
      simp only at h ⊢
      split at h
      · rename_i h0
        rw [if_pos h0]; exact h
      · rename_i h0
        rw [if_neg h0]
        split at h
        · rename_i h1
          rw [if_pos h1]
          exact endF_more ns f g _ _ (by omega) h
        · rename_i h1
          rw [if_neg h1]
          cases h2 : endF ns f (i + 1) with
          | none => rw [h2] at h; simp at h
          | some k =>
            rw [h2] at h
            rw [endF_more ns f g _ _ (by omega) h2]
            simp at h ⊢
            exact endF_more ns f g _ _ (by omega) h
theorem endE_of (ns : List Nd) (f i j : Nat) (hf : f ≤ ns.length + 1) (h : endF ns f i = some j) : endE ns i = some j := endF_more ns f _ i j hf h
/-- What a valid part's node and its parts are. -/
theorem part_cases (ns : List Nd) (f i j : Nat) (h : endF ns (f + 1) i = some j) : ∃ n, ns[i]? = some n ∧ i < ns.length ∧
    ((prt n.op = 0 ∧ j = i + 1) ∨ (prt n.op = 1 ∧ endF ns f (i + 1) = some j) ∨ (prt n.op = 2 ∧ ∃ k, endF ns f (i + 1) = some k ∧ endF ns f k = some j)) := by
  rw [endF] at h
  cases hn : ns[i]? with
  | none => rw [hn] at h; simp at h
  | some n =>
    have hi : i < ns.length := by
      rcases Nat.lt_or_ge i ns.length with h' | h'
      · exact h'
      · rw [List.getElem?_eq_none h'] at hn; cases hn
    refine ⟨n, rfl, hi, ?_⟩
    rw [hn] at h
    simp only at h
    have hp : prt n.op ≤ 2 := prt_le n.op
    split at h
    · rename_i h0
      exact Or.inl ⟨h0, by simpa using h.symm⟩
    · split at h
      · rename_i h1
        exact Or.inr (Or.inl ⟨h1, h⟩)
      · rename_i h0 h1
        cases h2 : endF ns f (i + 1) with
        | none => rw [h2] at h; simp at h
        | some k => rw [h2] at h; exact Or.inr (Or.inr ⟨by omega, k, rfl, by simpa using h⟩)
theorem prt_two (op : Int) : prt op = 2 ↔ op = 3 ∨ op = 4 := by
  unfold prt
  split
  · rename_i h; simp [h]
  · rename_i h
    split <;> simp [h]
theorem prt_one (op : Int) : prt op = 1 ↔ op = 5 ∨ op = 6 ∨ op = 7 := by
  unfold prt
  split
  · rename_i h
    simp
    omega
  · split
    · rename_i h; simp [h]
    · rename_i h; simp [h]
/-- May the part at i be nothing? -/
def empF (ns : List Nd) : Nat → Nat → Bool
  | 0, _ => true
  | f + 1, i =>
    match ns[i]? with
    | none => true
    | some n => if n.op = 1 then false else if n.op = 3 then empF ns f (i + 1) && empF ns f ((endE ns (i + 1)).getD 0) else if n.op = 4 then empF ns f (i + 1) || empF ns f ((endE ns (i + 1)).getD 0) else if n.op = 6 then empF ns f (i + 1) else true
theorem empF_at (ns : List Nd) (f i : Nat) (n : Nd) (hn : ns[i]? = some n) : empF ns (f + 1) i = if n.op = 1 then false else if n.op = 3 then empF ns f (i + 1) && empF ns f ((endE ns (i + 1)).getD 0) else if n.op = 4 then empF ns f (i + 1) || empF ns f ((endE ns (i + 1)).getD 0) else if n.op = 6 then empF ns f (i + 1) else true := by
  rw [empF, hn]
theorem arg_succ (i : Nat) : ((i + 1 : Nat) : Int) = (i : Int) + 1 := by omega
/-- May a pattern be nothing? -/
def empE (ns : List Nd) : Bool := empF ns (ns.length + 1) 0
/-- What is wrong with the nodes, one by one. -/
def scanL : List Nd → Int
  | [] => 0
  | n :: r => if n.op < 1 ∨ 9 < n.op then 1 else if ¬ n.op = 1 ∧ ¬ n.c.eqb z4 = true then 2 else scanL r
/-- What is wrong with a pattern. -/
def faultL (ns : List Nd) : Int := if 60 < ns.length then 3 else if scanL ns ≠ 0 then scanL ns else if ns = [] ∨ endE ns 0 ≠ some ns.length then 2 else 0
def NdOk (ns : List Nd) : Prop := ∀ n ∈ ns, n.c.ok
theorem cnt_zero_iff {k : C4} (hk : k.ok) : ((0 : Int) < ((cnt k.has 256 : Nat) : Int)) ↔ ¬ k.eqb z4 = true := by
  rw [C4.eqb_iff]
  constructor
  · intro h e
    subst e
    have : cnt z4.has 256 = cnt (fun _ => false) 256 := cnt_congr _ _ _ (fun i _ => z4_has i)
    have h0 : ∀ n, cnt (fun _ => false) n = 0 := by
      intro n
      induction n with
      | zero => rfl
      | succ n ih => rw [cnt, ih]; rfl
    rw [this, h0] at h
    omega
  · intro h
    rcases Nat.eq_zero_or_pos (cnt k.has 256) with h0 | h0
    · exfalso
      apply h
      apply C4.ext_has hk z4_ok
      intro i hi
      rw [cnt_pos k.has 256 h0 i hi, z4_has]
    · omega
theorem scan_drop (ns : List Nd) (i : Nat) (n : Nd) (hn : ns[i]? = some n) : scanL (ns.drop i) = if n.op < 1 ∨ 9 < n.op then 1 else if ¬ n.op = 1 ∧ ¬ n.c.eqb z4 = true then 2 else scanL (ns.drop (i + 1)) := by
  have hi : i < ns.length := by
    rcases Nat.lt_or_ge i ns.length with h | h
    · exact h
    · rw [List.getElem?_eq_none h] at hn; cases hn
  rw [List.drop_eq_getElem_cons hi]
  rw [List.getElem?_eq_getElem hi] at hn
  rw [Option.some.inj hn, scanL]
abbrev Nd.cells (n : Nd) : Array Value := #[.int .i64 n.op, .int .u64 n.c.a, .int .u64 n.c.b, .int .u64 n.c.c, .int .u64 n.c.d]
abbrev Nd.v (n : Nd) : Value := .agg #[.int .i64 n.op, .int .u64 n.c.a, .int .u64 n.c.b, .int .u64 n.c.c, .int .u64 n.c.d]
def Nd.eqb (n m : Nd) : Bool := n.op == m.op && n.c.eqb m.c
theorem Nd.eqb_iff (n m : Nd) : n.eqb m = true ↔ n = m := by
  unfold Nd.eqb
  rw [Bool.and_eq_true, C4.eqb_iff, beq_iff_eq]
  cases n; cases m
  simp
def nsEq : List Nd → List Nd → Bool
  | [], [] => true
  | n :: r, m :: q => n.eqb m && nsEq r q
  | _, _ => false
theorem nsEq_iff : ∀ (x y : List Nd), nsEq x y = true ↔ x = y
  | [], [] => by simp [nsEq]
  | [], m :: q => by simp [nsEq]
  | n :: r, [] => by simp [nsEq]
  | n :: r, m :: q => by
    rw [nsEq, Bool.and_eq_true, Nd.eqb_iff, nsEq_iff r q]
    simp
theorem nsEq_len (x y : List Nd) (h : x.length ≠ y.length) : nsEq x y = false := by
  cases e : nsEq x y
  · rfl
  · rw [nsEq_iff] at e; rw [e] at h; exact absurd rfl h
theorem nsEq_drop (x y : List Nd) (i : Nat) (n m : Nd) (hn : x[i]? = some n) (hm : y[i]? = some m) : nsEq (x.drop i) (y.drop i) = (n.eqb m && nsEq (x.drop (i + 1)) (y.drop (i + 1))) := by
  have hi : i < x.length := by
    rcases Nat.lt_or_ge i x.length with h | h
    · exact h
    · rw [List.getElem?_eq_none h] at hn; cases hn
  have hj : i < y.length := by
    rcases Nat.lt_or_ge i y.length with h | h
    · exact h
    · rw [List.getElem?_eq_none h] at hm; cases hm
  rw [List.drop_eq_getElem_cons hi, List.drop_eq_getElem_cons hj, nsEq]
  rw [List.getElem?_eq_getElem hi] at hn
  rw [List.getElem?_eq_getElem hj] at hm
  rw [Option.some.inj hn, Option.some.inj hm]
/-- Begin and End exchanged. -/
def flipOp (op : Int) : Int := if op = 8 then 9 else if op = 9 then 8 else op
def Nd.flip (n : Nd) : Nd := ⟨flipOp n.op, n.c⟩
/-- The part at i, turned. -/
def turF (ns : List Nd) : Nat → Nat → List Nd
  | 0, _ => []
  | f + 1, i =>
    match ns[i]? with
    | none => []
    | some n => n.flip :: (if prt n.op = 1 then turF ns f (i + 1) else if n.op = 3 then turF ns f ((endE ns (i + 1)).getD 0) ++ turF ns f (i + 1) else if n.op = 4 then turF ns f (i + 1) ++ turF ns f ((endE ns (i + 1)).getD 0) else [])
theorem turF_at (ns : List Nd) (f i : Nat) (n : Nd) (hn : ns[i]? = some n) : turF ns (f + 1) i = n.flip :: (if prt n.op = 1 then turF ns f (i + 1) else if n.op = 3 then turF ns f ((endE ns (i + 1)).getD 0) ++ turF ns f (i + 1) else if n.op = 4 then turF ns f (i + 1) ++ turF ns f ((endE ns (i + 1)).getD 0) else []) := by
  rw [turF, hn]
theorem turF_len (ns : List Nd) : ∀ (f i j : Nat), f ≤ ns.length + 1 → endF ns f i = some j → (turF ns f i).length = j - i
  | 0, i, j, _, h => by simp [endF] at h
  | f + 1, i, j, hf, h => by
    obtain ⟨n, hn, hil, hc⟩ := part_cases ns f i j h
    rw [turF_at ns f i n hn, List.length_cons]
    rcases hc with ⟨h0, rfl⟩ | ⟨h0, h1⟩ | ⟨h0, k, h1, h2⟩
    · have e3 : ¬ n.op = 3 := by intro e; rw [e] at h0; simp [prt] at h0
      have e4 : ¬ n.op = 4 := by intro e; rw [e] at h0; simp [prt] at h0
      rw [if_neg (by omega), if_neg e3, if_neg e4]
      simp
    · have := turF_len ns f _ _ (by omega) h1
      have g1 := endF_gt ns f _ _ h1
      rw [if_pos h0]
      omega
    · have a1 := turF_len ns f _ _ (by omega) h1
      have a2 := turF_len ns f _ _ (by omega) h2
      have g1 := endF_gt ns f _ _ h1
      have g2 := endF_gt ns f _ _ h2
      have ek := endE_of ns f (i + 1) k (by omega) h1
      rw [if_neg (by omega), ek]
      rcases (prt_two n.op).1 h0 with e3 | e4
      · rw [if_pos e3]; simp; omega
      · rw [if_neg (by omega), if_pos e4]; simp; omega
/-- The nodes' cells, one behind the other. -/
def nsCells : List Nd → List Value
  | [] => []
  | n :: r => [.int .i64 n.op, .int .u64 n.c.a, .int .u64 n.c.b, .int .u64 n.c.c, .int .u64 n.c.d] ++ nsCells r
theorem nsCells_append : ∀ (x y : List Nd), nsCells (x ++ y) = nsCells x ++ nsCells y
  | [], y => rfl
  | n :: r, y => by simp [nsCells, nsCells_append r y]
theorem nsCells_len : ∀ (x : List Nd), (nsCells x).length = x.length * 5
  | [] => rfl
  | n :: r => by simp [nsCells, nsCells_len r]; omega
theorem nsCells_one : ∀ (x : List Nd), ∀ u ∈ nsCells x, u.oneCell' = true
  | [], u, h => by simp [nsCells] at h
  | n :: r, u, h => by
    rw [nsCells, List.mem_append] at h
    rcases h with h | h
    · simp at h
      rcases h with rfl | rfl | rfl | rfl | rfl <;> rfl
    · exact nsCells_one r u h
theorem nsCells_get : ∀ (x : List Nd) (i : Nat) (n : Nd), x[i]? = some n → (nsCells x)[i * 5]? = some (.int .i64 n.op) ∧ (nsCells x)[i * 5 + 1]? = some (.int .u64 n.c.a) ∧ (nsCells x)[i * 5 + 2]? = some (.int .u64 n.c.b) ∧ (nsCells x)[i * 5 + 3]? = some (.int .u64 n.c.c) ∧ (nsCells x)[i * 5 + 4]? = some (.int .u64 n.c.d)
  | [], i, n, h => by simp at h
  | m :: r, 0, n, h => by
    simp at h
    subst h
    simp [nsCells]
  | m :: r, i + 1, n, h => by
    have ih := nsCells_get r i n (by simpa using h)
    have e : ∀ t, (nsCells (m :: r))[(i + 1) * 5 + t]? = (nsCells r)[i * 5 + t]? := by
      intro t
      rw [nsCells, List.getElem?_append_right (by simp; omega)]
      congr 1
      simp
      omega
    have e0 := e 0
    simp only [Nat.add_zero] at e0
    rw [e0, e 1, e 2, e 3, e 4]
    exact ih
/-- A slice of the call's own that holds the nodes ns. -/
def NsOwn (w : World) (base : Nat) (v : Value) (ns : List Nd) : Prop := w.ownsRow base 44 5 v ns.length (nsCells ns)
theorem NsOwn.below {w w' : World} {base : Nat} {v : Value} {ns : List Nd} (h : NsOwn w base v ns) (hb : Below w.heap.size w w') : NsOwn w' base v ns := by
  refine World.ownsRow.kept (row := none) h ⟨hb.os, hb.tape, hb.output, hb.size, fun k hk _ => hb.block k hk⟩ ?_
  cases hv : v.ownBlock with
  | none => exact Or.inl rfl
  | some x => exact Or.inr (by simp)
theorem NsOwn.form {w : World} {base : Nat} {v : Value} {ns : List Nd} (h : NsOwn w base v ns) (h0 : 0 < ns.length) : ∃ g cap, v = .slice (some ⟨g, 0, none⟩) ns.length cap ∧ base ≤ g ∧ g < w.heap.size ∧ ∀ j u, (nsCells ns)[j]? = some u → w.cell? ⟨g, j, none⟩ = some u := by
  rcases h.2 with ⟨_, h1⟩ | ⟨g, cap, cur, hv, hb, hg, _, _, hs, ht⟩
  · omega
  · refine ⟨g, cap, hv, hb, ?_, ?_⟩
    · rcases Nat.lt_or_ge g w.heap.size with hlt | hge
      · exact hlt
      · rw [Array.getElem?_eq_none hge] at hg; cases hg
    · intro j u hj
      have hjl : j < (nsCells ns).length := by
        rcases Nat.lt_or_ge j (nsCells ns).length with h' | h'
        · exact h'
        · rw [List.getElem?_eq_none h'] at hj; cases hj
      rw [Lib.cell_of_heap hg]
      rw [← ht, List.getElem?_take] at hj
      split at hj
      · simpa using hj
      · cases hj
theorem NsOwn.isIn {w : World} {base : Nat} {v : Value} {ns : List Nd} (h : NsOwn w base v ns) (hm : ns.length ≤ maxLen) : NsIn w v ns := by
  rcases Nat.eq_zero_or_pos ns.length with h0 | h0
  · have e : ns = [] := List.eq_nil_of_length_eq_zero h0
    subst e
    rcases h.2 with ⟨hv, _⟩ | ⟨g, cap, cur, hv, _⟩
    · exact ⟨none, 0, hv, hm, Or.inl rfl⟩
    · exact ⟨_, cap, hv, hm, Or.inl rfl⟩
  · obtain ⟨g, cap, hv, _, hlt, hc⟩ := h.form h0
    refine ⟨_, cap, hv, hm, Or.inr ⟨g, 0, rfl, hlt, ?_⟩⟩
    intro i n hn
    obtain ⟨c0, c1, c2, c3, c4⟩ := nsCells_get ns i n hn
    refine ⟨?_, ?_, ?_, ?_, ?_⟩
    · rw [Nat.zero_add]; exact hc _ _ c0
    · rw [Nat.zero_add]; exact hc _ _ c1
    · rw [Nat.zero_add]; exact hc _ _ c2
    · rw [Nat.zero_add]; exact hc _ _ c3
    · rw [Nat.zero_add]; exact hc _ _ c4
/-- The pattern, turned. -/
def turE (ns : List Nd) : List Nd := turF ns (ns.length + 1) 0
theorem turE_len (ns : List Nd) (hv : endE ns 0 = some ns.length) : (turE ns).length = ns.length := turF_len ns _ 0 _ (Nat.le_refl _) hv
end Go.Proofs.YtphcncgdodhlbaaDoor
namespace Go.Proofs.YtphcncgdodhlbaaDoor
set_option linter.unusedSimpArgs false
set_option linter.unusedVariables false
set_option maxRecDepth 100000
open Go.ChangeShapes Go.WideShapes Go.ChangeAt Go.RowKit

theorem own : ownKnob Tryd.prog.godebug = none := by kernel_rfl
theorem cellsClass : Tryd.prog.cellsOf 42 = 4 := by kernel_rfl
theorem cellsWord : Tryd.prog.cellsOf 40 = 1 := by kernel_rfl
theorem list4 {α : Type} (l : List α) (h : (⟨l⟩ : Array α).size = 4) : ∃ a b c d, l = [a, b, c, d] := by
  match l, h with
  | [a, b, c, d], _ => exact ⟨a, b, c, d, rfl⟩
theorem okW_wf {x : Int} (h : (Lit.int .u64 x).wf = true) : okW x := by
  have := bounds_u64 h
  unfold okW
  omega
def dat {H : Type} (k : C4) : DataW H := .agg [.lit (.int .u64 k.a), .lit (.int .u64 k.b), .lit (.int .u64 k.c), .lit (.int .u64 k.d)]
def C4.wf (k : C4) : Prop := (Lit.int .u64 k.a).wf = true ∧ (Lit.int .u64 k.b).wf = true ∧ (Lit.int .u64 k.c).wf = true ∧ (Lit.int .u64 k.d).wf = true
theorem C4.wf_ok {k : C4} (h : k.wf) : k.ok := ⟨okW_wf h.1, okW_wf h.2.1, okW_wf h.2.2.1, okW_wf h.2.2.2⟩
set_option maxRecDepth 100000 in
theorem open_class {H : Type} {enc : TypeId × Value → H} {W : World} {base : Nat} {sp : Nat → Bool} {held : Bool} {v : Value} {d : DataW H} {p : List MemPlace}
    (hval : Value.okWide Tryd.prog W .any base 42 v) (h : DataW.Trod enc Tryd.prog W 0 sp held 42 v d p) : ∃ k : C4, v = k.v ∧ d = dat k ∧ p = [] ∧ k.wf := by
  obtain ⟨cs, rfl, hsz, _⟩ : ∃ cs, v = .agg cs ∧ cs.size = Tryd.prog.cellsOf 42 ∧ Row.okWide Tryd.prog W .any base 42 cs := by
    have h' := hval
    unfold Value.okWide at h'
    rw [Tryd.underlying42] at h'
    exact h'
  rw [cellsClass] at hsz
  obtain ⟨l⟩ := cs
  obtain ⟨c0, c1, c2, c3, rfl⟩ := list4 l hsz
  obtain ⟨fuel, hf⟩ := h
  obtain ⟨y0, y1, y2, y3, m, hx, hy0, hy1, hy2, hy3⟩ := trod_array4 Tryd.underlying42 cellsWord hf
  obtain ⟨x0, e0, rfl, w0⟩ := DataW.trod_int Tryd.underlying40 hy0
  obtain ⟨x1, e1, rfl, w1⟩ := DataW.trod_int Tryd.underlying40 hy1
  obtain ⟨x2, e2, rfl, w2⟩ := DataW.trod_int Tryd.underlying40 hy2
  obtain ⟨x3, e3, rfl, w3⟩ := DataW.trod_int Tryd.underlying40 hy3
  simp at e0 e1 e2 e3
  subst e0 e1 e2 e3
  simp only [Prod.mk.injEq] at hx
  obtain ⟨rfl, rfl⟩ := hx
  exact ⟨⟨x0, x1, x2, x3⟩, rfl, rfl, rfl, w0, w1, w2, w3⟩
theorem shut_class {H : Type} {enc : TypeId × Value → H} {W : World} {base : Nat} {sp : Nat → Bool} {held : Bool} {k : C4} (hk : k.wf) : DataW.Trod enc Tryd.prog W base sp held 42 k.v (dat k) [] := by
  obtain ⟨w0, w1, w2, w3⟩ := hk
  exact ⟨2, by simp [DataW.trod, Value.cells, dat, Tryd.underlying42, Tryd.underlying40, cellsClass, cellsWord, w0, w1, w2, w3, show List.range 4 = [0, 1, 2, 3] from rfl]⟩

end Go.Proofs.YtphcncgdodhlbaaDoor
namespace Go.Proofs.YtphcncgdodhlbaaDoor
set_option linter.unusedSimpArgs false
set_option linter.unusedVariables false
set_option maxRecDepth 100000
open Go.ChangeShapes Go.WideShapes Go.ChangeAt Go.RowKit Go.Deep

theorem cellsNode : Tryd.prog.cellsOf 44 = 5 := by kernel_rfl
theorem cellsInt : Tryd.prog.cellsOf 3 = 1 := by kernel_rfl
def Nd.wf (n : Nd) : Prop := (Lit.int .i64 n.op).wf = true ∧ n.c.wf
instance : Inhabited Nd := ⟨⟨0, ⟨0, 0, 0, 0⟩⟩⟩
theorem open_node {H : Type} {enc : TypeId × Value → H} {W : World} {base : Nat} {sp : Nat → Bool} {held : Bool} {fuel : Nat} {cs : List Value} {x : DataW H × List MemPlace}
    (h : DataW.trod enc Tryd.prog W base sp held fuel 44 cs = some x) : ∃ n : Nd, cs = [.int .i64 n.op, .int .u64 n.c.a, .int .u64 n.c.b, .int .u64 n.c.c, .int .u64 n.c.d] ∧ n.wf := by
  obtain ⟨y0, y1, k, hxy, hl, u0, u1⟩ := trod_struct2 Tryd.underlying44 h
  rw [cellsNode] at hl
  match cs, hl with
  | [c0, c1, c2, c3, c4], _ =>
    simp only [cellsInt, cellsClass, List.drop, List.take] at u0 u1
    obtain ⟨q, e0, d0, w⟩ := DataW.trod_int Tryd.underlying3 u0
    obtain ⟨z0, z1, z2, z3, m, hx, hy0, hy1, hy2, hy3⟩ := trod_array4 Tryd.underlying42 cellsWord u1
    obtain ⟨x0, e1, _, w0⟩ := DataW.trod_int Tryd.underlying40 hy0
    obtain ⟨x1, e2, _, w1⟩ := DataW.trod_int Tryd.underlying40 hy1
    obtain ⟨x2, e3, _, w2⟩ := DataW.trod_int Tryd.underlying40 hy2
    obtain ⟨x3, e4, _, w3⟩ := DataW.trod_int Tryd.underlying40 hy3
    simp only [List.cons.injEq, and_true] at e0 e1 e2 e3 e4
    subst e0 e1 e2 e3 e4
    exact ⟨⟨q, ⟨x0, x1, x2, x3⟩⟩, rfl, w, w0, w1, w2, w3⟩
theorem open_nodes {H : Type} {enc : TypeId × Value → H} {W : World} {base : Nat} {sp : Nat → Bool} {held : Bool} {v : Value} {d : DataW H} {p : List MemPlace}
    (hval : Value.okWide Tryd.prog W .any base 22 v) (h : DataW.Trod enc Tryd.prog W 0 sp held 22 v d p) : ∃ ns : List Nd, NsIn W v ns ∧ ∀ n ∈ ns, n.wf := by
  obtain ⟨a0, len0, cap0, rfl⟩ := okWide_slice Tryd.underlying22 hval
  obtain ⟨fuel, hf⟩ := h
  rcases open_slice Tryd.underlying22 hf with ⟨hc, _⟩ | ⟨a, len, cap, m, n, D, Pl, hc, hb, hl, hm, hmm, _, hx⟩
  · simp [Value.cells] at hc
    obtain ⟨rfl, rfl, rfl⟩ := hc
    exact ⟨[], ⟨none, 0, rfl, by simp, Or.inl rfl⟩, by simp⟩
  · simp [Value.cells] at hc
    obtain ⟨rfl, rfl, rfl⟩ := hc
    have hlm : len0 ≤ m := by rw [hmm]; split <;> omega
    have each : ∀ i, i < len0 → ∃ n : Nd, W.cells? 0 (a.add (i * 5)) 5 = some [.int .i64 n.op, .int .u64 n.c.a, .int .u64 n.c.b, .int .u64 n.c.c, .int .u64 n.c.d] ∧ n.wf := by
      intro i hi
      obtain ⟨cs', h1, h2⟩ := hx i (by omega)
      rw [cellsNode] at h1
      obtain ⟨n, rfl, hw⟩ := open_node h2
      exact ⟨n, h1, hw⟩
    obtain ⟨q, hq⟩ := choose_lt each
    refine ⟨(List.range len0).map q, ⟨some a, cap0, by simp, by simp; omega, ?_⟩, ?_⟩
    · rcases Nat.eq_zero_or_pos len0 with h0 | h0
      · subst h0; exact Or.inl rfl
      right
      obtain ⟨b, off, spot⟩ := a
      have cells : ∀ i, i < len0 → ∀ j, j < 5 → W.cell? ((⟨b, off, spot⟩ : Addr).add (i * 5 + j)) = [Value.int .i64 (q i).op, .int .u64 (q i).c.a, .int .u64 (q i).c.b, .int .u64 (q i).c.c, .int .u64 (q i).c.d][j]? := by
        intro i hi j hj
        obtain ⟨_, _, hcell⟩ := World.cells?_some (hq i hi).1
        have := hcell j hj
        rwa [add_add] at this
      have hspot : spot = none := by
        have := cells 0 h0 0 (by omega)
        simpa [Addr.add] using World.cell?_spot this
      subst hspot
      have plain : ∀ k, (⟨b, off, none⟩ : Addr).add k = ⟨b, off + k, none⟩ := by
        intro k
        rcases k with _ | k <;> simp [Addr.add]
      refine ⟨b, off, rfl, ?_, ?_⟩
      · have := cells 0 h0 0 (by omega)
        rw [plain] at this
        rcases Nat.lt_or_ge b W.heap.size with h' | h'
        · exact h'
        · simp [World.cell?, Array.getElem?_eq_none h'] at this
      · intro i n hn
        have hi : i < len0 := by
          rcases Nat.lt_or_ge i len0 with h' | h'
          · exact h'
          · simp [h'] at hn
        have en : q i = n := by simpa [hi] using hn
        subst en
        have c := cells i hi
        refine ⟨?_, ?_, ?_, ?_, ?_⟩
        · have := c 0 (by omega); rw [plain] at this; simpa [Nat.add_assoc] using this
        · have := c 1 (by omega); rw [plain] at this; simpa [Nat.add_assoc] using this
        · have := c 2 (by omega); rw [plain] at this; simpa [Nat.add_assoc] using this
        · have := c 3 (by omega); rw [plain] at this; simpa [Nat.add_assoc] using this
        · have := c 4 (by omega); rw [plain] at this; simpa [Nat.add_assoc] using this
    · intro n hn
      obtain ⟨i, hi, rfl⟩ := List.mem_map.1 hn
      exact (hq i (List.mem_range.1 hi)).2
end Go.Proofs.YtphcncgdodhlbaaDoor
namespace Go.Proofs.YtphcncgdodhlbaaDoor
set_option linter.unusedSimpArgs false
set_option linter.unusedVariables false
open Go.RowKit

abbrev hnd (t : Nat) : Value := .pointer (some ⟨2, t, none⟩)
abbrev rty (t : Nat) : Value := .iface 159 (.agg #[hnd t])
theorem x_valueOfPtr (a : Addr) (w : World) : (callFunc 53 #[.iface 84 (.pointer (some a))]).run Tryd.prog w = .ok (.value (.agg #[hnd 84, .pointer (some ⟨w.heap.size, 0, none⟩), .int .u64 150])) (w.alloc (.cells #[.pointer (some a)] 84)) := by kernel_rfl
theorem x_valueOfErr (n : Int) (w : World) : (callFunc 53 #[.iface 23 (.int .i64 n)]).run Tryd.prog w = .ok (.value (.agg #[hnd 23, .pointer (some ⟨w.heap.size, 0, none⟩), .int .u64 130])) (w.alloc (.cells #[.int .i64 n] 23)) := by kernel_rfl
theorem x_type (a : Addr) (w : World) : (callFunc 54 #[.agg #[hnd 84, .pointer (some a), .int .u64 150]]).run Tryd.prog w = .ok (.value (rty 84)) w := by kernel_rfl
theorem x_typeOf (n : Int) (w : World) : (callFunc 57 #[.iface 23 (.int .i64 n)]).run Tryd.prog w = .ok (.value (rty 23)) w := by kernel_rfl
theorem x_kindP (w : World) : (callFunc 107 #[hnd 84]).run Tryd.prog w = .ok (.value (.int .u8 22)) w := by kernel_rfl
theorem x_kindE (w : World) : (callFunc 107 #[hnd 23]).run Tryd.prog w = .ok (.value (.int .u8 2)) w := by kernel_rfl
theorem x_elem (w : World) : (callFunc 117 #[.agg #[hnd 84]]).run Tryd.prog w = .ok (.value (rty 23)) w := by kernel_rfl
theorem x_impl (w : World) : (callFunc 118 #[.agg #[hnd 23], rty 32]).run Tryd.prog w = .ok (.value (.bool true)) w := by kernel_rfl
theorem x_assign (w : World) : (callFunc 115 #[.agg #[hnd 23], rty 23]).run Tryd.prog w = .ok (.value (.bool true)) w := by kernel_rfl
theorem m_kind (t : Nat) (w : World) : (method 312 159 (.agg #[hnd t]) "Kind").run Tryd.prog w = .ok (107, hnd t) w := by kernel_rfl
theorem m_elem (t : Nat) (w : World) : (method 312 159 (.agg #[hnd t]) "Elem").run Tryd.prog w = .ok (117, .agg #[hnd t]) w := by kernel_rfl
theorem m_impl (t : Nat) (w : World) : (method 312 159 (.agg #[hnd t]) "Implements").run Tryd.prog w = .ok (118, .agg #[hnd t]) w := by kernel_rfl
theorem m_assign (t : Nat) (w : World) : (method 312 159 (.agg #[hnd t]) "AssignableTo").run Tryd.prog w = .ok (115, .agg #[hnd t]) w := by kernel_rfl
end Go.Proofs.YtphcncgdodhlbaaDoor
namespace Go.Proofs.YtphcncgdodhlbaaDoor
set_option linter.unusedSimpArgs false
set_option linter.unusedVariables false
open Go.RowKit

theorem parts_ptr (a : Addr) (w : World) : (Extern.ReflectliteValue.parts (.agg #[hnd 84, .pointer (some a), .int .u64 150])).run Tryd.prog w = .ok (some (84, a, 150)) w := by kernel_rfl
theorem parts_dst (a : Addr) (w : World) : (Extern.ReflectliteValue.parts (.agg #[hnd 23, .pointer (some a), .int .u64 386])).run Tryd.prog w = .ok (some (23, a, 386)) w := by kernel_rfl
theorem parts_src (a : Addr) (w : World) : (Extern.ReflectliteValue.parts (.agg #[hnd 23, .pointer (some a), .int .u64 130])).run Tryd.prog w = .ok (some (23, a, 130)) w := by kernel_rfl
theorem load_ptr (a p : Addr) (w : World) (h : w.cell? a = some (.pointer (some p))) : (loadVar 84 a).run Tryd.prog w = .ok (.pointer (some p)) w := by
  go_simp
theorem load_err (a : Addr) (n : Int) (w : World) (h : w.cell? a = some (.int .i64 n)) : (loadVar 23 a).run Tryd.prog w = .ok (.int .i64 n) w := by
  go_simp
theorem x_isNil (a p : Addr) (w : World) (h : w.cell? a = some (.pointer (some p))) : (callFunc 55 #[.agg #[hnd 84, .pointer (some a), .int .u64 150]]).run Tryd.prog w = .ok (.value (.bool false)) w := by
  rw [run_callFunc_extern Tryd.func55 (by kernel_rfl) (by kernel_rfl) (by kernel_rfl) (e := Extern.ReflectliteValue.method (Extern.ReflectliteValue.valueError "reflectlite.Value.IsNil" 0) Extern.ReflectliteValue.isNil) (by kernel_rfl)]
  have hp := parts_ptr a w
  have hl := load_ptr a p w h
  change (Sem.run Tryd.prog (Extern.ReflectliteValue.parts (.agg #[hnd 84, .pointer (some a), .int .u64 150]) >>= _) w).andThen _ = _
  rw [Sem.run_bind, hp]
  simp [Extern.ReflectliteValue.isNil, hl]
theorem x_elemV (a p : Addr) (w : World) (h : w.cell? a = some (.pointer (some p))) : (callFunc 77 #[.agg #[hnd 84, .pointer (some a), .int .u64 150]]).run Tryd.prog w = .ok (.value (.agg #[hnd 23, .pointer (some p), .int .u64 386])) w := by
  rw [run_callFunc_extern Tryd.func77 (by kernel_rfl) (by kernel_rfl) (by kernel_rfl) (e := Extern.ReflectliteValue.method (Extern.ReflectliteValue.valueError "reflectlite.Value.Elem" 0) Extern.ReflectliteValue.elem) (by kernel_rfl)]
  have hp := parts_ptr a w
  have hl := load_ptr a p w h
  have he : ∀ w, (Extern.Rtype.elem? 84).run Tryd.prog w = .ok (some 23) w := fun w => by kernel_rfl
  have hm : ∀ w, (Extern.ReflectliteValue.mk 23 p Extern.ReflectliteValue.flagAddr).run Tryd.prog w = .ok (.agg #[hnd 23, .pointer (some p), .int .u64 386]) w := fun w => by kernel_rfl
  change (Sem.run Tryd.prog (Extern.ReflectliteValue.parts (.agg #[hnd 84, .pointer (some a), .int .u64 150]) >>= _) w).andThen _ = _
  rw [Sem.run_bind, hp]
  simp [Extern.ReflectliteValue.elem, hl, he, hm]
theorem x_set (a b : Addr) (n m : Int) (w : World) (h : w.cell? a = some (.int .i64 m)) (hf : w.frozen? a = false) (hb : w.cell? b = some (.int .i64 n)) : (callFunc 78 #[.agg #[hnd 23, .pointer (some a), .int .u64 386], .agg #[hnd 23, .pointer (some b), .int .u64 130]]).run Tryd.prog w = .ok (.value (.tuple #[])) (w.setCell a (.int .i64 n)) := by
  rw [run_callFunc_extern Tryd.func78 (by kernel_rfl) (by kernel_rfl) (by kernel_rfl) (e := Extern.ReflectliteValue.set) (by kernel_rfl)]
  have hd := parts_dst a w
  have hs := parts_src b w
  have hl := load_err b n w hb
  have hda : ∀ w, (Extern.Rtype.directlyAssignable 23 23).run Tryd.prog w = .ok true w := fun w => by kernel_rfl
  have hst : (storeVar 23 a (.int .i64 n)).run Tryd.prog w = .ok () (w.setCell a (.int .i64 n)) := by go_simp
  change (Sem.run Tryd.prog (Extern.ReflectliteValue.parts (.agg #[hnd 23, .pointer (some a), .int .u64 386]) >>= _) w).andThen _ = _
  rw [Sem.run_bind, hd, Result.andThen_ok]
  change (Sem.run Tryd.prog (Extern.ReflectliteValue.parts (.agg #[hnd 23, .pointer (some b), .int .u64 130]) >>= _) w).andThen _ = _
  rw [Sem.run_bind, hs, Result.andThen_ok]
  simp [Extern.ReflectliteValue.flagAddr, hl, hda, hst]
end Go.Proofs.YtphcncgdodhlbaaDoor
namespace Go.Proofs.YtphcncgdodhlbaaDoor
/-- An error as the program hands it back: nil where the number is 0. -/
def errV (n : Int) : Value := if n = 0 then .nilIface else .iface 23 (.int .i64 n)
end Go.Proofs.YtphcncgdodhlbaaDoor
