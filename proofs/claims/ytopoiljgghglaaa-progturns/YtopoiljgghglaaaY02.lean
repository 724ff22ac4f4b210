/- Plain mathematics of classes, third part: what a class has; and, or, not, add; how many. Patterns: lists of nodes, in memory; parts and ends, faults, what may be nothing, turned. No function of the program. Programs: lists of steps, in memory; their faults. No function of the program. -/
import Derived.Test.YtopoiljgghglaaaY01
import Derived.Deep.AppendLies
namespace Go.Proofs.Ytopoiljgghglaaa
set_option linter.unusedSimpArgs false
set_option linter.unusedVariables false
open Go.RowKit

def okW (x : Int) : Prop := 0 ≤ x ∧ x < 18446744073709551616
def C4.ok (k : C4) : Prop := okW k.a ∧ okW k.b ∧ okW k.c ∧ okW k.d
theorem C4.ok_w {k : C4} (h : k.ok) (i : Nat) : okW (k.w i) := by
  unfold C4.w
  split
  · exact h.1
  · split
    · exact h.2.1
    · split
      · exact h.2.2.1
      · exact h.2.2.2
/-- What a class has. -/
def C4.has (k : C4) (i : Nat) : Bool := (k.w (i / 64)).toNat.testBit (i % 64)

theorem okW_nat {x : Int} (h : okW x) : ∃ n : Nat, x = (n : Int) ∧ n < 18446744073709551616 := by
  unfold okW at h
  exact ⟨x.toNat, by omega, by omega⟩
theorem tb_eq (n j : Nat) : n.testBit j = decide (n / 2 ^ j % 2 = 1) := by
  rw [Nat.testBit_eq_decide_div_mod_eq]
theorem bit_and1 (n j : Nat) (h : n < 18446744073709551616) : (bits .and .u64 ((n : Int) / 2 ^ j) 1 == 1) = n.testBit j := by
  have e : (n : Int) / 2 ^ j = ((n / 2 ^ j : Nat) : Int) := by rw [Int.natCast_ediv, Int.natCast_pow]; rfl
  have hl : n / 2 ^ j < 18446744073709551616 := Nat.lt_of_le_of_lt (Nat.div_le_self _ _) h
  have a1 := u64_and_nat (n / 2 ^ j) 1 hl (by omega)
  rw [e, show (1 : Int) = ((1 : Nat) : Int) from rfl, a1, nat_mask1, tb_eq]
  generalize n / 2 ^ j % 2 = z
  by_cases hz : z = 1
  · simp [hz]
  · simp only [hz, decide_false]
    rw [beq_eq_false_iff_ne]
    intro e
    exact hz (Int.ofNat_inj.1 e)
theorem C4.hasI_eq (k : C4) (h : k.ok) (i : Nat) : k.hasI (i : Int) = k.has i := by
  obtain ⟨n, hn, hl⟩ := okW_nat (C4.ok_w h (i / 64))
  have e1 : ((i : Int) / 64).toNat = i / 64 := by omega
  have e2 : ((i : Int) % 64).toNat = i % 64 := by omega
  unfold C4.hasI C4.has
  rw [e1, e2, hn, Int.toNat_natCast]
  exact bit_and1 n _ hl
theorem C4.p_eq (k : C4) (h : k.ok) : k.p = k.has := by
  funext i
  exact C4.hasI_eq k h i

theorem word_ext {x y : Int} (hx : okW x) (hy : okW y) (h : ∀ j, j < 64 → x.toNat.testBit j = y.toNat.testBit j) : x = y := by
  obtain ⟨n, rfl, hn⟩ := okW_nat hx
  obtain ⟨m, rfl, hm⟩ := okW_nat hy
  simp only [Int.toNat_natCast] at h
  have : n = m := by
    apply Nat.eq_of_testBit_eq
    intro j
    by_cases hj : j < 64
    · exact h j hj
    · have p : (18446744073709551616 : Nat) = 2 ^ 64 := by decide
      have q : 2 ^ 64 ≤ 2 ^ j := Nat.pow_le_pow_right (by decide) (by omega)
      rw [Nat.testBit_lt_two_pow (Nat.lt_of_lt_of_le (p ▸ hn) q), Nat.testBit_lt_two_pow (Nat.lt_of_lt_of_le (p ▸ hm) q)]
  rw [this]
theorem C4.ext_has {x y : C4} (hx : x.ok) (hy : y.ok) (h : ∀ i, i < 256 → x.has i = y.has i) : x = y := by
  have key : ∀ q, q < 4 → x.w q = y.w q := by
    intro q hq
    apply word_ext (C4.ok_w hx q) (C4.ok_w hy q)
    intro j hj
    have := h (64 * q + j) (by omega)
    unfold C4.has at this
    rwa [show (64 * q + j) / 64 = q from by omega, show (64 * q + j) % 64 = j from by omega] at this
  have k0 := key 0 (by decide)
  have k1 := key 1 (by decide)
  have k2 := key 2 (by decide)
  have k3 := key 3 (by decide)
  cases x; cases y
  simp [C4.w] at k0 k1 k2 k3
  simp [k0, k1, k2, k3]

theorem and_ok {x y : Int} (hx : okW x) (hy : okW y) : okW (bits .and .u64 x y) ∧ ∀ j, (bits .and .u64 x y).toNat.testBit j = (x.toNat.testBit j && y.toNat.testBit j) := by
  obtain ⟨n, rfl, hn⟩ := okW_nat hx
  obtain ⟨m, rfl, hm⟩ := okW_nat hy
  rw [u64_and_nat n m hn hm]
  have : n &&& m ≤ n := Nat.and_le_left
  refine ⟨⟨by omega, by omega⟩, fun j => ?_⟩
  simp only [Int.toNat_natCast, Nat.testBit_and]
theorem or_ok {x y : Int} (hx : okW x) (hy : okW y) : okW (bits .or .u64 x y) ∧ ∀ j, (bits .or .u64 x y).toNat.testBit j = (x.toNat.testBit j || y.toNat.testBit j) := by
  obtain ⟨n, rfl, hn⟩ := okW_nat hx
  obtain ⟨m, rfl, hm⟩ := okW_nat hy
  rw [u64_or_nat n m hn hm]
  have : n ||| m < 2 ^ 64 := Nat.or_lt_two_pow hn hm
  refine ⟨⟨by omega, by omega⟩, fun j => ?_⟩
  simp only [Int.toNat_natCast, Nat.testBit_or]
theorem not_ok {x : Int} (hx : okW x) : okW (not64 x) ∧ ∀ j, j < 64 → (not64 x).toNat.testBit j = !x.toNat.testBit j := by
  obtain ⟨n, rfl, hn⟩ := okW_nat hx
  have hm : IntKind.u64.max = ((18446744073709551615 : Nat) : Int) := by decide
  have e : not64 (n : Int) = (((2 ^ 64 - 1) ^^^ n : Nat) : Int) := by
    rw [not64, hm, u64_xor_nat _ n (by omega) hn]
  rw [e]
  have : (2 ^ 64 - 1) ^^^ n < 2 ^ 64 := Nat.xor_lt_two_pow (by decide) hn
  refine ⟨⟨by omega, by omega⟩, fun j hj => ?_⟩
  rw [Int.toNat_natCast, Int.toNat_natCast, Nat.testBit_xor, Nat.testBit_two_pow_sub_one]
  simp [hj]
theorem C4.and_ok {x y : C4} (hx : x.ok) (hy : y.ok) : (x.and y).ok := ⟨(Go.Proofs.Ytopoiljgghglaaa.and_ok hx.1 hy.1).1, (Go.Proofs.Ytopoiljgghglaaa.and_ok hx.2.1 hy.2.1).1, (Go.Proofs.Ytopoiljgghglaaa.and_ok hx.2.2.1 hy.2.2.1).1, (Go.Proofs.Ytopoiljgghglaaa.and_ok hx.2.2.2 hy.2.2.2).1⟩
theorem C4.or_ok {x y : C4} (hx : x.ok) (hy : y.ok) : (x.or y).ok := ⟨(Go.Proofs.Ytopoiljgghglaaa.or_ok hx.1 hy.1).1, (Go.Proofs.Ytopoiljgghglaaa.or_ok hx.2.1 hy.2.1).1, (Go.Proofs.Ytopoiljgghglaaa.or_ok hx.2.2.1 hy.2.2.1).1, (Go.Proofs.Ytopoiljgghglaaa.or_ok hx.2.2.2 hy.2.2.2).1⟩
theorem C4.not_ok {x : C4} (hx : x.ok) : x.not.ok := ⟨(Go.Proofs.Ytopoiljgghglaaa.not_ok hx.1).1, (Go.Proofs.Ytopoiljgghglaaa.not_ok hx.2.1).1, (Go.Proofs.Ytopoiljgghglaaa.not_ok hx.2.2.1).1, (Go.Proofs.Ytopoiljgghglaaa.not_ok hx.2.2.2).1⟩
theorem C4.and_w (x y : C4) (i : Nat) : (x.and y).w i = bits .and .u64 (x.w i) (y.w i) := by
  unfold C4.w C4.and
  split
  · rfl
  · split
    · rfl
    · split <;> rfl
theorem C4.or_w (x y : C4) (i : Nat) : (x.or y).w i = bits .or .u64 (x.w i) (y.w i) := by
  unfold C4.w C4.or
  split
  · rfl
  · split
    · rfl
    · split <;> rfl
theorem C4.not_w (x : C4) (i : Nat) : x.not.w i = not64 (x.w i) := by
  unfold C4.w C4.not
  split
  · rfl
  · split
    · rfl
    · split <;> rfl
theorem C4.has_and {x y : C4} (hx : x.ok) (hy : y.ok) (i : Nat) : (x.and y).has i = (x.has i && y.has i) := by
  unfold C4.has
  rw [C4.and_w]
  exact (Go.Proofs.Ytopoiljgghglaaa.and_ok (C4.ok_w hx _) (C4.ok_w hy _)).2 _
theorem C4.has_or {x y : C4} (hx : x.ok) (hy : y.ok) (i : Nat) : (x.or y).has i = (x.has i || y.has i) := by
  unfold C4.has
  rw [C4.or_w]
  exact (Go.Proofs.Ytopoiljgghglaaa.or_ok (C4.ok_w hx _) (C4.ok_w hy _)).2 _
theorem C4.has_not {x : C4} (hx : x.ok) (i : Nat) : x.not.has i = !x.has i := by
  unfold C4.has
  rw [C4.not_w]
  exact (Go.Proofs.Ytopoiljgghglaaa.not_ok (C4.ok_w hx _)).2 _ (by omega)
theorem z4_ok : z4.ok := by
  unfold C4.ok okW z4
  simp
theorem z4_has (i : Nat) : z4.has i = false := by
  unfold C4.has C4.w z4
  split
  · simp
  · split
    · simp
    · split <;> simp

/-! One byte more -/
theorem pow_small (j : Nat) (h : j < 64) : okW (IntKind.u64.wrap (2 ^ j)) ∧ ∀ i, (IntKind.u64.wrap (2 ^ j)).toNat.testBit i = decide (j = i) := by
  have e : IntKind.u64.wrap (2 ^ j) = ((2 ^ j : Nat) : Int) := by
    have h2 : 2 ^ j < 2 ^ 64 := Nat.pow_lt_pow_right (by decide) h
    have := u64_small (2 ^ j) (by omega)
    rw [Int.natCast_pow] at this
    rw [Int.natCast_pow]
    exact this
  have h2 : 2 ^ j < 2 ^ 64 := Nat.pow_lt_pow_right (by decide) h
  rw [e]
  refine ⟨⟨Int.natCast_nonneg _, Int.ofNat_lt.2 h2⟩, fun i => ?_⟩
  rw [Int.toNat_natCast, Nat.testBit_two_pow]
theorem C4.put_w (k : C4) (q : Nat) (hq : q < 4) (z : Int) (i : Nat) (hi : i < 4) : (k.put q z).w i = if i = q then z else k.w i := by
  match q, hq, i, hi with
  | 0, _, 0, _ | 0, _, 1, _ | 0, _, 2, _ | 0, _, 3, _ | 1, _, 0, _ | 1, _, 1, _ | 1, _, 2, _ | 1, _, 3, _ | 2, _, 0, _ | 2, _, 1, _ | 2, _, 2, _ | 2, _, 3, _ | 3, _, 0, _ | 3, _, 1, _ | 3, _, 2, _ | 3, _, 3, _ => simp [C4.put, C4.w]
theorem C4.put_ok {k : C4} (h : k.ok) (q : Nat) {z : Int} (hz : okW z) : (k.put q z).ok := by
  unfold C4.put C4.ok
  refine ⟨?_, ?_, ?_, ?_⟩
  · simp only; split
    · exact hz
    · exact h.1
  · simp only; split
    · exact hz
    · exact h.2.1
  · simp only; split
    · exact hz
    · exact h.2.2.1
  · simp only; split
    · exact hz
    · exact h.2.2.2
theorem C4.add_ok {k : C4} (h : k.ok) (n : Nat) : (k.add (n : Int)).ok :=
  C4.put_ok h _ (Go.Proofs.Ytopoiljgghglaaa.or_ok (C4.ok_w h _) (pow_small _ (by omega)).1).1
theorem C4.has_add {k : C4} (h : k.ok) (n i : Nat) (hn : n < 256) (hi : i < 256) : (k.add (n : Int)).has i = (k.has i || decide (n = i)) := by
  have e1 : ((n : Int) / 64).toNat = n / 64 := by omega
  have e2 : ((n : Int) % 64).toNat = n % 64 := by omega
  unfold C4.add C4.has
  rw [e1, e2, C4.put_w k (n / 64) (by omega) _ (i / 64) (by omega)]
  by_cases hq : i / 64 = n / 64
  · rw [if_pos hq, (Go.Proofs.Ytopoiljgghglaaa.or_ok (C4.ok_w h _) (pow_small _ (by omega)).1).2, (pow_small _ (by omega)).2, hq]
    congr 1
    have : (n % 64 = i % 64) = (n = i) := by apply propext; omega
    simp only [this]
  · rw [if_neg hq]
    have : ¬ n = i := by omega
    simp [this]
theorem ofL_ok : ∀ (l : List UInt8), (C4.ofL l).ok := by
  have key : ∀ (l : List UInt8) (k : C4), k.ok → (l.foldl (fun k c => k.add (c.toNat : Int)) k).ok := by
    intro l
    induction l with
    | nil => intro k h; exact h
    | cons c l ih => intro k h; exact ih _ (C4.add_ok h _)
  intro l
  exact key l z4 z4_ok
theorem ofL_has (l : List UInt8) (i : Nat) (hi : i < 256) : (C4.ofL l).has i = decide (∃ c ∈ l, c.toNat = i) := by
  have key : ∀ (l : List UInt8) (k : C4), k.ok → (l.foldl (fun k c => k.add (c.toNat : Int)) k).has i = (k.has i || decide (∃ c ∈ l, c.toNat = i)) := by
    intro l
    induction l with
    | nil => intro k h; simp
    | cons c l ih =>
      intro k h
      rw [List.foldl_cons, ih _ (C4.add_ok h _), C4.has_add h _ _ c.toNat_lt hi, Bool.or_assoc]
      congr 1
      simp
  have := key l z4 z4_ok
  rw [z4_has, Bool.false_or] at this
  exact this

/-! How many -/
theorem many_cnt {k : C4} (h : k.ok) : k.many 4 = ((cnt k.has 256 : Nat) : Int) := by
  have key : ∀ n, n ≤ 4 → k.many n = ((cnt k.has (64 * n) : Nat) : Int) := by
    intro n
    induction n with
    | zero => intro _; rfl
    | succ n ih =>
      intro hn
      obtain ⟨m, hm, hl⟩ := okW_nat (C4.ok_w h n)
      have h1 := cnt_le k.has (64 * n)
      have h2 := cnt_le m.testBit 64
      rw [C4.many, ih (by omega), hm, ones_nat m hl, show 64 * (n + 1) = 64 * n + 64 from by omega, cnt_add]
      have e : cnt (fun j => k.has (64 * n + j)) 64 = cnt m.testBit 64 := by
        apply cnt_congr
        intro i hi
        unfold C4.has
        rw [show (64 * n + i) / 64 = n from by omega, show (64 * n + i) % 64 = i from by omega, hm, Int.toNat_natCast]
      rw [e]
      unfold wrap64
      omega
  exact key 4 (Nat.le_refl _)
theorem eqb_self (x : C4) : x.eqb x = true := (C4.eqb_iff x x).2 rfl
theorem deMorgan {x y : C4} (hx : x.ok) (hy : y.ok) : (x.and y).not = x.not.or y.not := by
  apply C4.ext_has (C4.not_ok (C4.and_ok hx hy)) (C4.or_ok (C4.not_ok hx) (C4.not_ok hy))
  intro i hi
  rw [C4.has_not (C4.and_ok hx hy), C4.has_and hx hy, C4.has_or (C4.not_ok hx) (C4.not_ok hy), C4.has_not hx, C4.has_not hy, Bool.not_and]
theorem not_not4 {x : C4} (hx : x.ok) : x.not.not = x := by
  apply C4.ext_has (C4.not_ok (C4.not_ok hx)) hx
  intro i hi
  rw [C4.has_not (C4.not_ok hx), C4.has_not hx, Bool.not_not]
theorem many_both {x y : C4} (hx : x.ok) (hy : y.ok) : (x.and y).many 4 + (x.or y).many 4 = x.many 4 + y.many 4 := by
  rw [many_cnt (C4.and_ok hx hy), many_cnt (C4.or_ok hx hy), many_cnt hx, many_cnt hy]
  have h := cnt_both x.has y.has 256
  rw [← cnt_congr (x.and y).has _ 256 (fun i _ => C4.has_and hx hy i), ← cnt_congr (x.or y).has _ 256 (fun i _ => C4.has_or hx hy i)] at h
  omega
theorem many_not {x : C4} (hx : x.ok) : x.many 4 + x.not.many 4 = 256 := by
  rw [many_cnt hx, many_cnt (C4.not_ok hx)]
  have h := cnt_not x.has 256
  rw [← cnt_congr x.not.has _ 256 (fun i _ => C4.has_not hx i)] at h
  omega
end Go.Proofs.Ytopoiljgghglaaa
namespace Go.Proofs.Ytopoiljgghglaaa
set_option linter.unusedSimpArgs false
set_option linter.unusedVariables false
set_option maxRecDepth 100000
open Go.RowKit

theorem hid {p : Prop} (h : p) : Hid p := h

/-- A node. -/
structure Nd where
  op : Int
  c : C4
/-- The nodes ns lie from an address on. -/
def NsAt (w : World) (b off : Nat) (ns : List Nd) : Prop := ∀ i n, ns[i]? = some n →
  w.cell? ⟨b, off + i * 5, none⟩ = some (.int .i64 n.op) ∧ w.cell? ⟨b, off + i * 5 + 1, none⟩ = some (.int .u64 n.c.a) ∧ w.cell? ⟨b, off + i * 5 + 1 + 1, none⟩ = some (.int .u64 n.c.b) ∧ w.cell? ⟨b, off + i * 5 + 1 + 2, none⟩ = some (.int .u64 n.c.c) ∧ w.cell? ⟨b, off + i * 5 + 1 + 3, none⟩ = some (.int .u64 n.c.d)
/-- A slice that reads as the nodes ns: nil where there is none. -/
def NsIn (w : World) (v : Value) (ns : List Nd) : Prop := ∃ a cap, v = .slice a ns.length cap ∧ ns.length ≤ maxLen ∧ (ns = [] ∨ ∃ b off, a = some ⟨b, off, none⟩ ∧ b < w.heap.size ∧ NsAt w b off ns)
theorem NsAt.below {w w' : World} {B b off : Nat} {ns : List Nd} (h : NsAt w b off ns) (hb : Below B w w') (hlt : b < B) : NsAt w' b off ns := by
  intro i n hn
  obtain ⟨h0, h1, h2, h3, h4⟩ := h i n hn
  exact ⟨(hb.cell (p := ⟨b, _, none⟩) hlt).trans h0, (hb.cell (p := ⟨b, _, none⟩) hlt).trans h1, (hb.cell (p := ⟨b, _, none⟩) hlt).trans h2, (hb.cell (p := ⟨b, _, none⟩) hlt).trans h3, (hb.cell (p := ⟨b, _, none⟩) hlt).trans h4⟩
theorem NsIn.below {w w' : World} {v : Value} {ns : List Nd} (h : NsIn w v ns) (hb : Below w.heap.size w w') : NsIn w' v ns := by
  obtain ⟨a, cap, rfl, hm, h | ⟨b, off, rfl, hlt, hn⟩⟩ := h
  · exact ⟨a, cap, rfl, hm, Or.inl h⟩
  · exact ⟨_, cap, rfl, hm, Or.inr ⟨b, off, rfl, Nat.lt_of_lt_of_le hlt hb.size, hn.below hb hlt⟩⟩
/-- How many parts a node has. -/
def prt (op : Int) : Nat := if op = 3 ∨ op = 4 then 2 else if op = 5 ∨ op = 6 ∨ op = 7 then 1 else 0
/-- The place behind the part at i. -/
def endF (ns : List Nd) : Nat → Nat → Option Nat
  | 0, _ => none
  | f + 1, i =>
    match ns[i]? with
    | none => none
    | some n => if prt n.op = 0 then some (i + 1) else if prt n.op = 1 then endF ns f (i + 1) else (endF ns f (i + 1)).bind (endF ns f)
def endI : Option Nat → Int
  | none => -1
  | some j => j
/-- So many parts more, from a place on. -/
def fin (ns : List Nd) (f : Nat) : Nat → Option Nat → Option Nat
  | 0, o => o
  | _ + 1, none => none
  | m + 1, some j => fin ns f m (endF ns f j)
theorem fin_none (ns : List Nd) (f m : Nat) : fin ns f m none = none := by cases m <;> rfl
theorem endF_gt (ns : List Nd) : ∀ (f i j : Nat), endF ns f i = some j → i < j ∧ j ≤ ns.length
  | 0, i, j, h => by simp [endF] at h
  | f + 1, i, j, h => by
    rw [endF] at h
    cases hn : ns[i]? with
    | none => rw [hn] at h; simp at h
    | some n =>
      rw [hn] at h
      have hi : i < ns.length := by
        rcases Nat.lt_or_ge i ns.length with h' | h'
        · exact h'
        · rw [List.getElem?_eq_none h'] at hn; cases hn
      simp only at h
      split at h
      · simp at h; omega
      · split at h
        · have := endF_gt ns f _ _ h; omega
        · cases h1 : endF ns f (i + 1) with
          | none => rw [h1] at h; simp at h
          | some k =>
            rw [h1] at h
            simp at h
            have a1 := endF_gt ns f _ _ h1
            have a2 := endF_gt ns f _ _ h
            omega
theorem endF_fin (ns : List Nd) (f i : Nat) (n : Nd) (hn : ns[i]? = some n) : endF ns (f + 1) i = fin ns f (prt n.op) (some (i + 1)) := by
  rw [endF, hn]
  simp only
  unfold prt
  split
  · simp only [fin]
    cases h : endF ns f (i + 1) <;> simp [fin]
  · split <;> simp [fin]
theorem prt_le (op : Int) : prt op ≤ 2 := by unfold prt; split <;> (try split) <;> omega
/-- The place behind the part at i, or none. -/
def endE (ns : List Nd) (i : Nat) : Option Nat := endF ns (ns.length + 1) i
theorem endE_nil (i : Nat) : endE [] i = none := by simp [endE, endF]
theorem endF_more (ns : List Nd) : ∀ (f g i j : Nat), f ≤ g → endF ns f i = some j → endF ns g i = some j
  | 0, g, i, j, _, h => by simp [endF] at h
  | f + 1, 0, i, j, hg, h => by omega
  | f + 1, g + 1, i, j, hg, h => by
    rw [endF] at h ⊢
    cases hn : ns[i]? with
    | none => rw [hn] at h; simp at h
    | some n =>
      rw [hn] at h
      simp only at h ⊢
      split at h
      · rename_i h0
        rw [if_pos h0]; exact h
      · rename_i h0
        rw [if_neg h0]
        split at h
        · rename_i h1
          rw [if_pos h1]
          exact endF_more ns f g _ _ (by omega) h
        · rename_i h1
          rw [if_neg h1]
          cases h2 : endF ns f (i + 1) with
          | none => rw [h2] at h; simp at h
          | some k =>
            rw [h2] at h
            rw [endF_more ns f g _ _ (by omega) h2]
            simp at h ⊢
            exact endF_more ns f g _ _ (by omega) h
theorem endE_of (ns : List Nd) (f i j : Nat) (hf : f ≤ ns.length + 1) (h : endF ns f i = some j) : endE ns i = some j := endF_more ns f _ i j hf h
/-- What a valid part's node and its parts are. -/
theorem part_cases (ns : List Nd) (f i j : Nat) (h : endF ns (f + 1) i = some j) : ∃ n, ns[i]? = some n ∧ i < ns.length ∧
    ((prt n.op = 0 ∧ j = i + 1) ∨ (prt n.op = 1 ∧ endF ns f (i + 1) = some j) ∨ (prt n.op = 2 ∧ ∃ k, endF ns f (i + 1) = some k ∧ endF ns f k = some j)) := by
  rw [endF] at h
  cases hn : ns[i]? with
  | none => rw [hn] at h; simp at h
  | some n =>
    have hi : i < ns.length := by
      rcases Nat.lt_or_ge i ns.length with h' | h'
      · exact h'
      · rw [List.getElem?_eq_none h'] at hn; cases hn
    refine ⟨n, rfl, hi, ?_⟩
    rw [hn] at h
    simp only at h
    have hp : prt n.op ≤ 2 := prt_le n.op
    split at h
    · rename_i h0
      exact Or.inl ⟨h0, by simpa using h.symm⟩
    · split at h
      · rename_i h1
        exact Or.inr (Or.inl ⟨h1, h⟩)
      · rename_i h0 h1
        cases h2 : endF ns f (i + 1) with
        | none => rw [h2] at h; simp at h
        | some k => rw [h2] at h; exact Or.inr (Or.inr ⟨by omega, k, rfl, by simpa using h⟩)
theorem prt_two (op : Int) : prt op = 2 ↔ op = 3 ∨ op = 4 := by
  unfold prt
  split
  · rename_i h; simp [h]
  · rename_i h
    split <;> simp [h]
theorem prt_one (op : Int) : prt op = 1 ↔ op = 5 ∨ op = 6 ∨ op = 7 := by
  unfold prt
  split
  · rename_i h
    simp
    omega
  · split
    · rename_i h; simp [h]
    · rename_i h; simp [h]
/-- May the part at i be nothing? -/
def empF (ns : List Nd) : Nat → Nat → Bool
  | 0, _ => true
  | f + 1, i =>
    match ns[i]? with
    | none => true
    | some n => if n.op = 1 then false else if n.op = 3 then empF ns f (i + 1) && empF ns f ((endE ns (i + 1)).getD 0) else if n.op = 4 then empF ns f (i + 1) || empF ns f ((endE ns (i + 1)).getD 0) else if n.op = 6 then empF ns f (i + 1) else true
theorem empF_at (ns : List Nd) (f i : Nat) (n : Nd) (hn : ns[i]? = some n) : empF ns (f + 1) i = if n.op = 1 then false else if n.op = 3 then empF ns f (i + 1) && empF ns f ((endE ns (i + 1)).getD 0) else if n.op = 4 then empF ns f (i + 1) || empF ns f ((endE ns (i + 1)).getD 0) else if n.op = 6 then empF ns f (i + 1) else true := by
  rw [empF, hn]
theorem arg_succ (i : Nat) : ((i + 1 : Nat) : Int) = (i : Int) + 1 := by omega
/-- May a pattern be nothing? -/
def empE (ns : List Nd) : Bool := empF ns (ns.length + 1) 0
/-- What is wrong with the nodes, one by one. -/
def scanL : List Nd → Int
  | [] => 0
  | n :: r => if n.op < 1 ∨ 9 < n.op then 1 else if ¬ n.op = 1 ∧ ¬ n.c.eqb z4 = true then 2 else scanL r
/-- What is wrong with a pattern. -/
def faultL (ns : List Nd) : Int := if 60 < ns.length then 3 else if scanL ns ≠ 0 then scanL ns else if ns = [] ∨ endE ns 0 ≠ some ns.length then 2 else 0
def NdOk (ns : List Nd) : Prop := ∀ n ∈ ns, n.c.ok
theorem cnt_zero_iff {k : C4} (hk : k.ok) : ((0 : Int) < ((cnt k.has 256 : Nat) : Int)) ↔ ¬ k.eqb z4 = true := by
  rw [C4.eqb_iff]
  constructor
  · intro h e
    subst e
    have : cnt z4.has 256 = cnt (fun _ => false) 256 := cnt_congr _ _ _ (fun i _ => z4_has i)
    have h0 : ∀ n, cnt (fun _ => false) n = 0 := by
      intro n
      induction n with
      | zero => rfl
      | succ n ih => rw [cnt, ih]; rfl
    rw [this, h0] at h
    omega
  · intro h
    rcases Nat.eq_zero_or_pos (cnt k.has 256) with h0 | h0
    · exfalso
      apply h
      apply C4.ext_has hk z4_ok
      intro i hi
      rw [cnt_pos k.has 256 h0 i hi, z4_has]
    · omega
theorem scan_drop (ns : List Nd) (i : Nat) (n : Nd) (hn : ns[i]? = some n) : scanL (ns.drop i) = if n.op < 1 ∨ 9 < n.op then 1 else if ¬ n.op = 1 ∧ ¬ n.c.eqb z4 = true then 2 else scanL (ns.drop (i + 1)) := by
  have hi : i < ns.length := by
    rcases Nat.lt_or_ge i ns.length with h | h
    · exact h
    · rw [List.getElem?_eq_none h] at hn; cases hn
  rw [List.drop_eq_getElem_cons hi]
  rw [List.getElem?_eq_getElem hi] at hn
  rw [Option.some.inj hn, scanL]
abbrev Nd.cells (n : Nd) : Array Value := #[.int .i64 n.op, .int .u64 n.c.a, .int .u64 n.c.b, .int .u64 n.c.c, .int .u64 n.c.d]
abbrev Nd.v (n : Nd) : Value := .agg #[.int .i64 n.op, .int .u64 n.c.a, .int .u64 n.c.b, .int .u64 n.c.c, .int .u64 n.c.d]
def Nd.eqb (n m : Nd) : Bool := n.op == m.op && n.c.eqb m.c
theorem Nd.eqb_iff (n m : Nd) : n.eqb m = true ↔ n = m := by
  unfold Nd.eqb
  rw [Bool.and_eq_true, C4.eqb_iff, beq_iff_eq]
  cases n; cases m
  simp
def nsEq : List Nd → List Nd → Bool
  | [], [] => true
  | n :: r, m :: q => n.eqb m && nsEq r q
  | _, _ => false
theorem nsEq_iff : ∀ (x y : List Nd), nsEq x y = true ↔ x = y
  | [], [] => by simp [nsEq]
  | [], m :: q => by simp [nsEq]
  | n :: r, [] => by simp [nsEq]
  | n :: r, m :: q => by
    rw [nsEq, Bool.and_eq_true, Nd.eqb_iff, nsEq_iff r q]
    simp
theorem nsEq_len (x y : List Nd) (h : x.length ≠ y.length) : nsEq x y = false := by
  cases e : nsEq x y
  · rfl
  · rw [nsEq_iff] at e; rw [e] at h; exact absurd rfl h
theorem nsEq_drop (x y : List Nd) (i : Nat) (n m : Nd) (hn : x[i]? = some n) (hm : y[i]? = some m) : nsEq (x.drop i) (y.drop i) = (n.eqb m && nsEq (x.drop (i + 1)) (y.drop (i + 1))) := by
  have hi : i < x.length := by
    rcases Nat.lt_or_ge i x.length with h | h
    · exact h
    · rw [List.getElem?_eq_none h] at hn; cases hn
  have hj : i < y.length := by
    rcases Nat.lt_or_ge i y.length with h | h
    · exact h
    · rw [List.getElem?_eq_none h] at hm; cases hm
  rw [List.drop_eq_getElem_cons hi, List.drop_eq_getElem_cons hj, nsEq]
  rw [List.getElem?_eq_getElem hi] at hn
  rw [List.getElem?_eq_getElem hj] at hm
  rw [Option.some.inj hn, Option.some.inj hm]
/-- Begin and End exchanged. -/
def flipOp (op : Int) : Int := if op = 8 then 9 else if op = 9 then 8 else op
def Nd.flip (n : Nd) : Nd := ⟨flipOp n.op, n.c⟩
/-- The part at i, turned. -/
def turF (ns : List Nd) : Nat → Nat → List Nd
  | 0, _ => []
  | f + 1, i =>
    match ns[i]? with
    | none => []
    | some n => n.flip :: (if prt n.op = 1 then turF ns f (i + 1) else if n.op = 3 then turF ns f ((endE ns (i + 1)).getD 0) ++ turF ns f (i + 1) else if n.op = 4 then turF ns f (i + 1) ++ turF ns f ((endE ns (i + 1)).getD 0) else [])
theorem turF_at (ns : List Nd) (f i : Nat) (n : Nd) (hn : ns[i]? = some n) : turF ns (f + 1) i = n.flip :: (if prt n.op = 1 then turF ns f (i + 1) else if n.op = 3 then turF ns f ((endE ns (i + 1)).getD 0) ++ turF ns f (i + 1) else if n.op = 4 then turF ns f (i + 1) ++ turF ns f ((endE ns (i + 1)).getD 0) else []) := by
  rw [turF, hn]
theorem turF_len (ns : List Nd) : ∀ (f i j : Nat), f ≤ ns.length + 1 → endF ns f i = some j → (turF ns f i).length = j - i
  | 0, i, j, _, h => by simp [endF] at h
  | f + 1, i, j, hf, h => by
    obtain ⟨n, hn, hil, hc⟩ := part_cases ns f i j h
    rw [turF_at ns f i n hn, List.length_cons]
    rcases hc with ⟨h0, rfl⟩ | ⟨h0, h1⟩ | ⟨h0, k, h1, h2⟩
    · have e3 : ¬ n.op = 3 := by intro e; rw [e] at h0; simp [prt] at h0
      have e4 : ¬ n.op = 4 := by intro e; rw [e] at h0; simp [prt] at h0
      rw [if_neg (by omega), if_neg e3, if_neg e4]
      simp
    · have := turF_len ns f _ _ (by omega) h1
      have g1 := endF_gt ns f _ _ h1
      rw [if_pos h0]
      omega
    · have a1 := turF_len ns f _ _ (by omega) h1
      have a2 := turF_len ns f _ _ (by omega) h2
      have g1 := endF_gt ns f _ _ h1
      have g2 := endF_gt ns f _ _ h2
      have ek := endE_of ns f (i + 1) k (by omega) h1
      rw [if_neg (by omega), ek]
      rcases (prt_two n.op).1 h0 with e3 | e4
      · rw [if_pos e3]; simp; omega
      · rw [if_neg (by omega), if_pos e4]; simp; omega
/-- The nodes' cells, one behind the other. -/
def nsCells : List Nd → List Value
  | [] => []
  | n :: r => [.int .i64 n.op, .int .u64 n.c.a, .int .u64 n.c.b, .int .u64 n.c.c, .int .u64 n.c.d] ++ nsCells r
theorem nsCells_append : ∀ (x y : List Nd), nsCells (x ++ y) = nsCells x ++ nsCells y
  | [], y => rfl
  | n :: r, y => by simp [nsCells, nsCells_append r y]
theorem nsCells_len : ∀ (x : List Nd), (nsCells x).length = x.length * 5
  | [] => rfl
  | n :: r => by simp [nsCells, nsCells_len r]; omega
theorem nsCells_one : ∀ (x : List Nd), ∀ u ∈ nsCells x, u.oneCell' = true
  | [], u, h => by simp [nsCells] at h
  | n :: r, u, h => by
    rw [nsCells, List.mem_append] at h
    rcases h with h | h
    · simp at h
      rcases h with rfl | rfl | rfl | rfl | rfl <;> rfl
    · exact nsCells_one r u h
theorem nsCells_get : ∀ (x : List Nd) (i : Nat) (n : Nd), x[i]? = some n → (nsCells x)[i * 5]? = some (.int .i64 n.op) ∧ (nsCells x)[i * 5 + 1]? = some (.int .u64 n.c.a) ∧ (nsCells x)[i * 5 + 2]? = some (.int .u64 n.c.b) ∧ (nsCells x)[i * 5 + 3]? = some (.int .u64 n.c.c) ∧ (nsCells x)[i * 5 + 4]? = some (.int .u64 n.c.d)
  | [], i, n, h => by simp at h
  | m :: r, 0, n, h => by
    simp at h
    subst h
    simp [nsCells]
  | m :: r, i + 1, n, h => by
    have ih := nsCells_get r i n (by simpa using h)
    have e : ∀ t, (nsCells (m :: r))[(i + 1) * 5 + t]? = (nsCells r)[i * 5 + t]? := by
      intro t
      rw [nsCells, List.getElem?_append_right (by simp; omega)]
      congr 1
      simp
      omega
    have e0 := e 0
    simp only [Nat.add_zero] at e0
    rw [e0, e 1, e 2, e 3, e 4]
    exact ih
/-- A slice of the call's own that holds the nodes ns. -/
def NsOwn (w : World) (base : Nat) (v : Value) (ns : List Nd) : Prop := w.ownsRow base 33 5 v ns.length (nsCells ns)
theorem NsOwn.below {w w' : World} {base : Nat} {v : Value} {ns : List Nd} (h : NsOwn w base v ns) (hb : Below w.heap.size w w') : NsOwn w' base v ns := by
  refine World.ownsRow.kept (row := none) h ⟨hb.os, hb.tape, hb.output, hb.size, fun k hk _ => hb.block k hk⟩ ?_
  cases hv : v.ownBlock with
  | none => exact Or.inl rfl
  | some x => exact Or.inr (by simp)
theorem NsOwn.form {w : World} {base : Nat} {v : Value} {ns : List Nd} (h : NsOwn w base v ns) (h0 : 0 < ns.length) : ∃ g cap, v = .slice (some ⟨g, 0, none⟩) ns.length cap ∧ base ≤ g ∧ g < w.heap.size ∧ ∀ j u, (nsCells ns)[j]? = some u → w.cell? ⟨g, j, none⟩ = some u := by
  rcases h.2 with ⟨_, h1⟩ | ⟨g, cap, cur, hv, hb, hg, _, _, hs, ht⟩
  · omega
  · refine ⟨g, cap, hv, hb, ?_, ?_⟩
    · rcases Nat.lt_or_ge g w.heap.size with hlt | hge
      · exact hlt
      · rw [Array.getElem?_eq_none hge] at hg; cases hg
    · intro j u hj
      have hjl : j < (nsCells ns).length := by
        rcases Nat.lt_or_ge j (nsCells ns).length with h' | h'
        · exact h'
        · rw [List.getElem?_eq_none h'] at hj; cases hj
      rw [Lib.cell_of_heap hg]
      rw [← ht, List.getElem?_take] at hj
      split at hj
      · simpa using hj
      · cases hj
theorem NsOwn.isIn {w : World} {base : Nat} {v : Value} {ns : List Nd} (h : NsOwn w base v ns) (hm : ns.length ≤ maxLen) : NsIn w v ns := by
  rcases Nat.eq_zero_or_pos ns.length with h0 | h0
  · have e : ns = [] := List.eq_nil_of_length_eq_zero h0
    subst e
    rcases h.2 with ⟨hv, _⟩ | ⟨g, cap, cur, hv, _⟩
    · exact ⟨none, 0, hv, hm, Or.inl rfl⟩
    · exact ⟨_, cap, hv, hm, Or.inl rfl⟩
  · obtain ⟨g, cap, hv, _, hlt, hc⟩ := h.form h0
    refine ⟨_, cap, hv, hm, Or.inr ⟨g, 0, rfl, hlt, ?_⟩⟩
    intro i n hn
    obtain ⟨c0, c1, c2, c3, c4⟩ := nsCells_get ns i n hn
    refine ⟨?_, ?_, ?_, ?_, ?_⟩
    · rw [Nat.zero_add]; exact hc _ _ c0
    · rw [Nat.zero_add]; exact hc _ _ c1
    · rw [Nat.zero_add]; exact hc _ _ c2
    · rw [Nat.zero_add]; exact hc _ _ c3
    · rw [Nat.zero_add]; exact hc _ _ c4
/-- The pattern, turned. -/
def turE (ns : List Nd) : List Nd := turF ns (ns.length + 1) 0
theorem turE_len (ns : List Nd) (hv : endE ns 0 = some ns.length) : (turE ns).length = ns.length := turF_len ns _ 0 _ (Nat.le_refl _) hv
end Go.Proofs.Ytopoiljgghglaaa
namespace Go.Proofs.Ytopoiljgghglaaa
set_option linter.unusedSimpArgs false
set_option linter.unusedVariables false
set_option maxRecDepth 100000
open Go.RowKit

/-- A step. -/
structure St where
  op : Int
  c : C4
  x : Int
  y : Int
/-- The steps ss lie from an address on. -/
def SsAt (w : World) (b off : Nat) (ss : List St) : Prop := ∀ i n, ss[i]? = some n →
  w.cell? ⟨b, off + i * 7, none⟩ = some (.int .i64 n.op) ∧ w.cell? ⟨b, off + i * 7 + 1, none⟩ = some (.int .u64 n.c.a) ∧ w.cell? ⟨b, off + i * 7 + 2, none⟩ = some (.int .u64 n.c.b) ∧ w.cell? ⟨b, off + i * 7 + 3, none⟩ = some (.int .u64 n.c.c) ∧ w.cell? ⟨b, off + i * 7 + 4, none⟩ = some (.int .u64 n.c.d) ∧ w.cell? ⟨b, off + i * 7 + 5, none⟩ = some (.int .i64 n.x) ∧ w.cell? ⟨b, off + i * 7 + 6, none⟩ = some (.int .i64 n.y)
/-- A slice that reads as the steps ss. -/
def SsIn (w : World) (v : Value) (ss : List St) : Prop := ∃ a cap, v = .slice a ss.length cap ∧ ss.length ≤ maxLen ∧ (ss = [] ∨ ∃ b off, a = some ⟨b, off, none⟩ ∧ b < w.heap.size ∧ SsAt w b off ss)
theorem SsAt.below {w w' : World} {B b off : Nat} {ss : List St} (h : SsAt w b off ss) (hb : Below B w w') (hlt : b < B) : SsAt w' b off ss := by
  intro i n hn
  obtain ⟨h0, h1, h2, h3, h4, h5, h6⟩ := h i n hn
  exact ⟨(hb.cell (p := ⟨b, _, none⟩) hlt).trans h0, (hb.cell (p := ⟨b, _, none⟩) hlt).trans h1, (hb.cell (p := ⟨b, _, none⟩) hlt).trans h2, (hb.cell (p := ⟨b, _, none⟩) hlt).trans h3, (hb.cell (p := ⟨b, _, none⟩) hlt).trans h4, (hb.cell (p := ⟨b, _, none⟩) hlt).trans h5, (hb.cell (p := ⟨b, _, none⟩) hlt).trans h6⟩
theorem SsIn.below {w w' : World} {v : Value} {ss : List St} (h : SsIn w v ss) (hb : Below w.heap.size w w') : SsIn w' v ss := by
  obtain ⟨a, cap, rfl, hm, h | ⟨b, off, rfl, hlt, hn⟩⟩ := h
  · exact ⟨a, cap, rfl, hm, Or.inl h⟩
  · exact ⟨_, cap, rfl, hm, Or.inr ⟨b, off, rfl, Nat.lt_of_lt_of_le hlt hb.size, hn.below hb hlt⟩⟩
theorem ssIn_form {w : World} {v : Value} {ss : List St} (h : SsIn w v ss) : ∃ a cap, v = .slice a ss.length cap ∧ ss.length ≤ maxLen := by
  obtain ⟨a, cap, h1, h2, _⟩ := h
  exact ⟨a, cap, h1, h2⟩
theorem ssIn_nil (w : World) : SsIn w (.slice none 0 0) [] := ⟨none, 0, rfl, by simp, Or.inl rfl⟩
/-- A number is none that may be, of a step of a program of N. -/
abbrev stRange (N : Nat) (s : St) : Prop := s.op < 1 ∨ 5 < s.op ∨ (s.op ≠ 5 ∧ (s.x < 0 ∨ (N : Int) ≤ s.x)) ∨ (s.op = 2 ∧ (s.y < 0 ∨ (N : Int) ≤ s.y))
/-- A field that its Op has not is not 0. -/
abbrev stShape (s : St) : Prop := (s.op ≠ 1 ∧ ¬ s.c.eqb z4 = true) ∨ (s.op ≠ 2 ∧ s.y ≠ 0) ∨ (s.op = 5 ∧ s.x ≠ 0)
def stBad (N : Nat) (s : St) : Int := if stRange N s then 1 else if stShape s then 2 else 0
def stScan (N : Nat) : List St → Int
  | [] => 0
  | s :: r => if stBad N s = 0 then stScan N r else stBad N s
/-- What is wrong with a program. -/
def stepsF (ss : List St) : Int := if 200 < ss.length then 3 else if ss.length = 0 then 4 else stScan ss.length ss
theorem stBad_range {N : Nat} {s : St} (h : stRange N s) : stBad N s = 1 := by unfold stBad; rw [if_pos h]
theorem stBad_shape {N : Nat} {s : St} (h : ¬ stRange N s) (h2 : stShape s) : stBad N s = 2 := by unfold stBad; rw [if_neg h, if_pos h2]
theorem stBad_ok {N : Nat} {s : St} (h : ¬ stRange N s) (h2 : ¬ stShape s) : stBad N s = 0 := by unfold stBad; rw [if_neg h, if_neg h2]
theorem stBad_zero {N : Nat} {s : St} (h : stBad N s = 0) : ¬ stRange N s ∧ ¬ stShape s := by
  unfold stBad at h
  by_cases h1 : stRange N s
  · rw [if_pos h1] at h; cases h
  · rw [if_neg h1] at h
    by_cases h2 : stShape s
    · rw [if_pos h2] at h; cases h
    · exact ⟨h1, h2⟩
theorem stScan_drop (N : Nat) : ∀ (ss : List St) (i : Nat) (n : St), ss[i]? = some n → stScan N (ss.drop i) = if stBad N n = 0 then stScan N (ss.drop (i + 1)) else stBad N n
  | [], i, n, h => by simp at h
  | s :: r, 0, n, h => by
    simp at h
    subst h
    rfl
  | s :: r, i + 1, n, h => by
    rw [List.drop_succ_cons, List.drop_succ_cons]
    exact stScan_drop N r i n (by simpa using h)
theorem stScan_all (N : Nat) : ∀ (ss : List St), stScan N ss = 0 → ∀ s ∈ ss, stBad N s = 0
  | [], _, s, hs => by cases hs
  | a :: r, h, s, hs => by
    unfold stScan at h
    by_cases h0 : stBad N a = 0
    · rw [if_pos h0] at h
      rcases List.mem_cons.1 hs with rfl | hs
      · exact h0
      · exact stScan_all N r h s hs
    · rw [if_neg h0] at h
      exact absurd h h0
theorem stepsF_zero {ss : List St} (h : stepsF ss = 0) : ss.length ≤ 200 ∧ 0 < ss.length ∧ ∀ s ∈ ss, ¬ stRange ss.length s ∧ ¬ stShape s := by
  unfold stepsF at h
  by_cases h1 : 200 < ss.length
  · rw [if_pos h1] at h; cases h
  · rw [if_neg h1] at h
    by_cases h2 : ss.length = 0
    · rw [if_pos h2] at h; cases h
    · rw [if_neg h2] at h
      exact ⟨by omega, by omega, fun s hs => stBad_zero (stScan_all _ _ h s hs)⟩
def SsOk (ss : List St) : Prop := ∀ s ∈ ss, s.c.ok
end Go.Proofs.Ytopoiljgghglaaa
