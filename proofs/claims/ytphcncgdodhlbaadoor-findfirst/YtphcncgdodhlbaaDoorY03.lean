/- What plain.Told answers: of nil 0; of an Errno its number. What stays while a law is walked: what was there, and the handle of errors.As. What the cards of a door's seat share: the handle of errors.As as the program's text lays it. Sets of places of a text as seven words: plain mathematics. The library's count of trailing zeros of a word, over the table that start-up lays. What the cards of package mean share: the library's table of trailing zeros as the program's text lays it. Valid patterns as trees; turned, they are turned back. -/
import Derived.Test.YtphcncgdodhlbaaDoorY02
import Derived.WalkKit
import Derived.WalkSpells
import Derived.WalkLawsBesides
import Derived.Deep.QuietTactic
import Derived.BigQuiet
import Derived.Stop.Asserts
import Derived.Test.YtphcncgdodhlbaaDoorRows
import Derived.Test.YtphcncgdodhlbaaDoorCards
import Derived.Test.YtphcncgdodhlbaaDoorTie
import Derived.ProofKit
import Derived.OpenShut
import Derived.Carry
import Derived.LaidLaws
import Derived.LaidHandle
import Derived.Stop.Joined
import Derived.SevenTiedAt
import Derived.Lib.TrailingZeros
import Derived.Test.YtphcncgdodhlbaaDoorY01
namespace Go.Proofs.YtphcncgdodhlbaaDoor
set_option linter.unusedSimpArgs false
set_option linter.unusedVariables false
open Go.RowKit

set_option maxHeartbeats 1000000 in
set_option maxRecDepth 100000 in
theorem as_in (n : Int) (b c : Nat) (w : World) (hc : w.cell? ⟨b, 0, none⟩ = some (.int .i64 0)) (hf : w.frozen? ⟨b, 0, none⟩ = false) (hp : w.cell? ⟨c, 0, none⟩ = some (.pointer (some ⟨b, 0, none⟩))) (hlt : b < w.heap.size) :
    Calls Tryd.prog 56 #[.iface 23 (.int .i64 n), .iface 84 (.pointer (some ⟨b, 0, none⟩)), .agg #[hnd 84, .pointer (some ⟨c, 0, none⟩), .int .u64 150], rty 23] w fun e w' => e = .returned (.bool true) ∧ w'.cell? ⟨b, 0, none⟩ = some (.int .i64 n) ∧ Below b w w' := by
  have x1 := x_typeOf
  have x2 := x_assign
  have x3 := x_valueOfErr
  have m1 := m_assign
  have b1 : ∀ o, Below w.heap.size w (w.alloc o) := fun o => (Below.refl _ _).alloc (Nat.le_refl _) o
  have b2 : ∀ o o2, Below w.heap.size w ((w.alloc o).alloc o2) := fun o o2 => (b1 o).alloc (by simp) o2
  have hel := fun o => x_elemV ⟨c, 0, none⟩ ⟨b, 0, none⟩ (w.alloc o) (cell_later (b1 o) hp)
  have hse := fun o => x_set ⟨b, 0, none⟩ ⟨w.heap.size + 1, 0, none⟩ n 0 ((w.alloc o).alloc (.cells #[.int .i64 n] 23)) (cell_later (b2 o _) hc) (((b2 o _).frozen (p := ⟨b, 0, none⟩) hlt).trans hf) (by simp)
  have B2 := (show Hid _ from b2)
  clear b1 b2
  go_enter Tryd.func56, Tryd.ntmps56
  go_wp2_with fail
  refine wp_loop_rounds 1 ?_
  rw [rounds_succ]
  go_wp2
  go_ret
  have hs : (w.setCell ⟨b, 0, none⟩ (.int .i64 n)).cell? ⟨b, 0, none⟩ = some (.int .i64 n) := World.cell?_setCell_same _ _ _ hc
  have hb3 : ∀ u : World, ∀ o o2, Below u.heap.size u ((u.alloc o).alloc o2) := fun u o o2 => ((Below.refl _ _).alloc (Nat.le_refl _) o).alloc (by simp) o2
  refine ⟨rfl, cell_later (hb3 _ _ _) hs, ?_⟩
  exact (((Below.refl b w).setCell (p := ⟨b, 0, none⟩) (Nat.le_refl _) _).alloc (by simp [World.setCell]; omega) _).alloc (by simp [World.setCell]; omega) _
set_option maxHeartbeats 1000000 in
set_option maxRecDepth 100000 in
theorem as_errno (n : Int) (b : Nat) (w : World) (hE : w.cell? ⟨0, 0, none⟩ = some (rty 32)) (hc : w.cell? ⟨b, 0, none⟩ = some (.int .i64 0)) (hf : w.frozen? ⟨b, 0, none⟩ = false) (hlt : b < w.heap.size) :
    Calls Tryd.prog 35 #[.iface 23 (.int .i64 n), .iface 84 (.pointer (some ⟨b, 0, none⟩))] w fun e w' => e = .returned (.bool true) ∧ w'.cell? ⟨b, 0, none⟩ = some (.int .i64 n) ∧ Below b w w' := by
  have x1 := x_valueOfPtr
  have x2 := x_type
  have x3 := x_kindP
  have x4 := x_kindE
  have x5 := x_elem
  have x6 := x_impl
  have m1 := m_kind
  have m2 := m_elem
  have m3 := m_impl
  have b2 : ∀ o o2, Below w.heap.size w ((w.alloc o).alloc o2) := fun o o2 => ((Below.refl _ _).alloc (Nat.le_refl _) o).alloc (by simp) o2
  have hin := fun o => x_isNil ⟨w.heap.size, 0, none⟩ ⟨b, 0, none⟩ ((w.alloc (.cells #[.pointer (some ⟨b, 0, none⟩)] 84)).alloc o) (by simp)
  have hE2 := fun o o2 => cell_later (b2 o o2) hE
  have B2 := (show Hid _ from b2)
  clear b2
  go_enter Tryd.func35, Tryd.ntmps35
  go_wp2_with fail
  refine (as_in n b w.heap.size _ (cell_later (B2.out _ _) hc) (((B2.out _ _).frozen (p := ⟨b, 0, none⟩) hlt).trans hf) (by simp) (by simp; omega)).mono ?_
  rintro e w1 ⟨rfl, h1, h2⟩
  go_wp2
  go_ret
  exact ⟨rfl, h1, ((B2.out _ _).mono (by omega)).trans h2⟩
set_option maxHeartbeats 400000 in
theorem told_nil (w : World) : Calls Tryd.prog 21 #[.nilIface] w fun e w' => e = .returned (.int .i64 0) ∧ Below w.heap.size w w' := by
  go_enter Tryd.func21, Tryd.ntmps21
  go_wp2
  go_ret
  exact ⟨rfl, Below.refl _ _⟩
set_option maxHeartbeats 1000000 in
set_option maxRecDepth 100000 in
theorem told_errno (n : Int) (w : World) (hE : w.cell? ⟨0, 0, none⟩ = some (rty 32)) : Calls Tryd.prog 21 #[.iface 23 (.int .i64 n)] w fun e w' => e = .returned (.int .i64 n) ∧ Below w.heap.size w w' := by
  go_enter Tryd.func21, Tryd.ntmps21
  go_wp2_with fail
  have hb := (Below.refl w.heap.size w).alloc (Nat.le_refl _) (.cells #[.int .i64 0] 23)
  refine (as_errno n w.heap.size _ (cell_later hb hE) (by simp) (by simp) (by simp)).mono ?_
  rintro e w1 ⟨rfl, h1, h2⟩
  go_wp2
  go_ret
  exact ⟨rfl, hb.trans h2⟩
theorem told_any (n : Int) (w : World) (hE : w.cell? ⟨0, 0, none⟩ = some (rty 32)) : Calls Tryd.prog 21 #[errV n] w fun e w' => e = .returned (.int .i64 n) ∧ Below w.heap.size w w' := by
  unfold errV
  split
  · rename_i h
    subst h
    exact told_nil w
  · exact told_errno n w hE
set_option maxHeartbeats 400000 in
theorem error_any (n m : Int) (w : World) (hE : w.cell? ⟨0, 0, none⟩ = some (rty 32)) : Calls Tryd.prog 11 #[errV n, .int .i64 m] w fun e w' => e = .returned (.bool (n == m)) ∧ Below w.heap.size w w' := by
  go_enter Tryd.func11, Tryd.ntmps11
  go_wp2_with fail
  refine (told_any n _ hE).mono ?_
  rintro e w1 ⟨rfl, h1⟩
  go_wp2
  go_ret
  exact ⟨rfl, h1⟩
end Go.Proofs.YtphcncgdodhlbaaDoor
namespace Go.Proofs.YtphcncgdodhlbaaDoor
set_option linter.unusedSimpArgs false
set_option linter.unusedVariables false
set_option maxRecDepth 100000
open Go.RowKit

theorem error_self (n : Int) (w : World) (hE : w.cell? ⟨0, 0, none⟩ = some (rty 32)) : Calls Tryd.prog 11 #[errV n, .int .i64 n] w fun e w' => e = .returned (.bool true) ∧ Below w.heap.size w w' := by
  have h := error_any n n w hE
  rw [beq_self_eq_true] at h
  exact h
/-- Nothing that was there has turned; the handle of errors.As lies there. -/
structure Stay (w w' : World) : Prop where
  b : Below w.heap.size w w'
  e : w'.cell? ⟨0, 0, none⟩ = some (rty 32)
theorem Stay.more {w w1 w2 : World} (h : Stay w w1) (h0 : 0 < w.heap.size) (hb : Below w1.heap.size w1 w2) : Stay w w2 :=
  ⟨h.b.trans (hb.mono h.b.size), (hb.cell (p := ⟨0, 0, none⟩) (Nat.lt_of_lt_of_le h0 h.b.size)).trans h.e⟩
end Go.Proofs.YtphcncgdodhlbaaDoor
namespace Go.Proofs.YtphcncgdodhlbaaDoor
set_option linter.unusedSimpArgs false
set_option linter.unusedVariables false
open Go.ChangeShapes Go.WideShapes Go.ChangeAt Go.RowKit

theorem et : Tryd.prog.globalNamed "errors.errorType" = some 0 := by kernel_rfl
theorem rt0 : (Tryd.prog.cutTypes.find? (·.1 == "internal/reflectlite.rtype")).map (·.2) = some 159 := by kernel_rfl
theorem oneRow : ((List.range 212).filter fun t => Tryd.prog.rowNamed t [101, 114, 114, 111, 114]) = [32] := by kernel_rfl
theorem typesSize : Tryd.prog.types.size = 212 := by kernel_rfl
theorem handle_of_laid {W : World} (h : laidMetH Tryd.prog [("errors.errorType", Rows.laid_errors_errorType)] W) : W.cell? ⟨0, 0, none⟩ = some (rty 32) := by
  have h' : laidMet Tryd.prog [] W ∧ handlesMet Tryd.prog [("errors.errorType", Rows.laid_errors_errorType)] W := h
  obtain ⟨name, u, ty, e1, e2, e3, e4, e5⟩ := h'.2 _ (List.mem_singleton.2 rfl)
  have en : name = [101, 114, 114, 111, 114] := (Option.some.inj e1).symm
  subst en
  obtain rfl := Option.some.inj (rt0.symm.trans e2)
  have hm : ty ∈ (List.range 212).filter fun t => Tryd.prog.rowNamed t [101, 114, 114, 111, 114] := List.mem_filter.2 ⟨List.mem_range.2 (by rw [← typesSize]; exact e3), e4⟩
  rw [oneRow] at hm
  obtain rfl := List.mem_singleton.1 hm
  have hh : typeHandle Tryd.prog 32 = .pointer (some ⟨2, 32, none⟩) := by kernel_rfl
  rw [hh] at e5
  simpa using World.var?_cell et e5 0
theorem laidOutI : laidOutB Tryd.prog = true := by kernel_rfl
theorem block_of_cell {W : World} {v : Value} (h : W.cell? ⟨0, 0, none⟩ = some v) : 0 < W.heap.size := by
  rcases Nat.lt_or_ge 0 W.heap.size with h' | h'
  · exact h'
  · simp [World.cell?, Array.getElem?_eq_none h'] at h

end Go.Proofs.YtphcncgdodhlbaaDoor
namespace Go.Proofs.YtphcncgdodhlbaaDoor
set_option linter.unusedSimpArgs false
set_option linter.unusedVariables false
set_option maxRecDepth 100000
open Go.RowKit

/-- A number by its bits. -/
def mkw (f : Nat → Bool) : Nat → Nat
  | 0 => 0
  | k + 1 => (if f k then 2 ^ k else 0) ||| mkw f k
theorem mkw_bit (f : Nat → Bool) : ∀ n j, (mkw f n).testBit j = (decide (j < n) && f j)
  | 0, j => by simp [mkw]
  | n + 1, j => by
    rw [mkw, Nat.testBit_or, mkw_bit f n j]
    by_cases hj : j = n
    · subst hj
      cases hf : f j
      · simp
      · simp [Nat.testBit_two_pow_self]
    · have e : (if f n = true then 2 ^ n else 0).testBit j = false := by
        split
        · rw [Nat.testBit_two_pow]; simp; omega
        · simp
      rw [e]
      have : (j < n + 1) = (j < n) := by apply propext; omega
      simp [this]
theorem mkw_lt (f : Nat → Bool) : ∀ n, mkw f n < 2 ^ n
  | 0 => by simp [mkw]
  | n + 1 => by
    rw [mkw]
    apply Nat.or_lt_two_pow
    · split
      · exact Nat.pow_lt_pow_right (by decide) (by omega)
      · exact Nat.two_pow_pos _
    · exact Nat.lt_trans (mkw_lt f n) (Nat.pow_lt_pow_right (by decide) (by omega))
theorem mkw64 (f : Nat → Bool) : mkw f 64 < 18446744073709551616 := mkw_lt f 64
/-- Word i of a set of places. -/
def wd (p : Nat → Bool) (i : Nat) : Int := ((mkw (fun k => p (64 * i + k)) 64 : Nat) : Int)
theorem wd_nat (p : Nat → Bool) (i : Nat) : ∃ n : Nat, wd p i = (n : Int) ∧ n < 18446744073709551616 ∧ n = mkw (fun k => p (64 * i + k)) 64 := ⟨_, rfl, mkw64 _, rfl⟩
theorem wd_ok (p : Nat → Bool) (i : Nat) : okW (wd p i) := by
  unfold wd okW
  have := mkw64 (fun k => p (64 * i + k))
  omega
theorem wd_bit (p : Nat → Bool) (i j : Nat) (hj : j < 64) : (wd p i).toNat.testBit j = p (64 * i + j) := by
  unfold wd
  rw [Int.toNat_natCast, mkw_bit]
  simp [hj]
theorem wd_of {x : Int} {p : Nat → Bool} {i : Nat} (hx : okW x) (h : ∀ j, j < 64 → x.toNat.testBit j = p (64 * i + j)) : x = wd p i :=
  word_ext hx (wd_ok p i) (fun j hj => by rw [h j hj, wd_bit p i j hj])
theorem wd_congr {p q : Nat → Bool} {i : Nat} (h : ∀ j, j < 64 → p (64 * i + j) = q (64 * i + j)) : wd p i = wd q i :=
  wd_of (wd_ok p i) (fun j hj => by rw [wd_bit p i j hj, h j hj])
/-- The seven words. -/
def cellsP (p : Nat → Bool) : List Value := [.int .u64 (wd p 0), .int .u64 (wd p 1), .int .u64 (wd p 2), .int .u64 (wd p 3), .int .u64 (wd p 4), .int .u64 (wd p 5), .int .u64 (wd p 6)]
def plV (p : Nat → Bool) : Value := .agg #[.int .u64 (wd p 0), .int .u64 (wd p 1), .int .u64 (wd p 2), .int .u64 (wd p 3), .int .u64 (wd p 4), .int .u64 (wd p 5), .int .u64 (wd p 6)]
theorem cellsP_get (p : Nat → Bool) (i : Nat) (h : i < 7) : (cellsP p)[i]? = some (.int .u64 (wd p i)) := by
  match i, h with
  | 0, _ | 1, _ | 2, _ | 3, _ | 4, _ | 5, _ | 6, _ => rfl
theorem cellsP_congr {p q : Nat → Bool} (h : ∀ j, j < 448 → p j = q j) : cellsP p = cellsP q := by
  have e : ∀ i, i < 7 → wd p i = wd q i := fun i hi => wd_congr (fun j hj => h _ (by omega))
  unfold cellsP
  rw [e 0 (by omega), e 1 (by omega), e 2 (by omega), e 3 (by omega), e 4 (by omega), e 5 (by omega), e 6 (by omega)]
theorem plV_congr {p q : Nat → Bool} (h : ∀ j, j < 448 → p j = q j) : plV p = plV q := by
  have e : ∀ i, i < 7 → wd p i = wd q i := fun i hi => wd_congr (fun j hj => h _ (by omega))
  unfold plV
  rw [e 0 (by omega), e 1 (by omega), e 2 (by omega), e 3 (by omega), e 4 (by omega), e 5 (by omega), e 6 (by omega)]
/-- One word is set. -/
theorem cellsP_set {p q : Nat → Bool} (i : Nat) (hi : i < 7) {x : Int} (hx : okW x) (hb : ∀ j, j < 64 → x.toNat.testBit j = q (64 * i + j)) (ho : ∀ k j, k < 7 → k ≠ i → j < 64 → p (64 * k + j) = q (64 * k + j)) :
    (cellsP p).set i (.int .u64 x) = cellsP q := by
  have e1 : x = wd q i := wd_of hx hb
  have e2 : ∀ k, k < 7 → k ≠ i → wd p k = wd q k := fun k hk hne => wd_congr (fun j hj => ho k j hk hne hj)
  subst e1
  apply List.ext_getElem?
  intro k
  rw [List.getElem?_set]
  have hl : (cellsP p).length = 7 := rfl
  have hl2 : (cellsP q).length = 7 := rfl
  by_cases hk : k < 7
  · by_cases hki : i = k
    · subst hki
      rw [if_pos rfl, if_pos (by omega), cellsP_get q i hk]
    · rw [if_neg hki, cellsP_get p k hk, cellsP_get q k hk, e2 k hk (fun e => hki e.symm)]
  · rw [if_neg (by omega), List.getElem?_eq_none (by omega), List.getElem?_eq_none (by omega)]
def noP : Nat → Bool := fun _ => false
def withP (p : Nat → Bool) (a : Nat) : Nat → Bool := fun j => p j || decide (j = a)
def joinP (p q : Nat → Bool) : Nat → Bool := fun j => p j || q j
def whenP (so : Bool) (a : Nat) : Nat → Bool := fun j => so && decide (j = a)
theorem wd_no (i : Nat) : wd noP i = 0 := by
  refine (wd_of (x := 0) ⟨by omega, by omega⟩ (fun j hj => ?_)).symm
  simp [noP]
theorem with_set (p : Nat → Bool) (a : Nat) (ha : a < 448) : (cellsP p).set (a / 64) (.int .u64 (bits .or .u64 (wd p (a / 64)) (IntKind.u64.wrap (2 ^ (a % 64))))) = cellsP (withP p a) := by
  have h1 := or_ok (wd_ok p (a / 64)) (pow_small (a % 64) (by omega)).1
  refine cellsP_set (a / 64) (by omega) h1.1 (fun j hj => ?_) (fun k j hk hne hj => ?_)
  · rw [h1.2, wd_bit p _ j hj, (pow_small (a % 64) (by omega)).2]
    unfold withP
    congr 1
    have : (a % 64 = j) = (64 * (a / 64) + j = a) := by apply propext; omega
    simp only [this]
  · unfold withP
    have : ¬ 64 * k + j = a := by omega
    simp [this]
theorem has_word (p : Nat → Bool) (a : Nat) : (bits .and .u64 (wd p (a / 64) / 2 ^ (a % 64)) 1 == 1) = p a := by
  obtain ⟨n, hn, hl, he⟩ := wd_nat p (a / 64)
  rw [hn, bit_and1 n _ hl, he, mkw_bit]
  have e : 64 * (a / 64) + a % 64 = a := by omega
  have : a % 64 < 64 := by omega
  simp [this, e]
/-- After k words. -/
def joinK (p q : Nat → Bool) (k : Nat) : Nat → Bool := fun j => p j || (decide (j < 64 * k) && q j)
theorem joinK_zero (p q : Nat → Bool) : joinK p q 0 = p := by funext j; simp [joinK]
theorem join_set (p q : Nat → Bool) (k : Nat) (hk : k < 7) : (cellsP (joinK p q k)).set k (.int .u64 (bits .or .u64 (wd (joinK p q k) k) (wd q k))) = cellsP (joinK p q (k + 1)) := by
  have h1 := or_ok (wd_ok (joinK p q k) k) (wd_ok q k)
  refine cellsP_set k hk h1.1 (fun j hj => ?_) (fun i j hi hne hj => ?_)
  · rw [h1.2, wd_bit _ _ j hj, wd_bit _ _ j hj]
    unfold joinK
    have e1 : ¬ 64 * k + j < 64 * k := by omega
    have e2 : 64 * k + j < 64 * (k + 1) := by omega
    simp [e1, e2]
  · unfold joinK
    have : (64 * i + j < 64 * (k + 1)) = (64 * i + j < 64 * k) := by apply propext; omega
    simp only [this]
theorem joinK_end (p q : Nat → Bool) : cellsP (joinK p q 7) = cellsP (joinP p q) := by
  apply cellsP_congr
  intro j hj
  unfold joinK joinP
  have : j < 64 * 7 := by omega
  simp [this]
/-- The bits of a word from m on. -/
def cutw (f : Nat → Bool) (m : Nat) : Nat := mkw (fun k => decide (m ≤ k) && f k) 64
theorem cutw_zero (f : Nat → Bool) : cutw f 0 = mkw f 64 := by
  unfold cutw
  congr 1
theorem cutw_bit (f : Nat → Bool) (m j : Nat) : (cutw f m).testBit j = (decide (j < 64) && (decide (m ≤ j) && f j)) := mkw_bit _ 64 j
theorem cutw_none {f : Nat → Bool} {m : Nat} (h : cutw f m = 0) (k : Nat) (h1 : m ≤ k) (h2 : k < 64) : f k = false := by
  have := cutw_bit f m k
  rw [h] at this
  simp [h1, h2] at this
  exact this
theorem odd_bits (k m j : Nat) : (2 ^ k * (2 * m + 1)).testBit j = (decide (k ≤ j) && (2 * m + 1).testBit (j - k)) := by
  rw [Nat.mul_comm, Nat.testBit_mul_two_pow]
theorem cutw_step {f : Nat → Bool} {m : Nat} (h : cutw f m ≠ 0) : ∃ k, k = Lib.ctz 64 (cutw f m) ∧ m ≤ k ∧ k < 64 ∧ f k = true ∧ (∀ i, m ≤ i → i < k → f i = false) ∧ cutw f m &&& (cutw f m - 1) = cutw f (k + 1) := by
  have hlt : cutw f m < 2 ^ 64 := mkw_lt _ 64
  obtain ⟨z, hz, hk⟩ := Lib.ctzFrom_spec 64 (cutw f m) (by omega) hlt
  have e : Lib.ctz 64 (cutw f m) = Lib.ctzFrom 64 (cutw f m) := by simp [Lib.ctz, h]
  generalize Lib.ctzFrom 64 (cutw f m) = k at hz hk e
  refine ⟨k, e.symm, ?_⟩
  have hb : ∀ j, (decide (j < 64) && (decide (m ≤ j) && f j)) = (decide (k ≤ j) && (2 * z + 1).testBit (j - k)) := fun j => by
    rw [← cutw_bit, hz, odd_bits]
  have hkk := hb k
  simp [hk] at hkk
  refine ⟨hkk.1, hk, hkk.2, fun i hi hik => ?_, ?_⟩
  · have := hb i
    have h1 : i < 64 := by omega
    have h2 : ¬ k ≤ i := by omega
    simp [h1, h2, hi] at this
    exact this
  · apply Nat.eq_of_testBit_eq
    intro j
    rw [Nat.testBit_and, cutw_bit, cutw_bit, hb j]
    have e1 : cutw f m - 1 = 2 ^ k * (2 * z) + (2 ^ k - 1) := by
      have := Nat.two_pow_pos k
      rw [hz, Nat.mul_add, Nat.mul_one]
      omega
    have hlt2 : 2 ^ k - 1 < 2 ^ k := by have := Nat.two_pow_pos k; omega
    rw [e1, Nat.testBit_two_pow_mul_add _ hlt2]
    have hbj := hb j
    by_cases hj : j < k
    · have h1 : ¬ k ≤ j := by omega
      have h2 : ¬ k + 1 ≤ j := by omega
      simp [h1, h2]
    · rw [if_neg hj]
      by_cases hjk : j = k
      · subst hjk
        simp [Nat.testBit_zero]
        intro _ h; omega
      · have h1 : k ≤ j := by omega
        have h2 : k + 1 ≤ j := by omega
        obtain ⟨d, rfl⟩ : ∃ d, j = k + (d + 1) := ⟨j - k - 1, by omega⟩
        have e3 : k + (d + 1) - k = d + 1 := by omega
        have e4 : (2 * z + 1).testBit (d + 1) = z.testBit d := by
          rw [Nat.testBit_succ]; congr 1; omega
        have e5 : (2 * z).testBit (d + 1) = z.testBit d := by
          rw [Nat.testBit_succ]; congr 1; omega
        rw [e3, e4] at hbj
        rw [e3, e4, e5]
        have h3 : m ≤ k + (d + 1) := by omega
        simp [h1, h3] at hbj
        simp [h1, h2]
        rw [← hbj]
/-- The places below x, rising. -/
def el (p : Nat → Bool) (x : Nat) : List Nat := (List.range x).filter p
theorem el_snoc (p : Nat → Bool) (x : Nat) (h : p x = true) : el p (x + 1) = el p x ++ [x] := by
  unfold el
  rw [List.range_succ, List.filter_append]
  simp [h]
theorem el_skip (p : Nat → Bool) (x : Nat) : ∀ d, (∀ j, x ≤ j → j < x + d → p j = false) → el p (x + d) = el p x
  | 0, _ => rfl
  | d + 1, h => by
    unfold el
    rw [← Nat.add_assoc, List.range_succ, List.filter_append]
    have h1 := h (x + d) (by omega) (by omega)
    have := el_skip p x d (fun j h2 h3 => h j h2 (by omega))
    unfold el at this
    rw [this]
    simp [h1]
theorem el_skip' (p : Nat → Bool) (x y : Nat) (hxy : x ≤ y) (h : ∀ j, x ≤ j → j < y → p j = false) : el p y = el p x := by
  obtain ⟨d, rfl⟩ : ∃ d, y = x + d := ⟨y - x, by omega⟩
  exact el_skip p x d h
theorem el_mem (p : Nat → Bool) (x j : Nat) : j ∈ el p x ↔ j < x ∧ p j = true := by
  unfold el
  rw [List.mem_filter, List.mem_range]
theorem el_len (p : Nat → Bool) (x : Nat) : (el p x).length ≤ x := by
  unfold el
  have := List.length_filter_le p (List.range x)
  rw [List.length_range] at this
  exact this
end Go.Proofs.YtphcncgdodhlbaaDoor
namespace Go.Proofs.YtphcncgdodhlbaaDoor
set_option linter.unusedSimpArgs false
set_option linter.unusedVariables false
set_option maxRecDepth 100000
open Go.RowKit
/-- The table of the library's trailing zeros lies where it was laid. -/
def Tab (w : World) : Prop := ∀ i, i < 64 → w.cell? ⟨1, i, none⟩ = some (.int .u8 ((Lib.deBruijn64tab.getD i 0 : Nat) : Int))
theorem tab_lt {w : World} (h : Tab w) : 1 < w.heap.size := by
  have := h 0 (by omega)
  rcases Nat.lt_or_ge 1 w.heap.size with h' | h'
  · exact h'
  · simp [World.cell?, Array.getElem?_eq_none h'] at this
theorem Tab.below {w w' : World} {B : Nat} (h : Tab w) (hb : Below B w w') (hB : w.heap.size ≤ B) : Tab w' := fun i hi =>
  (hb.cell (p := ⟨1, i, none⟩) (Nat.lt_of_lt_of_le (tab_lt h) hB)).trans (h i hi)
theorem Tab.grown {w w' : World} {row : Option Nat} (h : Tab w) (hg : w.grownBy w' row) (hr : some 1 ≠ row) : Tab w' := fun i hi =>
  (World.cell?_of_block (a := ⟨1, i, none⟩) (hg.block _ (tab_lt h) hr)).trans (h i hi)
theorem tz_neg (n : Nat) (h0 : n ≠ 0) (hn : n < 18446744073709551616) : IntKind.u64.wrap (-(n : Int)) = ((18446744073709551616 - n : Nat) : Int) := by
  have e : IntKind.u64.wrap (-(n : Int)) = (-(n : Int)) % 18446744073709551616 := rfl
  rw [e]; omega
theorem tz_low (n : Nat) (h0 : n ≠ 0) (hn : n < 18446744073709551616) : bits .and .u64 (n : Int) (IntKind.u64.wrap (-(n : Int))) = ((2 ^ Lib.ctz 64 n : Nat) : Int) ∧ Lib.ctz 64 n < 64 := by
  have h := Lib.lowest_bit 64 n h0 hn
  rw [tz_neg n h0 hn, u64_and_nat n (18446744073709551616 - n) hn (by omega)]
  exact ⟨congrArg _ h.1, h.2⟩
theorem tz_at (n : Nat) (h0 : n ≠ 0) (hn : n < 18446744073709551616) : ∃ z : Nat, IntKind.u64.wrap (bits .and .u64 (n : Int) (IntKind.u64.wrap (-(n : Int))) * 285870213051353865) / 288230376151711744 = (z : Int) ∧ z < 64 ∧ Lib.deBruijn64tab.getD z 0 = Lib.ctz 64 n ∧ Lib.ctz 64 n < 64 := by
  obtain ⟨h1, h2⟩ := tz_low n h0 hn
  have h3 := Lib.deBruijn64_at _ h2
  refine ⟨_, ?_, h3.1, h3.2, h2⟩
  rw [h1]
  have e : IntKind.u64.wrap (((2 ^ Lib.ctz 64 n : Nat) : Int) * 285870213051353865) = ((2 ^ Lib.ctz 64 n : Nat) : Int) * 285870213051353865 % 18446744073709551616 := rfl
  rw [e]
  generalize 2 ^ Lib.ctz 64 n = m
  omega
theorem tz_any (n : Nat) (h0 : n ≠ 0) (hn : n < 18446744073709551616) (w : World) (hT : Tab w) :
    Calls Tryd.prog 41 #[.int .u64 (n : Int)] w fun e w' => e = .returned (.int .i64 ((Lib.ctz 64 n : Nat) : Int)) ∧ w' = w := by
  obtain ⟨z, hz, hz64, hzt, hk⟩ := tz_at n h0 hn
  have hc := hT z hz64
  rw [hzt] at hc
  have hb : ((n : Int) == 0) = false := by rw [beq_eq_false_iff_ne]; omega
  have hzn : ((z : Int)).toNat = z := by omega
  have hw : wrap64 ((Lib.ctz 64 n : Nat) : Int) = ((Lib.ctz 64 n : Nat) : Int) := by unfold wrap64; omega
  clear hzt
  go_enter Tryd.func41, Tryd.ntmps41
  go_wp2
  go_ret
  exact ⟨rfl, rfl⟩
end Go.Proofs.YtphcncgdodhlbaaDoor
namespace Go.Proofs.YtphcncgdodhlbaaDoor
set_option linter.unusedSimpArgs false
set_option linter.unusedVariables false
set_option maxRecDepth 100000
open Go.ChangeShapes Go.WideShapes Go.ChangeAt Go.RowKit

abbrev tabL : List (String × DataW Unit) := [("math/bits.deBruijn64tab", Rows.laid_math_bits_deBruijn64tab)]
theorem tabG : Tryd.prog.globalNamed "math/bits.deBruijn64tab" = some 1 := by kernel_rfl
theorem tabT : (Tryd.prog.globals[(1 : Nat)]?).map (·.type) = some 150 := by kernel_rfl
theorem tabD : (Rows.laid_math_bits_deBruijn64tab : DataW Unit) = .agg ((List.range 64).map fun i => .lit (.int .u8 ((Lib.deBruijn64tab.getD i 0 : Nat) : Int))) := by rfl
theorem tab_of_laid {W : World} (h : laidMet Tryd.prog tabL W) : Tab W := by
  obtain ⟨ps, ⟨g, t, cs, fuel, p, q, hg, ht, hv, htr, _, _⟩, _, _⟩ := h
  obtain rfl := Option.some.inj (tabG.symm.trans hg)
  obtain rfl := Option.some.inj (tabT.symm.trans ht)
  obtain ⟨xs, m, _, hx, hlen, hxl, hall⟩ := DataW.trod_array Tryd.underlying150 htr
  have hc1 : Tryd.prog.cellsOf 5 = 1 := by kernel_rfl
  have hd : xs.map (·.1) = (List.range 64).map fun i => (.lit (.int .u8 ((Lib.deBruijn64tab.getD i 0 : Nat) : Int)) : DataW Unit) := by
    have := congrArg Prod.fst hx
    rw [tabD] at this
    simp only [DataW.agg.injEq] at this
    exact this.symm
  intro i hi
  rw [World.var?_cell tabG hv i]
  have h1 := hall i hi
  have hxi : i < xs.length := by omega
  rw [List.getElem?_eq_getElem hxi, hc1, Nat.mul_one] at h1
  have h2 : xs[i].1 = .lit (.int .u8 ((Lib.deBruijn64tab.getD i 0 : Nat) : Int)) := by
    have := congrArg (fun l => l[i]?) hd
    simp only [List.getElem?_map, List.getElem?_range hi, Option.map_some, List.getElem?_eq_getElem hxi, Option.some.injEq] at this
    exact this
  obtain ⟨z, hz, hxz, _⟩ := DataW.trod_int Tryd.underlying5 h1
  rw [hxz] at h2
  simp only [DataW.lit.injEq, Lit.int.injEq, true_and] at h2
  subst h2
  have h3 : (cs.toList.drop i)[0]? = some (.int .u8 ((Lib.deBruijn64tab.getD i 0 : Nat) : Int)) := by
    have := congrArg (fun l => l[0]?) hz
    simpa [List.getElem?_take] using this
  simpa using h3
theorem tab_of_only {W : World} (h : laidMetH Tryd.prog [("math/bits.deBruijn64tab", Rows.laid_math_bits_deBruijn64tab)] W) : Tab W := tab_of_laid (show laidMet Tryd.prog tabL W from h)
theorem both_parts {W : World} (h : laidMetH Tryd.prog [("math/bits.deBruijn64tab", Rows.laid_math_bits_deBruijn64tab), ("errors.errorType", Rows.laid_errors_errorType)] W) : laidMet Tryd.prog tabL W ∧ handlesMet Tryd.prog [("errors.errorType", Rows.laid_errors_errorType)] W := h
theorem tab_of_both {W : World} (h : laidMetH Tryd.prog [("math/bits.deBruijn64tab", Rows.laid_math_bits_deBruijn64tab), ("errors.errorType", Rows.laid_errors_errorType)] W) : Tab W := tab_of_laid (both_parts h).1
theorem handle_of_both {W : World} (h : laidMetH Tryd.prog [("math/bits.deBruijn64tab", Rows.laid_math_bits_deBruijn64tab), ("errors.errorType", Rows.laid_errors_errorType)] W) : W.cell? ⟨0, 0, none⟩ = some (rty 32) :=
  handle_of_laid (show laidMetH Tryd.prog [("errors.errorType", Rows.laid_errors_errorType)] W from (show laidMet Tryd.prog [] W ∧ handlesMet Tryd.prog [("errors.errorType", Rows.laid_errors_errorType)] W from ⟨laidMet_nil _ _, (both_parts h).2⟩))
/-- The table's cells. -/
def tabCells : Array Value := (Lib.deBruijn64tab.map fun n : Nat => Value.int .u8 (n : Int)).toArray
/-- A heap in which the table and the handle lie as start-up lays them. -/
def setTab (h : Array Obj) : Array Obj := h.modify 1 fun
  | .cells _ t frozen => .cells tabCells t frozen
  | o => o
def setErr (h : Array Obj) : Array Obj := h.modify 0 fun
  | .cells _ t frozen => .cells #[rty 32] t frozen
  | o => o
end Go.Proofs.YtphcncgdodhlbaaDoor
namespace Go.Proofs.YtphcncgdodhlbaaDoor
set_option linter.unusedSimpArgs false
set_option linter.unusedVariables false
set_option maxRecDepth 100000
open Go.RowKit

/-- A valid pattern as a tree. -/
inductive Rx where
  | leaf : Nd → Rx
  | one : Nd → Rx → Rx
  | two : Nd → Rx → Rx → Rx
def Rx.flat : Rx → List Nd
  | .leaf n => [n]
  | .one n a => n :: a.flat
  | .two n a b => n :: (a.flat ++ b.flat)
def Rx.Ok : Rx → Prop
  | .leaf n => prt n.op = 0
  | .one n a => prt n.op = 1 ∧ a.Ok
  | .two n a b => prt n.op = 2 ∧ a.Ok ∧ b.Ok
def Rx.turn : Rx → Rx
  | .leaf n => .leaf n.flip
  | .one n a => .one n.flip a.turn
  | .two n a b => if n.op = 3 then .two n.flip b.turn a.turn else .two n.flip a.turn b.turn
def Rx.emp : Rx → Bool
  | .leaf n => !decide (n.op = 1)
  | .one n a => if n.op = 6 then a.emp else true
  | .two n a b => if n.op = 3 then a.emp && b.emp else a.emp || b.emp
theorem Rx.flat_pos : ∀ t : Rx, 0 < t.flat.length
  | .leaf n => by simp [Rx.flat]
  | .one n a => by simp [Rx.flat]
  | .two n a b => by simp [Rx.flat]
theorem get_mid (p q : List Nd) (n : Nd) : (p ++ n :: q)[p.length]? = some n := by
  rw [List.getElem?_append_right (Nat.le_refl _)]; simp
/-- The end of a tree's part. -/
theorem endF_flat : ∀ (t : Rx), t.Ok → ∀ (p q : List Nd) (f : Nat), t.flat.length ≤ f → endF (p ++ t.flat ++ q) f p.length = some (p.length + t.flat.length)
  | .leaf n, h, p, q, f, hf => by
    obtain ⟨f, rfl⟩ : ∃ g, f = g + 1 := ⟨f - 1, by simp [Rx.flat] at hf; omega⟩
    have e : p ++ (Rx.leaf n).flat ++ q = p ++ n :: q := by simp [Rx.flat]
    rw [e, endF, get_mid]
    simp only
    rw [if_pos (show prt n.op = 0 from h)]
    simp [Rx.flat]
  | .one n a, h, p, q, f, hf => by
    obtain ⟨f, rfl⟩ : ∃ g, f = g + 1 := ⟨f - 1, by simp [Rx.flat] at hf; omega⟩
    have ih := endF_flat a h.2 (p ++ [n]) q f (by simp [Rx.flat] at hf; omega)
    have e : p ++ (Rx.one n a).flat ++ q = p ++ n :: (a.flat ++ q) := by simp [Rx.flat]
    have e' : p ++ [n] ++ a.flat ++ q = p ++ n :: (a.flat ++ q) := by simp
    rw [e'] at ih
    rw [e, endF, get_mid]
    simp only
    rw [if_neg (by have := h.1; omega), if_pos h.1]
    rw [show p.length + 1 = (p ++ [n]).length from by simp, ih]
    simp [Rx.flat]; omega
  | .two n a b, h, p, q, f, hf => by
    obtain ⟨f, rfl⟩ : ∃ g, f = g + 1 := ⟨f - 1, by simp [Rx.flat] at hf; omega⟩
    have ih := endF_flat a h.2.1 (p ++ [n]) (b.flat ++ q) f (by simp [Rx.flat] at hf; omega)
    have ih2 := endF_flat b h.2.2 (p ++ [n] ++ a.flat) q f (by simp [Rx.flat] at hf; omega)
    have e : p ++ (Rx.two n a b).flat ++ q = p ++ n :: (a.flat ++ (b.flat ++ q)) := by simp [Rx.flat]
    have e' : p ++ [n] ++ a.flat ++ (b.flat ++ q) = p ++ n :: (a.flat ++ (b.flat ++ q)) := by simp
    have e2 : p ++ [n] ++ a.flat ++ b.flat ++ q = p ++ n :: (a.flat ++ (b.flat ++ q)) := by simp
    rw [e'] at ih
    rw [e2] at ih2
    rw [e, endF, get_mid]
    simp only
    rw [if_neg (by have := h.1; omega), if_neg (by have := h.1; omega)]
    rw [show p.length + 1 = (p ++ [n]).length from by simp, ih]
    rw [Option.bind_some, show (p ++ [n]).length + a.flat.length = (p ++ [n] ++ a.flat).length from by simp; omega, ih2]
    simp [Rx.flat]; omega
/-- A valid part is a tree's. -/
theorem part_tree (ns : List Nd) : ∀ (f i j : Nat), endF ns f i = some j → ∃ t : Rx, t.Ok ∧ ∃ q, ns.drop i = t.flat ++ q ∧ j = i + t.flat.length
  | 0, i, j, h => by simp [endF] at h
  | f + 1, i, j, h => by
    obtain ⟨n, hn, hil, hc⟩ := part_cases ns f i j h
    have hd : ns.drop i = n :: ns.drop (i + 1) := by
      rw [List.drop_eq_getElem_cons hil]
      rw [List.getElem?_eq_getElem hil] at hn
      rw [Option.some.inj hn]
    rcases hc with ⟨h0, rfl⟩ | ⟨h0, h1⟩ | ⟨h0, k, h1, h2⟩
    · exact ⟨.leaf n, h0, _, hd, rfl⟩
    · obtain ⟨t, ht, q, e, ej⟩ := part_tree ns f _ _ h1
      exact ⟨.one n t, ⟨h0, ht⟩, q, by rw [hd, e]; simp [Rx.flat], by rw [ej]; simp [Rx.flat]; omega⟩
    · obtain ⟨t, ht, q, e, ek⟩ := part_tree ns f _ _ h1
      obtain ⟨u, hu, r, e2, ej⟩ := part_tree ns f _ _ h2
      have hq : q = ns.drop k := by
        have : (ns.drop (i + 1)).drop t.flat.length = q := by rw [e]; simp
        rw [← this, List.drop_drop, ek]
      refine ⟨.two n t u, ⟨h0, ht, hu⟩, r, ?_, ?_⟩
      · rw [hd, e, hq, e2]; simp [Rx.flat]
      · rw [ej, ek]; simp [Rx.flat]; omega
theorem tree_of (ns : List Nd) (hv : endE ns 0 = some ns.length) : ∃ t : Rx, t.Ok ∧ ns = t.flat := by
  obtain ⟨t, ht, q, e, ej⟩ := part_tree ns _ 0 _ hv
  refine ⟨t, ht, ?_⟩
  rw [List.drop_zero] at e
  have : q = [] := by
    apply List.eq_nil_of_length_eq_zero
    have := congrArg List.length e
    simp at this
    omega
  rw [e, this, List.append_nil]
theorem endE_flat (t : Rx) (ht : t.Ok) : endE t.flat 0 = some t.flat.length := by
  have := endF_flat t ht [] [] (t.flat.length + 1) (by omega)
  simpa [endE] using this
theorem endE_mid (t : Rx) (ht : t.Ok) (p q : List Nd) : endE (p ++ t.flat ++ q) p.length = some (p.length + t.flat.length) :=
  endF_flat t ht p q _ (by simp; omega)
theorem flip_prt (op : Int) : prt (flipOp op) = prt op := by
  unfold flipOp
  split
  · rename_i h; subst h; rfl
  · split
    · rename_i h; subst h; rfl
    · rfl
theorem flip_flip (n : Nd) : n.flip.flip = n := by
  obtain ⟨op, c⟩ := n
  simp only [Nd.flip, Nd.mk.injEq, and_true]
  unfold flipOp
  by_cases h8 : op = 8
  · subst h8; rfl
  · by_cases h9 : op = 9
    · subst h9; rfl
    · simp [h8, h9]
theorem flip_eq {op : Int} (k : Int) (hk : k ≠ 8) (hk' : k ≠ 9) : flipOp op = k ↔ op = k := by
  unfold flipOp
  by_cases h8 : op = 8
  · subst h8; simp; omega
  · by_cases h9 : op = 9
    · subst h9; simp; omega
    · simp [h8, h9]
theorem turF_flat : ∀ (t : Rx), t.Ok → ∀ (p q : List Nd) (f : Nat), t.flat.length ≤ f → turF (p ++ t.flat ++ q) f p.length = t.turn.flat
  | .leaf n, h, p, q, f, hf => by
    obtain ⟨f, rfl⟩ : ∃ g, f = g + 1 := ⟨f - 1, by simp [Rx.flat] at hf; omega⟩
    have e : p ++ (Rx.leaf n).flat ++ q = p ++ n :: q := by simp [Rx.flat]
    have h0 : prt n.op = 0 := h
    have e3 : ¬ n.op = 3 := by intro e; rw [e] at h0; simp [prt] at h0
    have e4 : ¬ n.op = 4 := by intro e; rw [e] at h0; simp [prt] at h0
    rw [e, turF_at _ f _ n (get_mid p q n), if_neg (by omega), if_neg e3, if_neg e4]
    simp [Rx.flat, Rx.turn]
  | .one n a, h, p, q, f, hf => by
    obtain ⟨f, rfl⟩ : ∃ g, f = g + 1 := ⟨f - 1, by simp [Rx.flat] at hf; omega⟩
    have ih := turF_flat a h.2 (p ++ [n]) q f (by simp [Rx.flat] at hf; omega)
    have e : p ++ (Rx.one n a).flat ++ q = p ++ n :: (a.flat ++ q) := by simp [Rx.flat]
    have e' : p ++ [n] ++ a.flat ++ q = p ++ n :: (a.flat ++ q) := by simp
    rw [e'] at ih
    rw [e, turF_at _ f _ n (get_mid p _ n), if_pos h.1]
    rw [show p.length + 1 = (p ++ [n]).length from by simp, ih]
    simp [Rx.flat, Rx.turn]
  | .two n a b, h, p, q, f, hf => by
    obtain ⟨f, rfl⟩ : ∃ g, f = g + 1 := ⟨f - 1, by simp [Rx.flat] at hf; omega⟩
    have ih := turF_flat a h.2.1 (p ++ [n]) (b.flat ++ q) f (by simp [Rx.flat] at hf; omega)
    have ih2 := turF_flat b h.2.2 (p ++ [n] ++ a.flat) q f (by simp [Rx.flat] at hf; omega)
    have ie := endE_mid a h.2.1 (p ++ [n]) (b.flat ++ q)
    have e : p ++ (Rx.two n a b).flat ++ q = p ++ n :: (a.flat ++ (b.flat ++ q)) := by simp [Rx.flat]
    have e' : p ++ [n] ++ a.flat ++ (b.flat ++ q) = p ++ n :: (a.flat ++ (b.flat ++ q)) := by simp
    have e2 : p ++ [n] ++ a.flat ++ b.flat ++ q = p ++ n :: (a.flat ++ (b.flat ++ q)) := by simp
    rw [e'] at ih ie
    rw [e2] at ih2
    rw [e, turF_at _ f _ n (get_mid p _ n), if_neg (by have := h.1; omega)]
    rw [show p.length + 1 = (p ++ [n]).length from by simp, ih, ie, Option.getD_some]
    rw [show (p ++ [n]).length + a.flat.length = (p ++ [n] ++ a.flat).length from by simp; omega, ih2]
    rcases (prt_two n.op).1 h.1 with e3 | e4
    · rw [if_pos e3, Rx.turn, if_pos e3, Rx.flat]
    · rw [if_neg (by omega), if_pos e4, Rx.turn, if_neg (by omega), Rx.flat]
theorem empF_flat : ∀ (t : Rx), t.Ok → ∀ (p q : List Nd) (f : Nat), t.flat.length ≤ f → empF (p ++ t.flat ++ q) f p.length = t.emp
  | .leaf n, h, p, q, f, hf => by
    obtain ⟨f, rfl⟩ : ∃ g, f = g + 1 := ⟨f - 1, by simp [Rx.flat] at hf; omega⟩
    have e : p ++ (Rx.leaf n).flat ++ q = p ++ n :: q := by simp [Rx.flat]
    have h0 : prt n.op = 0 := h
    have e3 : ¬ n.op = 3 := by intro e; rw [e] at h0; simp [prt] at h0
    have e4 : ¬ n.op = 4 := by intro e; rw [e] at h0; simp [prt] at h0
    have e6 : ¬ n.op = 6 := by intro e; rw [e] at h0; simp [prt] at h0
    rw [e, empF_at _ f _ n (get_mid p q n), if_neg e3, if_neg e4, if_neg e6, Rx.emp]
    by_cases h1 : n.op = 1 <;> simp [h1]
  | .one n a, h, p, q, f, hf => by
    obtain ⟨f, rfl⟩ : ∃ g, f = g + 1 := ⟨f - 1, by simp [Rx.flat] at hf; omega⟩
    have ih := empF_flat a h.2 (p ++ [n]) q f (by simp [Rx.flat] at hf; omega)
    have e : p ++ (Rx.one n a).flat ++ q = p ++ n :: (a.flat ++ q) := by simp [Rx.flat]
    have e' : p ++ [n] ++ a.flat ++ q = p ++ n :: (a.flat ++ q) := by simp
    have h0 := (prt_one n.op).1 h.1
    rw [e'] at ih
    rw [e, empF_at _ f _ n (get_mid p _ n), if_neg (by omega), if_neg (by omega), if_neg (by omega)]
    rw [show p.length + 1 = (p ++ [n]).length from by simp, ih, Rx.emp]
  | .two n a b, h, p, q, f, hf => by
    obtain ⟨f, rfl⟩ : ∃ g, f = g + 1 := ⟨f - 1, by simp [Rx.flat] at hf; omega⟩
    have ih := empF_flat a h.2.1 (p ++ [n]) (b.flat ++ q) f (by simp [Rx.flat] at hf; omega)
    have ih2 := empF_flat b h.2.2 (p ++ [n] ++ a.flat) q f (by simp [Rx.flat] at hf; omega)
    have ie := endE_mid a h.2.1 (p ++ [n]) (b.flat ++ q)
    have e : p ++ (Rx.two n a b).flat ++ q = p ++ n :: (a.flat ++ (b.flat ++ q)) := by simp [Rx.flat]
    have e' : p ++ [n] ++ a.flat ++ (b.flat ++ q) = p ++ n :: (a.flat ++ (b.flat ++ q)) := by simp
    have e2 : p ++ [n] ++ a.flat ++ b.flat ++ q = p ++ n :: (a.flat ++ (b.flat ++ q)) := by simp
    rw [e'] at ih ie
    rw [e2] at ih2
    have h0 := (prt_two n.op).1 h.1
    rw [e, empF_at _ f _ n (get_mid p _ n), if_neg (by omega)]
    rw [show p.length + 1 = (p ++ [n]).length from by simp, ih, ie, Option.getD_some]
    rw [show (p ++ [n]).length + a.flat.length = (p ++ [n] ++ a.flat).length from by simp; omega, ih2, Rx.emp]
    rcases h0 with e3 | e4
    · rw [if_pos e3, if_pos e3]
    · rw [if_neg (by omega), if_pos e4, if_neg (by omega)]
theorem Rx.turn_ok : ∀ t : Rx, t.Ok → t.turn.Ok
  | .leaf n, h => by show prt (flipOp n.op) = 0; rw [flip_prt]; exact h
  | .one n a, h => ⟨(flip_prt n.op).trans h.1, turn_ok a h.2⟩
  | .two n a b, h => by
    unfold Rx.turn
    split
    · exact ⟨(flip_prt n.op).trans h.1, turn_ok b h.2.2, turn_ok a h.2.1⟩
    · exact ⟨(flip_prt n.op).trans h.1, turn_ok a h.2.1, turn_ok b h.2.2⟩
theorem Rx.turn_turn : ∀ t : Rx, t.turn.turn = t
  | .leaf n => by simp [Rx.turn, flip_flip]
  | .one n a => by simp [Rx.turn, flip_flip, turn_turn a]
  | .two n a b => by
    have hf : n.flip.op = 3 ↔ n.op = 3 := flip_eq 3 (by decide) (by decide)
    by_cases h3 : n.op = 3
    · rw [Rx.turn, if_pos h3, Rx.turn, if_pos (hf.2 h3), flip_flip, turn_turn a, turn_turn b]
    · rw [Rx.turn, if_neg h3, Rx.turn, if_neg (fun e => h3 (hf.1 e)), flip_flip, turn_turn a, turn_turn b]
theorem Rx.turn_emp : ∀ t : Rx, t.turn.emp = t.emp
  | .leaf n => by
    have hf : n.flip.op = 1 ↔ n.op = 1 := flip_eq 1 (by decide) (by decide)
    simp [Rx.turn, Rx.emp, hf]
  | .one n a => by
    have hf : n.flip.op = 6 ↔ n.op = 6 := flip_eq 6 (by decide) (by decide)
    simp [Rx.turn, Rx.emp, hf, turn_emp a]
  | .two n a b => by
    have hf : n.flip.op = 3 ↔ n.op = 3 := flip_eq 3 (by decide) (by decide)
    by_cases h3 : n.op = 3
    · rw [Rx.turn, if_pos h3, Rx.emp, if_pos (hf.2 h3), Rx.emp, if_pos h3, turn_emp a, turn_emp b, Bool.and_comm]
    · rw [Rx.turn, if_neg h3, Rx.emp, if_neg (fun e => h3 (hf.1 e)), Rx.emp, if_neg h3, turn_emp a, turn_emp b]
theorem turE_flat (t : Rx) (ht : t.Ok) : turF t.flat (t.flat.length + 1) 0 = t.turn.flat := by
  have := turF_flat t ht [] [] (t.flat.length + 1) (by omega)
  simpa using this
theorem empE_flat (t : Rx) (ht : t.Ok) : empE t.flat = t.emp := by
  have := empF_flat t ht [] [] (t.flat.length + 1) (by omega)
  simpa [empE] using this
/-- Turned, the nodes are the same but for their order and Begin and End. -/
theorem Rx.turn_mem : ∀ (t : Rx) (n : Nd), n ∈ t.turn.flat ↔ n.flip ∈ t.flat
  | .leaf m, n => by
    simp only [Rx.turn, Rx.flat, List.mem_singleton]
    constructor
    · rintro rfl; exact flip_flip m
    · intro h; rw [← h, flip_flip]
  | .one m a, n => by
    simp only [Rx.turn, Rx.flat, List.mem_cons, turn_mem a n]
    constructor
    · rintro (rfl | h)
      · exact Or.inl (flip_flip m)
      · exact Or.inr h
    · rintro (h | h)
      · exact Or.inl (by rw [← h, flip_flip])
      · exact Or.inr h
  | .two m a b, n => by
    have hm : n = m.flip ↔ n.flip = m := ⟨by rintro rfl; exact flip_flip m, by intro h; rw [← h, flip_flip]⟩
    by_cases h3 : m.op = 3
    · rw [Rx.turn, if_pos h3]
      simp only [Rx.flat, List.mem_cons, List.mem_append, turn_mem a n, turn_mem b n, hm]
      constructor
      · rintro (h | h | h) <;> simp [h]
      · rintro (h | h | h) <;> simp [h]
    · rw [Rx.turn, if_neg h3]
      simp only [Rx.flat, List.mem_cons, List.mem_append, turn_mem a n, turn_mem b n, hm]
theorem scanL_zero : ∀ (ns : List Nd), scanL ns = 0 ↔ ∀ n ∈ ns, (1 ≤ n.op ∧ n.op ≤ 9) ∧ (n.op = 1 ∨ n.c.eqb z4 = true)
  | [] => by simp [scanL]
  | n :: r => by
    rw [scanL]
    simp only [List.mem_cons, forall_eq_or_imp, ← scanL_zero r]
    by_cases h : n.op < 1 ∨ 9 < n.op
    · rw [if_pos h]
      simp
      omega
    · rw [if_neg h]
      by_cases h2 : ¬ n.op = 1 ∧ ¬ n.c.eqb z4 = true
      · rw [if_pos h2]
        simp [h2.1, h2.2]
      · rw [if_neg h2]
        have h3 : n.op = 1 ∨ n.c.eqb z4 = true := by
          rcases Classical.em (n.op = 1) with e | e
          · exact Or.inl e
          · exact Or.inr (Classical.byContradiction fun e' => h2 ⟨e, e'⟩)
        have h4 : 1 ≤ n.op ∧ n.op ≤ 9 := by omega
        simp only [h3, h4, and_self, true_and]
theorem faultL_zero (ns : List Nd) : faultL ns = 0 ↔ ns.length ≤ 60 ∧ (∀ n ∈ ns, (1 ≤ n.op ∧ n.op ≤ 9) ∧ (n.op = 1 ∨ n.c.eqb z4 = true)) ∧ endE ns 0 = some ns.length := by
  rw [faultL, ← scanL_zero]
  by_cases h : 60 < ns.length
  · rw [if_pos h]; simp; omega
  · rw [if_neg h]
    by_cases h2 : scanL ns = 0
    · rw [if_neg (by simp [h2])]
      by_cases h3 : endE ns 0 = some ns.length
      · have h4 : ns ≠ [] := by rintro rfl; rw [endE_nil] at h3; cases h3
        rw [if_neg (by simp [h3, h4])]
        simp [h2, h3]; omega
      · rw [if_pos (Or.inr h3)]; simp [h3]
    · rw [if_pos (by simp [h2])]
      simp [h2]
/-- A pattern without a fault, turned. -/
theorem turn_good (ns : List Nd) (h : faultL ns = 0) : faultL (turF ns (ns.length + 1) 0) = 0 := by
  obtain ⟨h1, h2, h3⟩ := (faultL_zero ns).1 h
  obtain ⟨t, ht, rfl⟩ := tree_of ns h3
  have hl := turF_len t.flat _ 0 _ (Nat.le_refl _) h3
  rw [turE_flat t ht] at hl ⊢
  refine (faultL_zero _).2 ⟨by omega, ?_, endE_flat _ (Rx.turn_ok t ht)⟩
  intro n hn
  have := h2 n.flip ((Rx.turn_mem t n).1 hn)
  have h8 : n.flip.c = n.c := rfl
  have h9 : n.flip.op = 1 ↔ n.op = 1 := flip_eq 1 (by decide) (by decide)
  rw [h8, h9] at this
  refine ⟨?_, this.2⟩
  have e : n.flip.op = flipOp n.op := rfl
  rw [e] at this
  unfold flipOp at this
  split at this
  · omega
  · split at this
    · omega
    · exact this.1
theorem turn_twice (ns : List Nd) (h : endE ns 0 = some ns.length) : turF (turF ns (ns.length + 1) 0) ((turF ns (ns.length + 1) 0).length + 1) 0 = ns := by
  obtain ⟨t, ht, rfl⟩ := tree_of ns h
  rw [turE_flat t ht, turE_flat t.turn (Rx.turn_ok t ht), Rx.turn_turn]
theorem turn_empE (ns : List Nd) (h : endE ns 0 = some ns.length) : empE (turF ns (ns.length + 1) 0) = empE ns := by
  obtain ⟨t, ht, rfl⟩ := tree_of ns h
  rw [turE_flat t ht, empE_flat _ (Rx.turn_ok t ht), empE_flat _ ht, Rx.turn_emp]
end Go.Proofs.YtphcncgdodhlbaaDoor
