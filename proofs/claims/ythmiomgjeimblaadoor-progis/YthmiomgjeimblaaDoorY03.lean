/- What plain.Told answers: of nil 0; of an Errno its number. What stays while a law is walked: what was there, and the handle of errors.As. What the cards of a door's seat share: the handle of errors.As as the program's text lays it. What the document's own functions answer: Dec. strconv.Itoa, as the shelf's contract says it of this program. What the card of ProgIs needs: the tables that strconv.Itoa's road names, and the handle, as the program's text lays them. Programs: lists of steps, in memory; their faults. No function of the program. A program as an argument: opened. What the document asks of package prog: Check, Text, and the errors of Of. What the document's own functions answer: Parts, EndOf. -/
import Derived.Test.YthmiomgjeimblaaDoorY02
import Derived.WalkKit
import Derived.WalkSpells
import Derived.WalkLawsBesides
import Derived.Deep.QuietTactic
import Derived.BigQuiet
import Derived.Stop.Asserts
import Derived.Test.YthmiomgjeimblaaDoorRows
import Derived.Test.YthmiomgjeimblaaDoorCards
import Derived.Test.YthmiomgjeimblaaDoorTie
import Derived.ProofKit
import Derived.OpenShut
import Derived.Carry
import Derived.LaidLaws
import Derived.LaidHandle
import Derived.Stop.Joined
import Derived.SevenTiedAt
import Derived.Test.YthmiomgjeimblaaDoorY01
import Derived.Laws.BytesArg
import Derived.Shelf.LaysM
import Derived.Shelf.Strconv.Itoa3
import Derived.Lib.LaidTab
import Derived.Lib.TrailingZeros
import Derived.Stop.LaidErr
import Derived.Lib.SmallJoins
namespace Go.Proofs.YthmiomgjeimblaaDoor
set_option linter.unusedSimpArgs false
set_option linter.unusedVariables false
open Go.RowKit

set_option maxHeartbeats 1000000 in
set_option maxRecDepth 100000 in
theorem as_in (n : Int) (b c : Nat) (w : World) (hc : w.cell? ⟨b, 0, none⟩ = some (.int .i64 0)) (hf : w.frozen? ⟨b, 0, none⟩ = false) (hp : w.cell? ⟨c, 0, none⟩ = some (.pointer (some ⟨b, 0, none⟩))) (hlt : b < w.heap.size) :
    Calls Tryd.prog 44 #[.iface 24 (.int .i64 n), .iface 67 (.pointer (some ⟨b, 0, none⟩)), .agg #[hnd 67, .pointer (some ⟨c, 0, none⟩), .int .u64 150], rty 24] w fun e w' => e = .returned (.bool true) ∧ w'.cell? ⟨b, 0, none⟩ = some (.int .i64 n) ∧ Below b w w' := by
  have x1 := x_typeOf
  have x2 := x_assign
  have x3 := x_valueOfErr
  have m1 := m_assign
  have b1 : ∀ o, Below w.heap.size w (w.alloc o) := fun o => (Below.refl _ _).alloc (Nat.le_refl _) o
  have b2 : ∀ o o2, Below w.heap.size w ((w.alloc o).alloc o2) := fun o o2 => (b1 o).alloc (by simp) o2
  have hel := fun o => x_elemV ⟨c, 0, none⟩ ⟨b, 0, none⟩ (w.alloc o) (cell_later (b1 o) hp)
  have hse := fun o => x_set ⟨b, 0, none⟩ ⟨w.heap.size + 1, 0, none⟩ n 0 ((w.alloc o).alloc (.cells #[.int .i64 n] 24)) (cell_later (b2 o _) hc) (((b2 o _).frozen (p := ⟨b, 0, none⟩) hlt).trans hf) (by simp)
  have B2 := (show Hid _ from b2)
  clear b1 b2
  go_enter Tryd.func44, Tryd.ntmps44
  go_wp2_with fail
  refine wp_loop_rounds 1 ?_
  rw [rounds_succ]
  go_wp2
  go_ret
  have hs : (w.setCell ⟨b, 0, none⟩ (.int .i64 n)).cell? ⟨b, 0, none⟩ = some (.int .i64 n) := World.cell?_setCell_same _ _ _ hc
  have hb3 : ∀ u : World, ∀ o o2, Below u.heap.size u ((u.alloc o).alloc o2) := fun u o o2 => ((Below.refl _ _).alloc (Nat.le_refl _) o).alloc (by simp) o2
  refine ⟨rfl, cell_later (hb3 _ _ _) hs, ?_⟩
  exact (((Below.refl b w).setCell (p := ⟨b, 0, none⟩) (Nat.le_refl _) _).alloc (by simp [World.setCell]; omega) _).alloc (by simp [World.setCell]; omega) _
set_option maxHeartbeats 1000000 in
set_option maxRecDepth 100000 in
theorem as_errno (n : Int) (b : Nat) (w : World) (hE : w.cell? ⟨0, 0, none⟩ = some (rty 28)) (hc : w.cell? ⟨b, 0, none⟩ = some (.int .i64 0)) (hf : w.frozen? ⟨b, 0, none⟩ = false) (hlt : b < w.heap.size) :
    Calls Tryd.prog 27 #[.iface 24 (.int .i64 n), .iface 67 (.pointer (some ⟨b, 0, none⟩))] w fun e w' => e = .returned (.bool true) ∧ w'.cell? ⟨b, 0, none⟩ = some (.int .i64 n) ∧ Below b w w' := by
  have x1 := x_valueOfPtr
  have x2 := x_type
  have x3 := x_kindP
  have x4 := x_kindE
  have x5 := x_elem
  have x6 := x_impl
  have m1 := m_kind
  have m2 := m_elem
  have m3 := m_impl
  have b2 : ∀ o o2, Below w.heap.size w ((w.alloc o).alloc o2) := fun o o2 => ((Below.refl _ _).alloc (Nat.le_refl _) o).alloc (by simp) o2
  have hin := fun o => x_isNil ⟨w.heap.size, 0, none⟩ ⟨b, 0, none⟩ ((w.alloc (.cells #[.pointer (some ⟨b, 0, none⟩)] 67)).alloc o) (by simp)
  have hE2 := fun o o2 => cell_later (b2 o o2) hE
  have B2 := (show Hid _ from b2)
  clear b2
  go_enter Tryd.func27, Tryd.ntmps27
  go_wp2_with fail
  refine (as_in n b w.heap.size _ (cell_later (B2.out _ _) hc) (((B2.out _ _).frozen (p := ⟨b, 0, none⟩) hlt).trans hf) (by simp) (by simp; omega)).mono ?_
  rintro e w1 ⟨rfl, h1, h2⟩
  go_wp2
  go_ret
  exact ⟨rfl, h1, ((B2.out _ _).mono (by omega)).trans h2⟩
set_option maxHeartbeats 400000 in
theorem told_nil (w : World) : Calls Tryd.prog 13 #[.nilIface] w fun e w' => e = .returned (.int .i64 0) ∧ Below w.heap.size w w' := by
  go_enter Tryd.func13, Tryd.ntmps13
  go_wp2
  go_ret
  exact ⟨rfl, Below.refl _ _⟩
set_option maxHeartbeats 1000000 in
set_option maxRecDepth 100000 in
theorem told_errno (n : Int) (w : World) (hE : w.cell? ⟨0, 0, none⟩ = some (rty 28)) : Calls Tryd.prog 13 #[.iface 24 (.int .i64 n)] w fun e w' => e = .returned (.int .i64 n) ∧ Below w.heap.size w w' := by
  go_enter Tryd.func13, Tryd.ntmps13
  go_wp2_with fail
  have hb := (Below.refl w.heap.size w).alloc (Nat.le_refl _) (.cells #[.int .i64 0] 24)
  refine (as_errno n w.heap.size _ (cell_later hb hE) (by simp) (by simp) (by simp)).mono ?_
  rintro e w1 ⟨rfl, h1, h2⟩
  go_wp2
  go_ret
  exact ⟨rfl, hb.trans h2⟩
theorem told_any (n : Int) (w : World) (hE : w.cell? ⟨0, 0, none⟩ = some (rty 28)) : Calls Tryd.prog 13 #[errV n] w fun e w' => e = .returned (.int .i64 n) ∧ Below w.heap.size w w' := by
  unfold errV
  split
  · rename_i h
    subst h
    exact told_nil w
  · exact told_errno n w hE
set_option maxHeartbeats 400000 in
theorem error_any (n m : Int) (w : World) (hE : w.cell? ⟨0, 0, none⟩ = some (rty 28)) : Calls Tryd.prog 5 #[errV n, .int .i64 m] w fun e w' => e = .returned (.bool (n == m)) ∧ Below w.heap.size w w' := by
  go_enter Tryd.func5, Tryd.ntmps5
  go_wp2_with fail
  refine (told_any n _ hE).mono ?_
  rintro e w1 ⟨rfl, h1⟩
  go_wp2
  go_ret
  exact ⟨rfl, h1⟩
end Go.Proofs.YthmiomgjeimblaaDoor
namespace Go.Proofs.YthmiomgjeimblaaDoor
set_option linter.unusedSimpArgs false
set_option linter.unusedVariables false
set_option maxRecDepth 100000
open Go.RowKit

theorem error_self (n : Int) (w : World) (hE : w.cell? ⟨0, 0, none⟩ = some (rty 28)) : Calls Tryd.prog 5 #[errV n, .int .i64 n] w fun e w' => e = .returned (.bool true) ∧ Below w.heap.size w w' := by
  have h := error_any n n w hE
  rw [beq_self_eq_true] at h
  exact h
/-- Nothing that was there has turned; the handle of errors.As lies there. -/
structure Stay (w w' : World) : Prop where
  b : Below w.heap.size w w'
  e : w'.cell? ⟨0, 0, none⟩ = some (rty 28)
theorem Stay.more {w w1 w2 : World} (h : Stay w w1) (h0 : 0 < w.heap.size) (hb : Below w1.heap.size w1 w2) : Stay w w2 :=
  ⟨h.b.trans (hb.mono h.b.size), (hb.cell (p := ⟨0, 0, none⟩) (Nat.lt_of_lt_of_le h0 h.b.size)).trans h.e⟩
end Go.Proofs.YthmiomgjeimblaaDoor
namespace Go.Proofs.YthmiomgjeimblaaDoor
set_option linter.unusedSimpArgs false
set_option linter.unusedVariables false
open Go.ChangeShapes Go.WideShapes Go.ChangeAt Go.RowKit

theorem et : Tryd.prog.globalNamed "errors.errorType" = some 0 := by kernel_rfl
theorem rt0 : (Tryd.prog.cutTypes.find? (·.1 == "internal/reflectlite.rtype")).map (·.2) = some 94 := by kernel_rfl
theorem oneRow : ((List.range 156).filter fun t => Tryd.prog.rowNamed t [101, 114, 114, 111, 114]) = [28] := by kernel_rfl
theorem typesSize : Tryd.prog.types.size = 156 := by kernel_rfl
theorem handle_of_laid {W : World} (h : laidMetH Tryd.prog [("errors.errorType", Rows.laid_errors_errorType)] W) : W.cell? ⟨0, 0, none⟩ = some (rty 28) := by
  have h' : laidMet Tryd.prog [] W ∧ handlesMet Tryd.prog [("errors.errorType", Rows.laid_errors_errorType)] W := h
  obtain ⟨name, u, ty, e1, e2, e3, e4, e5⟩ := h'.2 _ (List.mem_singleton.2 rfl)
  have en : name = [101, 114, 114, 111, 114] := (Option.some.inj e1).symm
  subst en
  obtain rfl := Option.some.inj (rt0.symm.trans e2)
  have hm : ty ∈ (List.range 156).filter fun t => Tryd.prog.rowNamed t [101, 114, 114, 111, 114] := List.mem_filter.2 ⟨List.mem_range.2 (by rw [← typesSize]; exact e3), e4⟩
  rw [oneRow] at hm
  obtain rfl := List.mem_singleton.1 hm
  have hh : typeHandle Tryd.prog 28 = .pointer (some ⟨5, 28, none⟩) := by kernel_rfl
  rw [hh] at e5
  simpa using World.var?_cell et e5 0
theorem laidOutI : laidOutB Tryd.prog = true := by kernel_rfl
theorem block_of_cell {W : World} {v : Value} (h : W.cell? ⟨0, 0, none⟩ = some v) : 0 < W.heap.size := by
  rcases Nat.eq_zero_or_pos W.heap.size with h' | h'
  · rw [World.cell?, Array.getElem?_eq_none (by simp only; omega)] at h
    cases h
  · exact h'

end Go.Proofs.YthmiomgjeimblaaDoor
namespace Go.Proofs.YthmiomgjeimblaaDoor
set_option linter.unusedSimpArgs false
set_option linter.unusedVariables false
set_option maxRecDepth 100000
open Go.RowKit
/-- A digit. -/
def dg (k : Nat) : UInt8 := (48 + k).toUInt8
/-- The digits of a number. -/
def decF : Nat → Nat → List UInt8
  | 0, _ => []
  | f + 1, n => if n ≤ 9 then [dg n] else decF f (n / 10) ++ [dg (n % 10)]
def decT (n : Nat) : List UInt8 := decF (n + 1) n
theorem decF_more : ∀ (f g n : Nat), n < f → n < g → decF f n = decF g n
  | 0, _, _, h, _ => by omega
  | _, 0, _, _, h => by omega
  | f + 1, g + 1, n, h1, h2 => by
    rw [decF, decF]
    by_cases h : n ≤ 9
    · rw [if_pos h, if_pos h]
    · rw [if_neg h, if_neg h, decF_more f g (n / 10) (by omega) (by omega)]
theorem decT_small {n : Nat} (h : n ≤ 9) : decT n = [dg n] := by rw [decT, decF, if_pos h]
theorem decT_big {n : Nat} (h : ¬ n ≤ 9) : decT n = decT (n / 10) ++ [dg (n % 10)] := by
  rw [decT, decF, if_neg h, decT, decF_more n (n / 10 + 1) (n / 10) (by omega) (by omega)]
theorem dig_at : ∀ k : Fin 10, (⟨#[48, 49, 50, 51, 52, 53, 54, 55, 56, 57]⟩ : ByteArray).extract k.val (k.val + 1) = ⟨#[dg k.val]⟩ := by decide +kernel
theorem dig_nat (k : Nat) (h : k ≤ 9) : (⟨#[48, 49, 50, 51, 52, 53, 54, 55, 56, 57]⟩ : ByteArray).extract k (k + 1) = ⟨#[dg k]⟩ := dig_at ⟨k, by omega⟩
theorem cat_one (d : UInt8) (l : List UInt8) : (⟨#[d]⟩ : ByteArray) ++ ⟨l.toArray⟩ = ⟨(d :: l).toArray⟩ := cat_str [d] l
set_option maxHeartbeats 1000000 in
theorem dec_any (n : Nat) (hn : n < 1000000) (w : World) :
    Calls Tryd.prog 7 #[.int .i64 (n : Int)] w fun e w' => e = .returned (.string ⟨(decT n).toArray⟩) ∧ w' = w := by
  go_enter Tryd.func7, Tryd.ntmps7
  go_wp2
  go_loopw [0, 3] (fun v s wr => ∃ (k : Nat) (l : List UInt8), v = .int .i64 (k : Int) ∧ s = .string ⟨l.toArray⟩ ∧ k ≤ n ∧ Hid (decT n = decT k ++ l) ∧ Hid (l.length + k ≤ n) ∧ wr = w) (fun v _ _ => (intOf v).toNat)
  case atStart => exact ⟨n, [], rfl, rfl, Nat.le_refl _, by show _ = _; simp, by show _ ≤ _; simp, rfl⟩
  case round =>
    obtain ⟨k, l, rfl, rfl, hk, HD, HL, rfl⟩ := hrel
    by_cases h9 : k ≤ 9
    · have g9 : (k : Int) ≤ 9 := by omega
      have hex := dig_nat k h9
      have hcat := cat_one (dg k) l
      have hsz : (⟨#[dg k]⟩ : ByteArray).size = 1 := rfl
      have hsl := size_str l
      have hll : l.length ≤ 1000000 := by have := HL.out; omega
      have HE : Hid (decT n = dg k :: l) := by show _ = _; rw [HD.out, decT_small h9]; rfl
      go_wp2
      go_ret
      exact ⟨by rw [HE.out]; rfl, rfl⟩
    · have g9 : (9 : Int) < (k : Int) := by omega
      have hex := dig_nat (k % 10) (by omega)
      have hcat := cat_one (dg (k % 10)) l
      have hsl := size_str l
      have hll : l.length ≤ 1000000 := by have := HL.out; omega
      have hsz : (⟨#[dg (k % 10)]⟩ : ByteArray).size = 1 := rfl
      have HE : Hid (decT n = decT (k / 10) ++ dg (k % 10) :: l) := by show _ = _; rw [HD.out, decT_big h9]; simp
      go_wp2
      refine ⟨⟨k / 10, dg (k % 10) :: l, by go_num, rfl, by omega, HE, ?_, trivial⟩, by simp [intOf]; omega⟩
      show _ ≤ _
      have := HL.out
      simp
      omega
end Go.Proofs.YthmiomgjeimblaaDoor
namespace Go.Proofs.YthmiomgjeimblaaDoor
set_option linter.unusedSimpArgs false
set_option linter.unusedVariables false
set_option maxRecDepth 100000
open Go.Shelf Go.RowKit

def itoaRen : Go.Shelf.Ren := ⟨fun | 171 => 32 | 243 => 46 | 246 => 57 | 283 => 64 | 284 => 65 | 285 => 66 | 286 => 67 | 129 => 71 | 317 => 70 | 318 => 72 | 319 => 73 | 320 => 74 | 337 => 76 | 338 => 77 | n => n, fun | 3 => 3 | 9 => 9 | 2 => 2 | 4 => 4 | 171 => 114 | 0 => 0 | 53 => 31 | 37 => 50 | 5 => 5 | 173 => 116 | 212 => 122 | 51 => 123 | 20 => 20 | 213 => 124 | 46 => 118 | 232 => 128 | 233 => 129 | n => n, fun | 17 => 1 | 18 => 2 | 19 => 3 | n => n⟩
theorem itoaLays : Go.Proofs.LaysM.n171 Tryd.prog itoaRen := {
  mixed := by kernel_rfl
  f129 := Tryd.func71.trans (congrArg some (by kernel_rfl))
  f171 := Tryd.func32.trans (congrArg some (by kernel_rfl))
  f243 := Tryd.func46.trans (congrArg some (by kernel_rfl))
  f246 := Tryd.func57.trans (congrArg some (by kernel_rfl))
  f283 := Tryd.func64.trans (congrArg some (by kernel_rfl))
  f284 := Tryd.func65.trans (congrArg some (by kernel_rfl))
  f285 := Tryd.func66.trans (congrArg some (by kernel_rfl))
  f286 := Tryd.func67.trans (congrArg some (by kernel_rfl))
  f317 := Tryd.func70.trans (congrArg some (by kernel_rfl))
  f318 := Tryd.func72.trans (congrArg some (by kernel_rfl))
  f319 := Tryd.func73.trans (congrArg some (by kernel_rfl))
  f320 := Tryd.func74.trans (congrArg some (by kernel_rfl))
  f337 := Tryd.func76.trans (congrArg some (by kernel_rfl))
  f338 := Tryd.func77.trans (congrArg some (by kernel_rfl))
  t0 := Tryd.underlying0
  a0 := Tryd.isAgg0
  z0 := Tryd.sizeOf0
  v0 := Tryd.zeroValue0
  t2 := Tryd.underlying2
  a2 := Tryd.isAgg2
  z2 := Tryd.sizeOf2
  v2 := Tryd.zeroValue2
  t3 := Tryd.underlying3
  a3 := Tryd.isAgg3
  z3 := Tryd.sizeOf3
  v3 := Tryd.zeroValue3
  t4 := Tryd.underlying4
  a4 := Tryd.isAgg4
  z4 := Tryd.sizeOf4
  v4 := Tryd.zeroValue4
  t5 := Tryd.underlying5
  a5 := Tryd.isAgg5
  z5 := Tryd.sizeOf5
  v5 := Tryd.zeroValue5
  t9 := Tryd.underlying9
  a9 := Tryd.isAgg9
  z9 := Tryd.sizeOf9
  v9 := Tryd.zeroValue9
  t20 := Tryd.underlying20
  a20 := Tryd.isAgg20
  z20 := Tryd.sizeOf20
  v20 := Tryd.zeroValue20
  t37 := Tryd.underlying50
  a37 := Tryd.isAgg50
  z37 := Tryd.sizeOf50
  v37 := Tryd.zeroValue50
  t46 := Tryd.underlying118
  a46 := Tryd.isAgg118
  z46 := Tryd.sizeOf118
  v46 := Tryd.zeroValue118
  t51 := Tryd.underlying123
  a51 := Tryd.isAgg123
  z51 := Tryd.sizeOf123
  v51 := Tryd.zeroValue123
  t53 := Tryd.underlying31
  a53 := Tryd.isAgg31
  z53 := Tryd.sizeOf31
  v53 := Tryd.zeroValue31
  t171 := Tryd.underlying114
  a171 := Tryd.isAgg114
  z171 := Tryd.sizeOf114
  v171 := Tryd.zeroValue114
  t173 := Tryd.underlying116
  a173 := Tryd.isAgg116
  z173 := Tryd.sizeOf116
  v173 := Tryd.zeroValue116
  t212 := Tryd.underlying122
  a212 := Tryd.isAgg122
  z212 := Tryd.sizeOf122
  v212 := Tryd.zeroValue122
  t213 := Tryd.underlying124
  a213 := Tryd.isAgg124
  z213 := Tryd.sizeOf124
  t232 := Tryd.underlying128
  a232 := Tryd.isAgg128
  z232 := Tryd.sizeOf128
  v232 := Tryd.zeroValue128
  t233 := Tryd.underlying129
  a233 := Tryd.isAgg129
  z233 := Tryd.sizeOf129
  v233 := Tryd.zeroValue129
  g17 := by kernel_rfl
  g18 := by kernel_rfl
  g19 := by kernel_rfl
  i0 := by kernel_rfl
  i2 := by kernel_rfl
  i3 := by kernel_rfl
  i4 := by kernel_rfl
  i5 := by kernel_rfl
  i9 := by kernel_rfl
  i20 := by kernel_rfl
  i37 := by kernel_rfl
  i46 := by kernel_rfl
  i51 := by kernel_rfl
  i53 := by kernel_rfl
  i171 := by kernel_rfl
  i173 := by kernel_rfl
  i212 := by kernel_rfl
  i232 := by kernel_rfl
  i233 := by kernel_rfl
  m17 := by kernel_rfl
  m18 := by kernel_rfl
  m19 := by kernel_rfl }
/-- The table of powers of ten lies where it was laid. -/
abbrev Pow (w : World) : Prop := Lib.TabIs Tryd.prog w "internal/strconv.uint64pow10" .u64 Lib.pow10Tab
theorem powG : Tryd.prog.globalNamed "internal/strconv.uint64pow10" = some 1 := by kernel_rfl
theorem decT_lib : ∀ (f n : Nat), n ≤ f → decT n = Lib.decDigits n
  | f, n, hf => by
    by_cases h : n ≤ 9
    · rw [decT_small h, Lib.decDigits, dif_pos (by omega)]
      rfl
    · rw [decT_big h, Lib.decDigits, dif_neg (by omega)]
      match f, hf with
      | 0, hf => omega
      | f + 1, hf => rw [decT_lib f (n / 10) (by omega)]; rfl
theorem itoa_grow (w : World) (k : Nat) (os : Array Obj) : Below w.heap.size w (Go.Sort.grow (w.drewN k) os) := by
  refine ⟨rfl, rfl, rfl, by simp [Go.Sort.grow], fun i hi => ?_⟩
  simp only [Go.Sort.grow]
  exact Array.getElem?_append_left hi
theorem itoa_any (n : Nat) (h : n < 9223372036854775808) (w : World) (hT : Pow w) :
    Calls Tryd.prog 32 #[.int .i64 (n : Int)] w fun e w' => e = .returned (.string ⟨(decT n).toArray⟩) ∧ Below w.heap.size w w' := by
  refine (Any.strconv_Itoa itoaLays (n : Int) (by omega) (by omega) w hT).mono ?_
  rintro e w' ⟨rfl, k, os, rfl⟩
  refine ⟨?_, itoa_grow w k os⟩
  have e1 : Lib.itoa (n : Int) = decT n := by
    unfold Lib.itoa
    rw [if_neg (by omega), decT_lib n n (Nat.le_refl _)]
    rfl
  rw [e1]
theorem pow_lt {w : World} (h : Pow w) : 1 < w.heap.size := by
  rcases Nat.lt_or_ge 1 w.heap.size with h' | h'
  · exact h'
  · unfold Pow Lib.TabIs World.var? at h
    simp [powG, Array.getElem?_eq_none h'] at h
theorem Pow.below {w w' : World} (h : Pow w) (hb : Below w.heap.size w w') : Pow w' := by
  have e := hb.block _ (pow_lt h)
  unfold Pow Lib.TabIs World.var? at h ⊢
  simp only [powG, Option.bind_some] at h ⊢
  rw [e]
  exact h
end Go.Proofs.YthmiomgjeimblaaDoor
namespace Go.Proofs.YthmiomgjeimblaaDoor
set_option linter.unusedSimpArgs false
set_option linter.unusedVariables false
set_option maxRecDepth 100000
open Go.ChangeShapes Go.WideShapes Go.ChangeAt Go.RowKit

abbrev powL : List (String × DataW Unit) := [("math/bits.deBruijn32tab", Rows.laid_math_bits_deBruijn32tab), ("math/bits.deBruijn64tab", Rows.laid_math_bits_deBruijn64tab), ("internal/strconv.uint64pow10", Rows.laid_internal_strconv_uint64pow10)]
theorem powT : (Tryd.prog.globals[(1 : Nat)]?).map (·.type) = some 122 := by kernel_rfl
theorem powD : (Rows.laid_internal_strconv_uint64pow10 : DataW Unit) = Lib.tabData .u64 Lib.pow10Tab := by rfl
theorem pow_of_laid {W : World} (h : laidMet Tryd.prog powL W) : Pow W := by
  have h2 : laidMet Tryd.prog [("internal/strconv.uint64pow10", Rows.laid_internal_strconv_uint64pow10)] W := h.tail.tail
  rw [powD] at h2
  exact Lib.tabIs_of_head powG powT Tryd.underlying122 Tryd.underlying31 (by kernel_rfl) (by kernel_rfl) h2
theorem four_parts {W : World} (h : laidMetH Tryd.prog [("math/bits.deBruijn32tab", Rows.laid_math_bits_deBruijn32tab), ("math/bits.deBruijn64tab", Rows.laid_math_bits_deBruijn64tab), ("internal/strconv.uint64pow10", Rows.laid_internal_strconv_uint64pow10), ("errors.errorType", Rows.laid_errors_errorType)] W) : laidMet Tryd.prog powL W ∧ handlesMet Tryd.prog [("errors.errorType", Rows.laid_errors_errorType)] W := h
theorem pow_of_four {W : World} (h : laidMetH Tryd.prog [("math/bits.deBruijn32tab", Rows.laid_math_bits_deBruijn32tab), ("math/bits.deBruijn64tab", Rows.laid_math_bits_deBruijn64tab), ("internal/strconv.uint64pow10", Rows.laid_internal_strconv_uint64pow10), ("errors.errorType", Rows.laid_errors_errorType)] W) : Pow W := pow_of_laid (four_parts h).1
theorem handle_of_four {W : World} (h : laidMetH Tryd.prog [("math/bits.deBruijn32tab", Rows.laid_math_bits_deBruijn32tab), ("math/bits.deBruijn64tab", Rows.laid_math_bits_deBruijn64tab), ("internal/strconv.uint64pow10", Rows.laid_internal_strconv_uint64pow10), ("errors.errorType", Rows.laid_errors_errorType)] W) : W.cell? ⟨0, 0, none⟩ = some (rty 28) :=
  handle_of_laid (show laidMetH Tryd.prog [("errors.errorType", Rows.laid_errors_errorType)] W from (show laidMet Tryd.prog [] W ∧ handlesMet Tryd.prog [("errors.errorType", Rows.laid_errors_errorType)] W from ⟨laidMet_nil _ _, (four_parts h).2⟩))
/-- The tables' cells. -/
def t32Cells : Array Value := ([0, 1, 28, 2, 29, 14, 24, 3, 30, 22, 20, 15, 25, 17, 4, 8, 31, 27, 13, 23, 21, 19, 16, 7, 26, 12, 18, 6, 11, 5, 10, 9].map fun n : Nat => Value.int .u8 (n : Int)).toArray
def t64Cells : Array Value := (Lib.deBruijn64tab.map fun n : Nat => Value.int .u8 (n : Int)).toArray
def powCells : Array Value := (Lib.pow10Tab.map fun z => Value.int .u64 z).toArray
/-- A heap in which a variable holds these cells. -/
def setVar (g : Nat) (cs : Array Value) (h : Array Obj) : Array Obj := h.modify g fun
  | .cells _ t frozen => .cells cs t frozen
  | o => o
end Go.Proofs.YthmiomgjeimblaaDoor
namespace Go.Proofs.YthmiomgjeimblaaDoor
set_option linter.unusedSimpArgs false
set_option linter.unusedVariables false
set_option maxRecDepth 100000
open Go.RowKit

/-- A step. -/
structure St where
  op : Int
  c : C4
  x : Int
  y : Int
/-- The steps ss lie from an address on. -/
def SsAt (w : World) (b off : Nat) (ss : List St) : Prop := ∀ i n, ss[i]? = some n →
  w.cell? ⟨b, off + i * 7, none⟩ = some (.int .i64 n.op) ∧ w.cell? ⟨b, off + i * 7 + 1, none⟩ = some (.int .u64 n.c.a) ∧ w.cell? ⟨b, off + i * 7 + 2, none⟩ = some (.int .u64 n.c.b) ∧ w.cell? ⟨b, off + i * 7 + 3, none⟩ = some (.int .u64 n.c.c) ∧ w.cell? ⟨b, off + i * 7 + 4, none⟩ = some (.int .u64 n.c.d) ∧ w.cell? ⟨b, off + i * 7 + 5, none⟩ = some (.int .i64 n.x) ∧ w.cell? ⟨b, off + i * 7 + 6, none⟩ = some (.int .i64 n.y)
/-- A slice that reads as the steps ss. -/
def SsIn (w : World) (v : Value) (ss : List St) : Prop := ∃ a cap, v = .slice a ss.length cap ∧ ss.length ≤ maxLen ∧ (ss = [] ∨ ∃ b off, a = some ⟨b, off, none⟩ ∧ b < w.heap.size ∧ SsAt w b off ss)
theorem SsAt.below {w w' : World} {B b off : Nat} {ss : List St} (h : SsAt w b off ss) (hb : Below B w w') (hlt : b < B) : SsAt w' b off ss := by
  intro i n hn
  obtain ⟨h0, h1, h2, h3, h4, h5, h6⟩ := h i n hn
  exact ⟨(hb.cell (p := ⟨b, _, none⟩) hlt).trans h0, (hb.cell (p := ⟨b, _, none⟩) hlt).trans h1, (hb.cell (p := ⟨b, _, none⟩) hlt).trans h2, (hb.cell (p := ⟨b, _, none⟩) hlt).trans h3, (hb.cell (p := ⟨b, _, none⟩) hlt).trans h4, (hb.cell (p := ⟨b, _, none⟩) hlt).trans h5, (hb.cell (p := ⟨b, _, none⟩) hlt).trans h6⟩
theorem SsIn.below {w w' : World} {v : Value} {ss : List St} (h : SsIn w v ss) (hb : Below w.heap.size w w') : SsIn w' v ss := by
  obtain ⟨a, cap, rfl, hm, h | ⟨b, off, rfl, hlt, hn⟩⟩ := h
  · exact ⟨a, cap, rfl, hm, Or.inl h⟩
  · exact ⟨_, cap, rfl, hm, Or.inr ⟨b, off, rfl, Nat.lt_of_lt_of_le hlt hb.size, hn.below hb hlt⟩⟩
theorem ssIn_form {w : World} {v : Value} {ss : List St} (h : SsIn w v ss) : ∃ a cap, v = .slice a ss.length cap ∧ ss.length ≤ maxLen := by
  obtain ⟨a, cap, h1, h2, _⟩ := h
  exact ⟨a, cap, h1, h2⟩
theorem ssIn_nil (w : World) : SsIn w (.slice none 0 0) [] := ⟨none, 0, rfl, by simp, Or.inl rfl⟩
/-- A number is none that may be, of a step of a program of N. -/
abbrev stRange (N : Nat) (s : St) : Prop := s.op < 1 ∨ 5 < s.op ∨ (s.op ≠ 5 ∧ (s.x < 0 ∨ (N : Int) ≤ s.x)) ∨ (s.op = 2 ∧ (s.y < 0 ∨ (N : Int) ≤ s.y))
/-- A field that its Op has not is not 0. -/
abbrev stShape (s : St) : Prop := (s.op ≠ 1 ∧ ¬ s.c.eqb z4 = true) ∨ (s.op ≠ 2 ∧ s.y ≠ 0) ∨ (s.op = 5 ∧ s.x ≠ 0)
def stBad (N : Nat) (s : St) : Int := if stRange N s then 1 else if stShape s then 2 else 0
def stScan (N : Nat) : List St → Int
  | [] => 0
  | s :: r => if stBad N s = 0 then stScan N r else stBad N s
/-- What is wrong with a program. -/
def stepsF (ss : List St) : Int := if 200 < ss.length then 3 else if ss.length = 0 then 4 else stScan ss.length ss
theorem stBad_range {N : Nat} {s : St} (h : stRange N s) : stBad N s = 1 := by unfold stBad; rw [if_pos h]
theorem stBad_shape {N : Nat} {s : St} (h : ¬ stRange N s) (h2 : stShape s) : stBad N s = 2 := by unfold stBad; rw [if_neg h, if_pos h2]
theorem stBad_ok {N : Nat} {s : St} (h : ¬ stRange N s) (h2 : ¬ stShape s) : stBad N s = 0 := by unfold stBad; rw [if_neg h, if_neg h2]
theorem stBad_zero {N : Nat} {s : St} (h : stBad N s = 0) : ¬ stRange N s ∧ ¬ stShape s := by
  unfold stBad at h
  by_cases h1 : stRange N s
  · rw [if_pos h1] at h; cases h
  · rw [if_neg h1] at h
    by_cases h2 : stShape s
    · rw [if_pos h2] at h; cases h
    · exact ⟨h1, h2⟩
theorem stScan_drop (N : Nat) : ∀ (ss : List St) (i : Nat) (n : St), ss[i]? = some n → stScan N (ss.drop i) = if stBad N n = 0 then stScan N (ss.drop (i + 1)) else stBad N n
  | [], i, n, h => by simp at h
  | s :: r, 0, n, h => by
    simp at h
    subst h
    rfl
  | s :: r, i + 1, n, h => by
    rw [List.drop_succ_cons, List.drop_succ_cons]
    exact stScan_drop N r i n (by simpa using h)
theorem stScan_all (N : Nat) : ∀ (ss : List St), stScan N ss = 0 → ∀ s ∈ ss, stBad N s = 0
  | [], _, s, hs => by cases hs
  | a :: r, h, s, hs => by
    unfold stScan at h
    by_cases h0 : stBad N a = 0
    · rw [if_pos h0] at h
      rcases List.mem_cons.1 hs with rfl | hs
      · exact h0
      · exact stScan_all N r h s hs
    · rw [if_neg h0] at h
      exact absurd h h0
theorem stepsF_zero {ss : List St} (h : stepsF ss = 0) : ss.length ≤ 200 ∧ 0 < ss.length ∧ ∀ s ∈ ss, ¬ stRange ss.length s ∧ ¬ stShape s := by
  unfold stepsF at h
  by_cases h1 : 200 < ss.length
  · rw [if_pos h1] at h; cases h
  · rw [if_neg h1] at h
    by_cases h2 : ss.length = 0
    · rw [if_pos h2] at h; cases h
    · rw [if_neg h2] at h
      exact ⟨by omega, by omega, fun s hs => stBad_zero (stScan_all _ _ h s hs)⟩
def SsOk (ss : List St) : Prop := ∀ s ∈ ss, s.c.ok
end Go.Proofs.YthmiomgjeimblaaDoor
namespace Go.Proofs.YthmiomgjeimblaaDoor
set_option linter.unusedSimpArgs false
set_option linter.unusedVariables false
set_option maxRecDepth 100000
open Go.ChangeShapes Go.WideShapes Go.ChangeAt Go.RowKit Go.Deep Go.Joins

theorem cellsStep : Tryd.prog.cellsOf 35 = 7 := by kernel_rfl
def St.wf (n : St) : Prop := (Lit.int .i64 n.op).wf = true ∧ n.c.wf ∧ (Lit.int .i64 n.x).wf = true ∧ (Lit.int .i64 n.y).wf = true
instance : Inhabited St := ⟨⟨0, ⟨0, 0, 0, 0⟩, 0, 0⟩⟩
def St.cells (n : St) : List Value := [.int .i64 n.op, .int .u64 n.c.a, .int .u64 n.c.b, .int .u64 n.c.c, .int .u64 n.c.d, .int .i64 n.x, .int .i64 n.y]
theorem open_step {H : Type} {enc : TypeId × Value → H} {W : World} {base : Nat} {sp : Nat → Bool} {held : Bool} {fuel : Nat} {cs : List Value} {x : DataW H × List MemPlace}
    (h : DataW.trod enc Tryd.prog W base sp held fuel 35 cs = some x) : ∃ n : St, cs = n.cells ∧ n.wf := by
  obtain ⟨y0, y1, y2, y3, k, hxy, hl, u0, u1, u2, u3⟩ := trod_struct4 Tryd.underlying35 h
  rw [cellsStep] at hl
  match cs, hl with
  | [c0, c1, c2, c3, c4, c5, c6], _ =>
    simp only [cellsInt, cellsClass, List.drop, List.take] at u0 u1 u2 u3
    obtain ⟨q, e0, d0, w⟩ := DataW.trod_int Tryd.underlying3 u0
    obtain ⟨z0, z1, z2, z3, m, hx, hy0, hy1, hy2, hy3⟩ := trod_array4 Tryd.underlying33 cellsWord u1
    obtain ⟨x0, e1, _, w0⟩ := DataW.trod_int Tryd.underlying31 hy0
    obtain ⟨x1, e2, _, w1⟩ := DataW.trod_int Tryd.underlying31 hy1
    obtain ⟨x2, e3, _, w2⟩ := DataW.trod_int Tryd.underlying31 hy2
    obtain ⟨x3, e4, _, w3⟩ := DataW.trod_int Tryd.underlying31 hy3
    obtain ⟨px, e5, _, wx⟩ := DataW.trod_int Tryd.underlying3 u2
    obtain ⟨py, e6, _, wy⟩ := DataW.trod_int Tryd.underlying3 u3
    simp only [List.cons.injEq, and_true] at e0 e1 e2 e3 e4 e5 e6
    subst e0 e1 e2 e3 e4 e5 e6
    exact ⟨⟨q, ⟨x0, x1, x2, x3⟩, px, py⟩, rfl, w, ⟨w0, w1, w2, w3⟩, wx, wy⟩
theorem open_steps {H : Type} {enc : TypeId × Value → H} {W : World} {base : Nat} {sp : Nat → Bool} {held : Bool} {v : Value} {d : DataW H} {p : List MemPlace}
    (hval : Value.okWide Tryd.prog W .any base 22 v) (h : DataW.Trod enc Tryd.prog W 0 sp held 22 v d p) : ∃ ss : List St, SsIn W v ss ∧ ∀ n ∈ ss, n.wf := by
  obtain ⟨a0, len0, cap0, rfl⟩ := okWide_slice Tryd.underlying22 hval
  obtain ⟨fuel, hf⟩ := h
  rcases open_slice Tryd.underlying22 hf with ⟨hc, _⟩ | ⟨a, len, cap, m, n, D, Pl, hc, hb, hl, hm, hmm, _, hx⟩
  · simp [Value.cells] at hc
    obtain ⟨rfl, rfl, rfl⟩ := hc
    exact ⟨[], ⟨none, 0, rfl, by simp, Or.inl rfl⟩, by simp⟩
  · simp [Value.cells] at hc
    obtain ⟨rfl, rfl, rfl⟩ := hc
    have hlm : len0 ≤ m := by rw [hmm]; split <;> omega
    have each : ∀ i, i < len0 → ∃ n : St, W.cells? 0 (a.add (i * 7)) 7 = some n.cells ∧ n.wf := by
      intro i hi
      obtain ⟨cs', h1, h2⟩ := hx i (by omega)
      rw [cellsStep] at h1
      obtain ⟨n, rfl, hw⟩ := open_step h2
      exact ⟨n, h1, hw⟩
    obtain ⟨q, hq⟩ := choose_lt each
    refine ⟨(List.range len0).map q, ⟨some a, cap0, by simp, by simp; omega, ?_⟩, ?_⟩
    · rcases Nat.eq_zero_or_pos len0 with h0 | h0
      · subst h0; exact Or.inl rfl
      right
      obtain ⟨b, off, spot⟩ := a
      have cells : ∀ i, i < len0 → ∀ j, j < 7 → W.cell? ((⟨b, off, spot⟩ : Addr).add (i * 7 + j)) = (q i).cells[j]? := by
        intro i hi j hj
        obtain ⟨_, _, hcell⟩ := World.cells?_some (hq i hi).1
        have := hcell j hj
        rwa [add_add] at this
      have hspot : spot = none := by
        have := cells 0 h0 0 (by omega)
        simpa [Addr.add, St.cells] using World.cell?_spot this
      subst hspot
      have plain : ∀ k, (⟨b, off, none⟩ : Addr).add k = ⟨b, off + k, none⟩ := by
        intro k
        rcases k with _ | k <;> simp [Addr.add]
      refine ⟨b, off, rfl, ?_, ?_⟩
      · have := cells 0 h0 0 (by omega)
        rw [plain] at this
        rcases Nat.lt_or_ge b W.heap.size with h' | h'
        · exact h'
        · simp [World.cell?, Array.getElem?_eq_none h', St.cells] at this
      · intro i n hn
        have hi : i < len0 := by
          rcases Nat.lt_or_ge i len0 with h' | h'
          · exact h'
          · simp [h'] at hn
        have en : q i = n := by simpa [hi] using hn
        subst en
        have c := cells i hi
        refine ⟨?_, ?_, ?_, ?_, ?_, ?_, ?_⟩
        · have := c 0 (by omega); rw [plain] at this; simpa [Nat.add_assoc, St.cells] using this
        · have := c 1 (by omega); rw [plain] at this; simpa [Nat.add_assoc, St.cells] using this
        · have := c 2 (by omega); rw [plain] at this; simpa [Nat.add_assoc, St.cells] using this
        · have := c 3 (by omega); rw [plain] at this; simpa [Nat.add_assoc, St.cells] using this
        · have := c 4 (by omega); rw [plain] at this; simpa [Nat.add_assoc, St.cells] using this
        · have := c 5 (by omega); rw [plain] at this; simpa [Nat.add_assoc, St.cells] using this
        · have := c 6 (by omega); rw [plain] at this; simpa [Nat.add_assoc, St.cells] using this
    · intro n hn
      obtain ⟨i, hi, rfl⟩ := List.mem_map.1 hn
      exact (hq i (List.mem_range.1 hi)).2
end Go.Proofs.YthmiomgjeimblaaDoor
namespace Go.Proofs.YthmiomgjeimblaaDoor
set_option linter.unusedSimpArgs false
set_option linter.unusedVariables false
set_option maxRecDepth 100000
open Go.RowKit
/-- A step's line. -/
def lineL (s : St) : List UInt8 :=
  if s.op = 1 then [116, 97, 107, 101, 32] ++ textL s.c ++ [32] ++ decT s.x.toNat ++ [10]
  else if s.op = 2 then [102, 111, 114, 107, 32] ++ decT s.x.toNat ++ [32] ++ decT s.y.toNat ++ [10]
  else if s.op = 3 then [102, 105, 114, 115, 116, 32] ++ decT s.x.toNat ++ [10]
  else if s.op = 4 then [108, 97, 115, 116, 32] ++ decT s.x.toNat ++ [10]
  else [100, 111, 110, 101, 10]
/-- A program's text. -/
def progT (ss : List St) : List UInt8 := ss.flatMap lineL
theorem progT_take (ss : List St) (i : Nat) (n : St) (hn : ss[i]? = some n) : progT (ss.take (i + 1)) = progT (ss.take i) ++ lineL n := by
  unfold progT
  rw [List.take_add_one, hn, List.flatMap_append]
  simp
theorem decT_len : ∀ (n : Nat), (decT n).length ≤ n + 1
  | n => by
    by_cases h : n ≤ 9
    · rw [decT_small h]; simp
    · rw [decT_big h]
      have := decT_len (n / 10)
      simp
      omega
theorem decT_200 (x : Int) (h : x ≤ 200) : (decT x.toNat).length ≤ 201 := by
  have := decT_len x.toNat
  omega
/-- A step's line without its end. -/
def lnL (s : St) : List UInt8 :=
  if s.op = 1 then [116, 97, 107, 101, 32] ++ textL s.c ++ [32] ++ decT s.x.toNat
  else if s.op = 2 then [102, 111, 114, 107, 32] ++ decT s.x.toNat ++ [32] ++ decT s.y.toNat
  else if s.op = 3 then [102, 105, 114, 115, 116, 32] ++ decT s.x.toNat
  else if s.op = 4 then [108, 97, 115, 116, 32] ++ decT s.x.toNat
  else [100, 111, 110, 101]
theorem lineL_ln (s : St) : lineL s = lnL s ++ [10] := by
  unfold lineL lnL
  repeat' split
  all_goals simp
/-- What the document asks of package prog. -/
structure ProgC : Prop where
  check : ∀ ss v w, SsIn w v ss → (∀ s ∈ ss, s.wf) → Calls Tryd.prog 6 #[v] w fun e w' => e = .returned (errV (stepsF ss)) ∧ Below w.heap.size w w'
  textBad : ∀ ss v w, SsIn w v ss → (∀ s ∈ ss, s.wf) → ¬ stepsF ss = 0 → Calls Tryd.prog 9 #[v] w fun e w' => e = .returned (.tuple #[.string ⟨[].toArray⟩, errV (stepsF ss)]) ∧ Below w.heap.size w w'
  text : ∀ ss v w, Pow w → SsIn w v ss → (∀ s ∈ ss, s.wf) → stepsF ss = 0 → Calls Tryd.prog 9 #[v] w fun e w' => e = .returned (.tuple #[.string ⟨(progT ss).toArray⟩, .nilIface]) ∧ Below w.heap.size w w'
  ofBad : ∀ ns v w, NsIn w v ns → (∀ n ∈ ns, n.wf) → ¬ faultL ns = 0 → Calls Tryd.prog 11 #[v] w fun e w' => ∃ a cap, e = .returned (.tuple #[.slice a 0 cap, errV (faultL ns)]) ∧ Below w.heap.size w w'
  of : ∀ ns v w, NsIn w v ns → (∀ n ∈ ns, n.wf) → faultL ns = 0 → Calls Tryd.prog 11 #[v] w fun e w' => ∃ a len cap, e = .returned (.tuple #[.slice a len cap, .nilIface]) ∧ Below w.heap.size w w'
end Go.Proofs.YthmiomgjeimblaaDoor
namespace Go.Proofs.YthmiomgjeimblaaDoor
set_option linter.unusedSimpArgs false
set_option linter.unusedVariables false
set_option maxRecDepth 100000
open Go.RowKit

set_option maxHeartbeats 400000 in
theorem parts_any (op : Int) (w : World) :
    Calls Tryd.prog 34 #[.int .i64 op] w fun e w' => e = .returned (.int .i64 (prt op)) ∧ w' = w := by
  by_cases h3 : op = 3
  · subst h3
    go_enter Tryd.func34, Tryd.ntmps34
    go_wp2
    go_ret
    exact ⟨rfl, rfl⟩
  · have b3 : (op == 3) = false := by simp [h3]
    by_cases h4 : op = 4
    · subst h4
      go_enter Tryd.func34, Tryd.ntmps34
      go_wp2
      go_ret
      exact ⟨rfl, rfl⟩
    · have b4 : (op == 4) = false := by simp [h4]
      by_cases h5 : op = 5
      · subst h5
        go_enter Tryd.func34, Tryd.ntmps34
        go_wp2
        go_ret
        exact ⟨rfl, rfl⟩
      · have b5 : (op == 5) = false := by simp [h5]
        by_cases h6 : op = 6
        · subst h6
          go_enter Tryd.func34, Tryd.ntmps34
          go_wp2
          go_ret
          exact ⟨rfl, rfl⟩
        · have b6 : (op == 6) = false := by simp [h6]
          by_cases h7 : op = 7
          · subst h7
            go_enter Tryd.func34, Tryd.ntmps34
            go_wp2
            go_ret
            exact ⟨rfl, rfl⟩
          · have b7 : (op == 7) = false := by simp [h7]
            have e0 : prt op = 0 := by unfold prt; simp [h3, h4, h5, h6, h7]
            rw [e0]
            clear h3 h4 h5 h6 h7 e0
            go_enter Tryd.func34, Tryd.ntmps34
            go_wp2
            go_ret
            exact ⟨rfl, rfl⟩
set_option maxHeartbeats 1000000 in
theorem endOf_walk (ns : List Nd) (b off cap f i : Nat) (hm : ns.length ≤ maxLen) (w : World) (hN : NsAt w b off ns)
    (ih : ∀ j, ns.length + 1 ≤ f + j → Calls Tryd.prog 23 #[.slice (some ⟨b, off, none⟩) ns.length cap, .int .i64 j] w fun e w' => e = .returned (.int .i64 (endI (endF ns f j))) ∧ w' = w)
    (hf : ns.length + 1 ≤ f + 1 + i) :
    Calls Tryd.prog 23 #[.slice (some ⟨b, off, none⟩) ns.length cap, .int .i64 i] w fun e w' => e = .returned (.int .i64 (endI (endF ns (f + 1) i))) ∧ w' = w := by
  have IH := (show Hid _ from ih)
  unfold maxLen at hm
  clear ih
  by_cases hi : i < ns.length
  · obtain ⟨n, hn⟩ : ∃ n, ns[i]? = some n := ⟨ns[i], List.getElem?_eq_getElem hi⟩
    obtain ⟨c0, _⟩ := hN i n hn
    have HF : Hid _ := endF_fin ns f i n hn
    have hp := prt_le n.op
    have i0 : (0 : Int) ≤ (i : Int) := by omega
    have i1 : (i : Int) < (ns.length : Int) := by omega
    have hd : decide (ns.length ≤ i) = false := by simp; omega
    clear hn
    go_enter Tryd.func23, Tryd.ntmps23
    go_wp2_with fail
    refine (parts_any _ _).mono ?_
    rintro e w1 ⟨rfl, rfl⟩
    generalize hpr : prt n.op = pr at *
    clear hpr
    go_wp2_with fail
    go_loop [1, 5] (fun v u => ∃ (m : Nat) (o : Option Nat), m ≤ 2 ∧ u = .int .i64 m ∧ v = .int .i64 (endI o) ∧ Hid (fin ns f m o = endF ns (f + 1) i) ∧ Hid (∀ j, o = some j → i < j ∧ j ≤ ns.length)) (fun _ u => (intOf u).toNat)
    case atStart => exact ⟨pr, some (i + 1), by omega, rfl, by go_num, HF.out.symm, fun j hj => by simp at hj; omega⟩
    case round =>
      obtain ⟨m, o, hm2, rfl, rfl, HX, HJ⟩ := hrel
      cases m with
      | zero =>
        go_wp2
        go_ret
        exact ⟨by rw [← HX.out]; rfl, rfl⟩
      | succ m =>
        have m0 : (0 : Int) < ((m + 1 : Nat) : Int) := by omega
        cases o with
        | none =>
          simp only [endI]
          go_wp2
          go_ret
          exact ⟨by rw [← HX.out, fin_none]; rfl, rfl⟩
        | some j =>
          have hj := HJ.out j rfl
          simp only [endI]
          go_wp2_with fail
          refine (IH.out j (by omega)).mono ?_
          rintro e w1 ⟨rfl, rfl⟩
          go_wp2
          refine ⟨⟨m, endF ns f j, by omega, by go_num, rfl, ?_, ?_⟩, by simp [intOf]⟩
          · rw [← HX.out]; exact (Eq.refl (fin ns f m (endF ns f j)))
          · intro k hk
            have := endF_gt ns f j k hk
            omega
  · have hd : decide (ns.length ≤ i) = true := by simp; omega
    have HF : Hid (endF ns (f + 1) i = none) := by
      show _ = _
      rw [endF, List.getElem?_eq_none (by omega)]
    go_enter Tryd.func23, Tryd.ntmps23
    go_wp2
    go_ret
    exact ⟨by rw [HF.out]; rfl, rfl⟩
set_option maxHeartbeats 1000000 in
theorem endOf_out (ns : List Nd) (a : Option Addr) (cap i : Nat) (hm : ns.length ≤ maxLen) (w : World) (hi : ns.length ≤ i) :
    Calls Tryd.prog 23 #[.slice a ns.length cap, .int .i64 i] w fun e w' => e = .returned (.int .i64 (-1)) ∧ w' = w := by
  unfold maxLen at hm
  have hd : decide (ns.length ≤ i) = true := by simp; omega
  go_enter Tryd.func23, Tryd.ntmps23
  go_wp2
  go_ret
  exact ⟨rfl, rfl⟩
theorem endOf_at (ns : List Nd) (b off cap : Nat) (hm : ns.length ≤ maxLen) (w : World) (hN : NsAt w b off ns) : ∀ (f i : Nat), ns.length + 1 ≤ f + i →
    Calls Tryd.prog 23 #[.slice (some ⟨b, off, none⟩) ns.length cap, .int .i64 i] w fun e w' => e = .returned (.int .i64 (endI (endF ns f i))) ∧ w' = w := by
  intro f
  induction f with
  | zero =>
    intro i h
    exact endOf_out ns _ cap i hm w (by omega)
  | succ f ih =>
    intro i h
    exact endOf_walk ns b off cap f i hm w hN ih (by omega)
theorem endOf_any (ns : List Nd) (v : Value) (i : Nat) (w : World) (hN : NsIn w v ns) :
    Calls Tryd.prog 23 #[v, .int .i64 i] w fun e w' => e = .returned (.int .i64 (endI (endE ns i))) ∧ w' = w := by
  obtain ⟨a, cap, rfl, hm, h | ⟨b, off, rfl, hlt, hn⟩⟩ := hN
  · subst h
    rw [endE_nil]
    exact endOf_out [] a cap i hm w (by simp)
  · exact endOf_at ns b off cap hm w hn (ns.length + 1) i (by omega)
end Go.Proofs.YthmiomgjeimblaaDoor
