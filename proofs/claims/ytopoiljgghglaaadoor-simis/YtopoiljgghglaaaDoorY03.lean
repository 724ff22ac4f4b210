/- What plain.Told answers: of nil 0; of an Errno its number. What stays while a law is walked: what was there, and the handle of errors.As. What the cards of a door's seat share: the handle of errors.As as the program's text lays it. Programs: lists of steps, in memory; their faults. No function of the program. A program as an argument: opened. Programs that are run, spot by spot: plain mathematics. A spot is a step's number times the places, and a place. -/
import Derived.Test.YtopoiljgghglaaaDoorY02
import Derived.WalkKit
import Derived.WalkSpells
import Derived.WalkLawsBesides
import Derived.Deep.QuietTactic
import Derived.BigQuiet
import Derived.Stop.Asserts
import Derived.Test.YtopoiljgghglaaaDoorRows
import Derived.Test.YtopoiljgghglaaaDoorCards
import Derived.Test.YtopoiljgghglaaaDoorTie
import Derived.ProofKit
import Derived.OpenShut
import Derived.Carry
import Derived.LaidLaws
import Derived.LaidHandle
import Derived.Stop.Joined
import Derived.SevenTiedAt
import Derived.Lib.SmallJoins
namespace Go.Proofs.YtopoiljgghglaaaDoor
set_option linter.unusedSimpArgs false
set_option linter.unusedVariables false
open Go.RowKit

set_option maxHeartbeats 1000000 in
set_option maxRecDepth 100000 in
theorem as_in (n : Int) (b c : Nat) (w : World) (hc : w.cell? ⟨b, 0, none⟩ = some (.int .i64 0)) (hf : w.frozen? ⟨b, 0, none⟩ = false) (hp : w.cell? ⟨c, 0, none⟩ = some (.pointer (some ⟨b, 0, none⟩))) (hlt : b < w.heap.size) :
    Calls Tryd.prog 60 #[.iface 41 (.int .i64 n), .iface 92 (.pointer (some ⟨b, 0, none⟩)), .agg #[hnd 92, .pointer (some ⟨c, 0, none⟩), .int .u64 150], rty 41] w fun e w' => e = .returned (.bool true) ∧ w'.cell? ⟨b, 0, none⟩ = some (.int .i64 n) ∧ Below b w w' := by
  have x1 := x_typeOf
  have x2 := x_assign
  have x3 := x_valueOfErr
  have m1 := m_assign
  have b1 : ∀ o, Below w.heap.size w (w.alloc o) := fun o => (Below.refl _ _).alloc (Nat.le_refl _) o
  have b2 : ∀ o o2, Below w.heap.size w ((w.alloc o).alloc o2) := fun o o2 => (b1 o).alloc (by simp) o2
  have hel := fun o => x_elemV ⟨c, 0, none⟩ ⟨b, 0, none⟩ (w.alloc o) (cell_later (b1 o) hp)
  have hse := fun o => x_set ⟨b, 0, none⟩ ⟨w.heap.size + 1, 0, none⟩ n 0 ((w.alloc o).alloc (.cells #[.int .i64 n] 41)) (cell_later (b2 o _) hc) (((b2 o _).frozen (p := ⟨b, 0, none⟩) hlt).trans hf) (by simp)
  have B2 := (show Hid _ from b2)
  clear b1 b2
  go_enter Tryd.func60, Tryd.ntmps60
  go_wp2_with fail
  refine wp_loop_rounds 1 ?_
  rw [rounds_succ]
  go_wp2
  go_ret
  have hs : (w.setCell ⟨b, 0, none⟩ (.int .i64 n)).cell? ⟨b, 0, none⟩ = some (.int .i64 n) := World.cell?_setCell_same _ _ _ hc
  have hb3 : ∀ u : World, ∀ o o2, Below u.heap.size u ((u.alloc o).alloc o2) := fun u o o2 => ((Below.refl _ _).alloc (Nat.le_refl _) o).alloc (by simp) o2
  refine ⟨rfl, cell_later (hb3 _ _ _) hs, ?_⟩
  exact (((Below.refl b w).setCell (p := ⟨b, 0, none⟩) (Nat.le_refl _) _).alloc (by simp [World.setCell]; omega) _).alloc (by simp [World.setCell]; omega) _
set_option maxHeartbeats 1000000 in
set_option maxRecDepth 100000 in
theorem as_errno (n : Int) (b : Nat) (w : World) (hE : w.cell? ⟨1, 0, none⟩ = some (rty 25)) (hc : w.cell? ⟨b, 0, none⟩ = some (.int .i64 0)) (hf : w.frozen? ⟨b, 0, none⟩ = false) (hlt : b < w.heap.size) :
    Calls Tryd.prog 45 #[.iface 41 (.int .i64 n), .iface 92 (.pointer (some ⟨b, 0, none⟩))] w fun e w' => e = .returned (.bool true) ∧ w'.cell? ⟨b, 0, none⟩ = some (.int .i64 n) ∧ Below b w w' := by
  have x1 := x_valueOfPtr
  have x2 := x_type
  have x3 := x_kindP
  have x4 := x_kindE
  have x5 := x_elem
  have x6 := x_impl
  have m1 := m_kind
  have m2 := m_elem
  have m3 := m_impl
  have b2 : ∀ o o2, Below w.heap.size w ((w.alloc o).alloc o2) := fun o o2 => ((Below.refl _ _).alloc (Nat.le_refl _) o).alloc (by simp) o2
  have hin := fun o => x_isNil ⟨w.heap.size, 0, none⟩ ⟨b, 0, none⟩ ((w.alloc (.cells #[.pointer (some ⟨b, 0, none⟩)] 92)).alloc o) (by simp)
  have hE2 := fun o o2 => cell_later (b2 o o2) hE
  have B2 := (show Hid _ from b2)
  clear b2
  go_enter Tryd.func45, Tryd.ntmps45
  go_wp2_with fail
  refine (as_in n b w.heap.size _ (cell_later (B2.out _ _) hc) (((B2.out _ _).frozen (p := ⟨b, 0, none⟩) hlt).trans hf) (by simp) (by simp; omega)).mono ?_
  rintro e w1 ⟨rfl, h1, h2⟩
  go_wp2
  go_ret
  exact ⟨rfl, h1, ((B2.out _ _).mono (by omega)).trans h2⟩
set_option maxHeartbeats 400000 in
theorem told_nil (w : World) : Calls Tryd.prog 30 #[.nilIface] w fun e w' => e = .returned (.int .i64 0) ∧ Below w.heap.size w w' := by
  go_enter Tryd.func30, Tryd.ntmps30
  go_wp2
  go_ret
  exact ⟨rfl, Below.refl _ _⟩
set_option maxHeartbeats 1000000 in
set_option maxRecDepth 100000 in
theorem told_errno (n : Int) (w : World) (hE : w.cell? ⟨1, 0, none⟩ = some (rty 25)) : Calls Tryd.prog 30 #[.iface 41 (.int .i64 n)] w fun e w' => e = .returned (.int .i64 n) ∧ Below w.heap.size w w' := by
  go_enter Tryd.func30, Tryd.ntmps30
  go_wp2_with fail
  have hb := (Below.refl w.heap.size w).alloc (Nat.le_refl _) (.cells #[.int .i64 0] 41)
  refine (as_errno n w.heap.size _ (cell_later hb hE) (by simp) (by simp) (by simp)).mono ?_
  rintro e w1 ⟨rfl, h1, h2⟩
  go_wp2
  go_ret
  exact ⟨rfl, hb.trans h2⟩
theorem told_any (n : Int) (w : World) (hE : w.cell? ⟨1, 0, none⟩ = some (rty 25)) : Calls Tryd.prog 30 #[errV n] w fun e w' => e = .returned (.int .i64 n) ∧ Below w.heap.size w w' := by
  unfold errV
  split
  · rename_i h
    subst h
    exact told_nil w
  · exact told_errno n w hE
set_option maxHeartbeats 400000 in
theorem error_any (n m : Int) (w : World) (hE : w.cell? ⟨1, 0, none⟩ = some (rty 25)) : Calls Tryd.prog 13 #[errV n, .int .i64 m] w fun e w' => e = .returned (.bool (n == m)) ∧ Below w.heap.size w w' := by
  go_enter Tryd.func13, Tryd.ntmps13
  go_wp2_with fail
  refine (told_any n _ hE).mono ?_
  rintro e w1 ⟨rfl, h1⟩
  go_wp2
  go_ret
  exact ⟨rfl, h1⟩
end Go.Proofs.YtopoiljgghglaaaDoor
namespace Go.Proofs.YtopoiljgghglaaaDoor
set_option linter.unusedSimpArgs false
set_option linter.unusedVariables false
set_option maxRecDepth 100000
open Go.RowKit

theorem error_self (n : Int) (w : World) (hE : w.cell? ⟨1, 0, none⟩ = some (rty 25)) : Calls Tryd.prog 13 #[errV n, .int .i64 n] w fun e w' => e = .returned (.bool true) ∧ Below w.heap.size w w' := by
  have h := error_any n n w hE
  rw [beq_self_eq_true] at h
  exact h
/-- Nothing that was there has turned; the handle of errors.As lies there. -/
structure Stay (w w' : World) : Prop where
  b : Below w.heap.size w w'
  e : w'.cell? ⟨1, 0, none⟩ = some (rty 25)
theorem Stay.more {w w1 w2 : World} (h : Stay w w1) (h0 : 1 < w.heap.size) (hb : Below w1.heap.size w1 w2) : Stay w w2 :=
  ⟨h.b.trans (hb.mono h.b.size), (hb.cell (p := ⟨1, 0, none⟩) (Nat.lt_of_lt_of_le h0 h.b.size)).trans h.e⟩
end Go.Proofs.YtopoiljgghglaaaDoor
namespace Go.Proofs.YtopoiljgghglaaaDoor
set_option linter.unusedSimpArgs false
set_option linter.unusedVariables false
open Go.ChangeShapes Go.WideShapes Go.ChangeAt Go.RowKit

theorem et : Tryd.prog.globalNamed "errors.errorType" = some 1 := by kernel_rfl
theorem rt0 : (Tryd.prog.cutTypes.find? (·.1 == "internal/reflectlite.rtype")).map (·.2) = some 120 := by kernel_rfl
theorem oneRow : ((List.range 162).filter fun t => Tryd.prog.rowNamed t [101, 114, 114, 111, 114]) = [25] := by kernel_rfl
theorem typesSize : Tryd.prog.types.size = 162 := by kernel_rfl
theorem handle_of_laid {W : World} (h : laidMetH Tryd.prog [("errors.errorType", Rows.laid_errors_errorType)] W) : W.cell? ⟨1, 0, none⟩ = some (rty 25) := by
  have h' : laidMet Tryd.prog [] W ∧ handlesMet Tryd.prog [("errors.errorType", Rows.laid_errors_errorType)] W := h
  obtain ⟨name, u, ty, e1, e2, e3, e4, e5⟩ := h'.2 _ (List.mem_singleton.2 rfl)
  have en : name = [101, 114, 114, 111, 114] := (Option.some.inj e1).symm
  subst en
  obtain rfl := Option.some.inj (rt0.symm.trans e2)
  have hm : ty ∈ (List.range 162).filter fun t => Tryd.prog.rowNamed t [101, 114, 114, 111, 114] := List.mem_filter.2 ⟨List.mem_range.2 (by rw [← typesSize]; exact e3), e4⟩
  rw [oneRow] at hm
  obtain rfl := List.mem_singleton.1 hm
  have hh : typeHandle Tryd.prog 25 = .pointer (some ⟨2, 25, none⟩) := by kernel_rfl
  rw [hh] at e5
  simpa using World.var?_cell et e5 0
theorem laidOutI : laidOutB Tryd.prog = true := by kernel_rfl
theorem block_of_cell {W : World} {v : Value} (h : W.cell? ⟨1, 0, none⟩ = some v) : 1 < W.heap.size := by
  rcases Nat.lt_or_ge 1 W.heap.size with h' | h'
  · exact h'
  · simp [World.cell?, Array.getElem?_eq_none h'] at h

end Go.Proofs.YtopoiljgghglaaaDoor
namespace Go.Proofs.YtopoiljgghglaaaDoor
set_option linter.unusedSimpArgs false
set_option linter.unusedVariables false
set_option maxRecDepth 100000
open Go.RowKit

/-- A step. -/
structure St where
  op : Int
  c : C4
  x : Int
  y : Int
/-- The steps ss lie from an address on. -/
def SsAt (w : World) (b off : Nat) (ss : List St) : Prop := ∀ i n, ss[i]? = some n →
  w.cell? ⟨b, off + i * 7, none⟩ = some (.int .i64 n.op) ∧ w.cell? ⟨b, off + i * 7 + 1, none⟩ = some (.int .u64 n.c.a) ∧ w.cell? ⟨b, off + i * 7 + 2, none⟩ = some (.int .u64 n.c.b) ∧ w.cell? ⟨b, off + i * 7 + 3, none⟩ = some (.int .u64 n.c.c) ∧ w.cell? ⟨b, off + i * 7 + 4, none⟩ = some (.int .u64 n.c.d) ∧ w.cell? ⟨b, off + i * 7 + 5, none⟩ = some (.int .i64 n.x) ∧ w.cell? ⟨b, off + i * 7 + 6, none⟩ = some (.int .i64 n.y)
/-- A slice that reads as the steps ss. -/
def SsIn (w : World) (v : Value) (ss : List St) : Prop := ∃ a cap, v = .slice a ss.length cap ∧ ss.length ≤ maxLen ∧ (ss = [] ∨ ∃ b off, a = some ⟨b, off, none⟩ ∧ b < w.heap.size ∧ SsAt w b off ss)
theorem SsAt.below {w w' : World} {B b off : Nat} {ss : List St} (h : SsAt w b off ss) (hb : Below B w w') (hlt : b < B) : SsAt w' b off ss := by
  intro i n hn
  obtain ⟨h0, h1, h2, h3, h4, h5, h6⟩ := h i n hn
  exact ⟨(hb.cell (p := ⟨b, _, none⟩) hlt).trans h0, (hb.cell (p := ⟨b, _, none⟩) hlt).trans h1, (hb.cell (p := ⟨b, _, none⟩) hlt).trans h2, (hb.cell (p := ⟨b, _, none⟩) hlt).trans h3, (hb.cell (p := ⟨b, _, none⟩) hlt).trans h4, (hb.cell (p := ⟨b, _, none⟩) hlt).trans h5, (hb.cell (p := ⟨b, _, none⟩) hlt).trans h6⟩
theorem SsIn.below {w w' : World} {v : Value} {ss : List St} (h : SsIn w v ss) (hb : Below w.heap.size w w') : SsIn w' v ss := by
  obtain ⟨a, cap, rfl, hm, h | ⟨b, off, rfl, hlt, hn⟩⟩ := h
  · exact ⟨a, cap, rfl, hm, Or.inl h⟩
  · exact ⟨_, cap, rfl, hm, Or.inr ⟨b, off, rfl, Nat.lt_of_lt_of_le hlt hb.size, hn.below hb hlt⟩⟩
theorem ssIn_form {w : World} {v : Value} {ss : List St} (h : SsIn w v ss) : ∃ a cap, v = .slice a ss.length cap ∧ ss.length ≤ maxLen := by
  obtain ⟨a, cap, h1, h2, _⟩ := h
  exact ⟨a, cap, h1, h2⟩
theorem ssIn_nil (w : World) : SsIn w (.slice none 0 0) [] := ⟨none, 0, rfl, by simp, Or.inl rfl⟩
/-- A number is none that may be, of a step of a program of N. -/
abbrev stRange (N : Nat) (s : St) : Prop := s.op < 1 ∨ 5 < s.op ∨ (s.op ≠ 5 ∧ (s.x < 0 ∨ (N : Int) ≤ s.x)) ∨ (s.op = 2 ∧ (s.y < 0 ∨ (N : Int) ≤ s.y))
/-- A field that its Op has not is not 0. -/
abbrev stShape (s : St) : Prop := (s.op ≠ 1 ∧ ¬ s.c.eqb z4 = true) ∨ (s.op ≠ 2 ∧ s.y ≠ 0) ∨ (s.op = 5 ∧ s.x ≠ 0)
def stBad (N : Nat) (s : St) : Int := if stRange N s then 1 else if stShape s then 2 else 0
def stScan (N : Nat) : List St → Int
  | [] => 0
  | s :: r => if stBad N s = 0 then stScan N r else stBad N s
/-- What is wrong with a program. -/
def stepsF (ss : List St) : Int := if 200 < ss.length then 3 else if ss.length = 0 then 4 else stScan ss.length ss
theorem stBad_range {N : Nat} {s : St} (h : stRange N s) : stBad N s = 1 := by unfold stBad; rw [if_pos h]
theorem stBad_shape {N : Nat} {s : St} (h : ¬ stRange N s) (h2 : stShape s) : stBad N s = 2 := by unfold stBad; rw [if_neg h, if_pos h2]
theorem stBad_ok {N : Nat} {s : St} (h : ¬ stRange N s) (h2 : ¬ stShape s) : stBad N s = 0 := by unfold stBad; rw [if_neg h, if_neg h2]
theorem stBad_zero {N : Nat} {s : St} (h : stBad N s = 0) : ¬ stRange N s ∧ ¬ stShape s := by
  unfold stBad at h
  by_cases h1 : stRange N s
  · rw [if_pos h1] at h; cases h
  · rw [if_neg h1] at h
    by_cases h2 : stShape s
    · rw [if_pos h2] at h; cases h
    · exact ⟨h1, h2⟩
theorem stScan_drop (N : Nat) : ∀ (ss : List St) (i : Nat) (n : St), ss[i]? = some n → stScan N (ss.drop i) = if stBad N n = 0 then stScan N (ss.drop (i + 1)) else stBad N n
  | [], i, n, h => by simp at h
  | s :: r, 0, n, h => by
    simp at h
    subst h
    rfl
  | s :: r, i + 1, n, h => by
    rw [List.drop_succ_cons, List.drop_succ_cons]
    exact stScan_drop N r i n (by simpa using h)
theorem stScan_all (N : Nat) : ∀ (ss : List St), stScan N ss = 0 → ∀ s ∈ ss, stBad N s = 0
  | [], _, s, hs => by cases hs
  | a :: r, h, s, hs => by
    unfold stScan at h
    by_cases h0 : stBad N a = 0
    · rw [if_pos h0] at h
      rcases List.mem_cons.1 hs with rfl | hs
      · exact h0
      · exact stScan_all N r h s hs
    · rw [if_neg h0] at h
      exact absurd h h0
theorem stepsF_zero {ss : List St} (h : stepsF ss = 0) : ss.length ≤ 200 ∧ 0 < ss.length ∧ ∀ s ∈ ss, ¬ stRange ss.length s ∧ ¬ stShape s := by
  unfold stepsF at h
  by_cases h1 : 200 < ss.length
  · rw [if_pos h1] at h; cases h
  · rw [if_neg h1] at h
    by_cases h2 : ss.length = 0
    · rw [if_pos h2] at h; cases h
    · rw [if_neg h2] at h
      exact ⟨by omega, by omega, fun s hs => stBad_zero (stScan_all _ _ h s hs)⟩
def SsOk (ss : List St) : Prop := ∀ s ∈ ss, s.c.ok
end Go.Proofs.YtopoiljgghglaaaDoor
namespace Go.Proofs.YtopoiljgghglaaaDoor
set_option linter.unusedSimpArgs false
set_option linter.unusedVariables false
set_option maxRecDepth 100000
open Go.ChangeShapes Go.WideShapes Go.ChangeAt Go.RowKit Go.Deep Go.Joins

theorem cellsStep : Tryd.prog.cellsOf 54 = 7 := by kernel_rfl
def St.wf (n : St) : Prop := (Lit.int .i64 n.op).wf = true ∧ n.c.wf ∧ (Lit.int .i64 n.x).wf = true ∧ (Lit.int .i64 n.y).wf = true
instance : Inhabited St := ⟨⟨0, ⟨0, 0, 0, 0⟩, 0, 0⟩⟩
def St.cells (n : St) : List Value := [.int .i64 n.op, .int .u64 n.c.a, .int .u64 n.c.b, .int .u64 n.c.c, .int .u64 n.c.d, .int .i64 n.x, .int .i64 n.y]
theorem open_step {H : Type} {enc : TypeId × Value → H} {W : World} {base : Nat} {sp : Nat → Bool} {held : Bool} {fuel : Nat} {cs : List Value} {x : DataW H × List MemPlace}
    (h : DataW.trod enc Tryd.prog W base sp held fuel 54 cs = some x) : ∃ n : St, cs = n.cells ∧ n.wf := by
  obtain ⟨y0, y1, y2, y3, k, hxy, hl, u0, u1, u2, u3⟩ := trod_struct4 Tryd.underlying54 h
  rw [cellsStep] at hl
  match cs, hl with
  | [c0, c1, c2, c3, c4, c5, c6], _ =>
    simp only [cellsInt, cellsClass, List.drop, List.take] at u0 u1 u2 u3
    obtain ⟨q, e0, d0, w⟩ := DataW.trod_int Tryd.underlying3 u0
    obtain ⟨z0, z1, z2, z3, m, hx, hy0, hy1, hy2, hy3⟩ := trod_array4 Tryd.underlying30 cellsWord u1
    obtain ⟨x0, e1, _, w0⟩ := DataW.trod_int Tryd.underlying28 hy0
    obtain ⟨x1, e2, _, w1⟩ := DataW.trod_int Tryd.underlying28 hy1
    obtain ⟨x2, e3, _, w2⟩ := DataW.trod_int Tryd.underlying28 hy2
    obtain ⟨x3, e4, _, w3⟩ := DataW.trod_int Tryd.underlying28 hy3
    obtain ⟨px, e5, _, wx⟩ := DataW.trod_int Tryd.underlying3 u2
    obtain ⟨py, e6, _, wy⟩ := DataW.trod_int Tryd.underlying3 u3
    simp only [List.cons.injEq, and_true] at e0 e1 e2 e3 e4 e5 e6
    subst e0 e1 e2 e3 e4 e5 e6
    exact ⟨⟨q, ⟨x0, x1, x2, x3⟩, px, py⟩, rfl, w, ⟨w0, w1, w2, w3⟩, wx, wy⟩
theorem open_steps {H : Type} {enc : TypeId × Value → H} {W : World} {base : Nat} {sp : Nat → Bool} {held : Bool} {v : Value} {d : DataW H} {p : List MemPlace}
    (hval : Value.okWide Tryd.prog W .any base 23 v) (h : DataW.Trod enc Tryd.prog W 0 sp held 23 v d p) : ∃ ss : List St, SsIn W v ss ∧ ∀ n ∈ ss, n.wf := by
  obtain ⟨a0, len0, cap0, rfl⟩ := okWide_slice Tryd.underlying23 hval
  obtain ⟨fuel, hf⟩ := h
  rcases open_slice Tryd.underlying23 hf with ⟨hc, _⟩ | ⟨a, len, cap, m, n, D, Pl, hc, hb, hl, hm, hmm, _, hx⟩
  · simp [Value.cells] at hc
    obtain ⟨rfl, rfl, rfl⟩ := hc
    exact ⟨[], ⟨none, 0, rfl, by simp, Or.inl rfl⟩, by simp⟩
  · simp [Value.cells] at hc
    obtain ⟨rfl, rfl, rfl⟩ := hc
    have hlm : len0 ≤ m := by rw [hmm]; split <;> omega
    have each : ∀ i, i < len0 → ∃ n : St, W.cells? 0 (a.add (i * 7)) 7 = some n.cells ∧ n.wf := by
      intro i hi
      obtain ⟨cs', h1, h2⟩ := hx i (by omega)
      rw [cellsStep] at h1
      obtain ⟨n, rfl, hw⟩ := open_step h2
      exact ⟨n, h1, hw⟩
    obtain ⟨q, hq⟩ := choose_lt each
    refine ⟨(List.range len0).map q, ⟨some a, cap0, by simp, by simp; omega, ?_⟩, ?_⟩
    · rcases Nat.eq_zero_or_pos len0 with h0 | h0
      · subst h0; exact Or.inl rfl
      right
      obtain ⟨b, off, spot⟩ := a
      have cells : ∀ i, i < len0 → ∀ j, j < 7 → W.cell? ((⟨b, off, spot⟩ : Addr).add (i * 7 + j)) = (q i).cells[j]? := by
        intro i hi j hj
        obtain ⟨_, _, hcell⟩ := World.cells?_some (hq i hi).1
        have := hcell j hj
        rwa [add_add] at this
      have hspot : spot = none := by
        have := cells 0 h0 0 (by omega)
        simpa [Addr.add, St.cells] using World.cell?_spot this
      subst hspot
      have plain : ∀ k, (⟨b, off, none⟩ : Addr).add k = ⟨b, off + k, none⟩ := by
        intro k
        rcases k with _ | k <;> simp [Addr.add]
      refine ⟨b, off, rfl, ?_, ?_⟩
      · have := cells 0 h0 0 (by omega)
        rw [plain] at this
        rcases Nat.lt_or_ge b W.heap.size with h' | h'
        · exact h'
        · simp [World.cell?, Array.getElem?_eq_none h', St.cells] at this
      · intro i n hn
        have hi : i < len0 := by
          rcases Nat.lt_or_ge i len0 with h' | h'
          · exact h'
          · simp [h'] at hn
        have en : q i = n := by simpa [hi] using hn
        subst en
        have c := cells i hi
        refine ⟨?_, ?_, ?_, ?_, ?_, ?_, ?_⟩
        · have := c 0 (by omega); rw [plain] at this; simpa [Nat.add_assoc, St.cells] using this
        · have := c 1 (by omega); rw [plain] at this; simpa [Nat.add_assoc, St.cells] using this
        · have := c 2 (by omega); rw [plain] at this; simpa [Nat.add_assoc, St.cells] using this
        · have := c 3 (by omega); rw [plain] at this; simpa [Nat.add_assoc, St.cells] using this
        · have := c 4 (by omega); rw [plain] at this; simpa [Nat.add_assoc, St.cells] using this
        · have := c 5 (by omega); rw [plain] at this; simpa [Nat.add_assoc, St.cells] using this
        · have := c 6 (by omega); rw [plain] at this; simpa [Nat.add_assoc, St.cells] using this
    · intro n hn
      obtain ⟨i, hi, rfl⟩ := List.mem_map.1 hn
      exact (hq i (List.mem_range.1 hi)).2
end Go.Proofs.YtopoiljgghglaaaDoor
namespace Go.Proofs.YtopoiljgghglaaaDoor
set_option linter.unusedSimpArgs false
set_option linter.unusedVariables false
set_option maxRecDepth 100000
open Go.RowKit

/-- The spots behind a spot. -/
def nx (ss : List St) (s : List UInt8) (q : Nat) : List Nat :=
  match ss[q / (s.length + 1)]? with
  | none => []
  | some n =>
    if n.op = 1 then
      (match s[q % (s.length + 1)]? with
       | some c => if n.c.has c.toNat = true then [n.x.toNat * (s.length + 1) + q % (s.length + 1) + 1] else []
       | none => [])
    else if n.op = 2 then [n.x.toNat * (s.length + 1) + q % (s.length + 1), n.y.toNat * (s.length + 1) + q % (s.length + 1)]
    else if n.op = 3 then (if q % (s.length + 1) = 0 then [n.x.toNat * (s.length + 1) + q % (s.length + 1)] else [])
    else if n.op = 4 then (if q % (s.length + 1) = s.length then [n.x.toNat * (s.length + 1) + q % (s.length + 1)] else [])
    else []
/-- A spot at which it is done. -/
def dn (ss : List St) (s : List UInt8) (q : Nat) : Bool :=
  match ss[q / (s.length + 1)]? with
  | none => false
  | some n => decide (n.op = 5)
/-- The spots that are come to. -/
inductive Rch (ss : List St) (s : List UInt8) (q0 : Nat) : Nat → Prop
  | base : Rch ss s q0 q0
  | step (q q' : Nat) : Rch ss s q0 q → q' ∈ nx ss s q → Rch ss s q0 q'
/-- l is all ends of a program from place i, rising. -/
def RunR (ss : List St) (s : List UInt8) (i : Nat) (l : List Nat) : Prop := l.Pairwise (· < ·) ∧ ∀ j, j ∈ l ↔ ∃ q, Rch ss s i q ∧ dn ss s q = true ∧ q % (s.length + 1) = j
theorem spot_lt {N n x a : Nat} (hx : x < N) (ha : a < n) : x * n + a < N * n := by
  have h1 : (x + 1) * n ≤ N * n := Nat.mul_le_mul_right _ hx
  rw [Nat.succ_mul] at h1
  omega
/-- Of a program that may be each spot behind one is one. -/
theorem nx_lt {ss : List St} (s : List UInt8) (h : stepsF ss = 0) {q q' : Nat} (hq : q' ∈ nx ss s q) : q' < ss.length * (s.length + 1) := by
  obtain ⟨_, _, hall⟩ := stepsF_zero h
  unfold nx at hq
  cases hn : ss[q / (s.length + 1)]? with
  | none => rw [hn] at hq; cases hq
  | some n =>
    rw [hn] at hq
    simp only at hq
    have hr := (hall n (List.mem_of_getElem? hn)).1
    have hm : q % (s.length + 1) < s.length + 1 := Nat.mod_lt _ (by omega)
    have hx : n.op ≠ 5 → n.x.toNat < ss.length := fun h5 => by
      have : ¬ (n.x < 0 ∨ (ss.length : Int) ≤ n.x) := fun h => hr (Or.inr (Or.inr (Or.inl ⟨h5, h⟩)))
      omega
    have hy : n.op = 2 → n.y.toNat < ss.length := fun h2 => by
      have : ¬ (n.y < 0 ∨ (ss.length : Int) ≤ n.y) := fun h => hr (Or.inr (Or.inr (Or.inr ⟨h2, h⟩)))
      omega
    split at hq
    · rename_i h1
      split at hq
      · rename_i c hc
        split at hq
        · rw [List.mem_singleton] at hq
          subst hq
          have hlt : q % (s.length + 1) < s.length := by
            rcases Nat.lt_or_ge (q % (s.length + 1)) s.length with h' | h'
            · exact h'
            · rw [List.getElem?_eq_none h'] at hc; cases hc
          rw [Nat.add_assoc]
          exact spot_lt (hx (by omega)) (by omega)
        · cases hq
      · cases hq
    · split at hq
      · rename_i h2
        rw [List.mem_cons, List.mem_singleton] at hq
        rcases hq with rfl | rfl
        · exact spot_lt (hx (by omega)) hm
        · exact spot_lt (hy h2) hm
      · split at hq
        · rename_i h3
          split at hq
          · rw [List.mem_singleton] at hq
            subst hq
            exact spot_lt (hx (by omega)) hm
          · cases hq
        · split at hq
          · rename_i h4
            split at hq
            · rw [List.mem_singleton] at hq
              subst hq
              exact spot_lt (hx (by omega)) hm
            · cases hq
          · cases hq
theorem rch_lt {ss : List St} {s : List UInt8} (h : stepsF ss = 0) {i : Nat} (hi : i ≤ s.length) {q : Nat} (hq : Rch ss s i q) : q < ss.length * (s.length + 1) := by
  induction hq with
  | base =>
    have := (stepsF_zero h).2.1
    have := spot_lt (N := ss.length) (n := s.length + 1) (x := 0) (a := i) this (by omega)
    omega
  | step q q' _ hn _ => exact nx_lt s h hn
/-- What holds while spots are gone through, one by one. -/
structure Bfs (ss : List St) (s : List UInt8) (q0 : Nat) (seen : Nat → Bool) (Q : List Nat) (en : Nat → Bool) : Prop where
  start : seen q0 = true
  rch : ∀ q, seen q = true → Rch ss s q0 q
  que : ∀ q ∈ Q, seen q = true
  done : ∀ q, seen q = true → q ∈ Q ∨ ((∀ q' ∈ nx ss s q, seen q' = true) ∧ (dn ss s q = true → en (q % (s.length + 1)) = true))
  sound : ∀ a, en a = true → ∃ q, Rch ss s q0 q ∧ dn ss s q = true ∧ q % (s.length + 1) = a
/-- While those behind one, q, are gone through: rest is left. -/
structure BfsM (ss : List St) (s : List UInt8) (q0 : Nat) (seen : Nat → Bool) (Q : List Nat) (en : Nat → Bool) (q : Nat) (rest : List Nat) : Prop where
  start : seen q0 = true
  rch : ∀ q, seen q = true → Rch ss s q0 q
  que : ∀ q ∈ Q, seen q = true
  mine : Rch ss s q0 q
  sub : ∀ q' ∈ rest, q' ∈ nx ss s q
  left : ∀ q' ∈ nx ss s q, seen q' = true ∨ q' ∈ rest
  tell : dn ss s q = true → en (q % (s.length + 1)) = true
  done : ∀ p, seen p = true → p = q ∨ p ∈ Q ∨ ((∀ q' ∈ nx ss s p, seen q' = true) ∧ (dn ss s p = true → en (p % (s.length + 1)) = true))
  sound : ∀ a, en a = true → ∃ q, Rch ss s q0 q ∧ dn ss s q = true ∧ q % (s.length + 1) = a
def setB (p : Nat → Bool) (a : Nat) : Nat → Bool := fun j => if j = a then true else p j
theorem setB_same (p : Nat → Bool) (a : Nat) : setB p a a = true := by simp [setB]
theorem setB_old {p : Nat → Bool} {a j : Nat} (h : p j = true) : setB p a j = true := by unfold setB; split <;> simp_all
theorem setB_or {p : Nat → Bool} {a j : Nat} (h : setB p a j = true) : j = a ∨ p j = true := by
  unfold setB at h
  split at h
  · exact Or.inl ‹_›
  · exact Or.inr h
theorem Bfs.init (ss : List St) (s : List UInt8) (q0 : Nat) : Bfs ss s q0 (setB (fun _ => false) q0) [q0] (fun _ => false) where
  start := setB_same _ _
  rch := fun q h => by
    rcases setB_or h with rfl | h
    · exact .base
    · cases h
  que := fun q h => by rw [List.mem_singleton.1 h]; exact setB_same _ _
  done := fun q h => by
    rcases setB_or h with rfl | h
    · exact Or.inl (by simp)
    · cases h
  sound := fun a h => by cases h
theorem Bfs.pop {ss : List St} {s : List UInt8} {q0 : Nat} {seen : Nat → Bool} {q : Nat} {Q : List Nat} {en : Nat → Bool} (h : Bfs ss s q0 seen (q :: Q) en) (en' : Nat → Bool) (he : en' = if dn ss s q = true then setB en (q % (s.length + 1)) else en) : BfsM ss s q0 seen Q en' q (nx ss s q) := by
  have hmono : ∀ a, en a = true → en' a = true := fun a ha => by
    rw [he]
    split
    · exact setB_old ha
    · exact ha
  have hq := h.rch q (h.que q (by simp))
  refine ⟨h.start, h.rch, fun p hp => h.que p (by simp [hp]), hq, fun _ h => h, fun _ h => Or.inr h, fun hd => ?_, fun p hp => ?_, fun a ha => ?_⟩
  · rw [he, if_pos hd]; exact setB_same _ _
  · rcases h.done p hp with hm | ⟨h1, h2⟩
    · rcases List.mem_cons.1 hm with rfl | hm
      · exact Or.inl rfl
      · exact Or.inr (Or.inl hm)
    · exact Or.inr (Or.inr ⟨h1, fun hd => hmono _ (h2 hd)⟩)
  · rw [he] at ha
    split at ha
    · rename_i hd
      rcases setB_or ha with rfl | ha
      · exact ⟨q, hq, hd, rfl⟩
      · exact h.sound a ha
    · exact h.sound a ha
theorem BfsM.skip {ss : List St} {s : List UInt8} {q0 : Nat} {seen : Nat → Bool} {q x : Nat} {Q rest : List Nat} {en : Nat → Bool} (h : BfsM ss s q0 seen Q en q (x :: rest)) (hx : seen x = true) : BfsM ss s q0 seen Q en q rest :=
  ⟨h.start, h.rch, h.que, h.mine, fun p hp => h.sub p (by simp [hp]), fun p hp => by
    rcases h.left p hp with h1 | h1
    · exact Or.inl h1
    · rcases List.mem_cons.1 h1 with rfl | h1
      · exact Or.inl hx
      · exact Or.inr h1, h.tell, h.done, h.sound⟩
theorem BfsM.add {ss : List St} {s : List UInt8} {q0 : Nat} {seen : Nat → Bool} {q x : Nat} {Q rest : List Nat} {en : Nat → Bool} (h : BfsM ss s q0 seen Q en q (x :: rest)) : BfsM ss s q0 (setB seen x) (Q ++ [x]) en q rest where
  start := setB_old h.start
  rch := fun p hp => by
    rcases setB_or hp with rfl | hp
    · exact .step q p h.mine (h.sub p (by simp))
    · exact h.rch p hp
  que := fun p hp => by
    rcases List.mem_append.1 hp with hp | hp
    · exact setB_old (h.que p hp)
    · rw [List.mem_singleton.1 hp]; exact setB_same _ _
  mine := h.mine
  sub := fun p hp => h.sub p (by simp [hp])
  left := fun p hp => by
    rcases h.left p hp with h1 | h1
    · exact Or.inl (setB_old h1)
    · rcases List.mem_cons.1 h1 with rfl | h1
      · exact Or.inl (setB_same _ _)
      · exact Or.inr h1
  tell := h.tell
  done := fun p hp => by
    rcases setB_or hp with rfl | hp
    · exact Or.inr (Or.inl (by simp))
    · rcases h.done p hp with h1 | h1 | ⟨h1, h2⟩
      · exact Or.inl h1
      · exact Or.inr (Or.inl (by simp [h1]))
      · exact Or.inr (Or.inr ⟨fun r hr => setB_old (h1 r hr), h2⟩)
  sound := h.sound
theorem BfsM.fin {ss : List St} {s : List UInt8} {q0 : Nat} {seen : Nat → Bool} {q : Nat} {Q : List Nat} {en : Nat → Bool} (h : BfsM ss s q0 seen Q en q []) : Bfs ss s q0 seen Q en :=
  ⟨h.start, h.rch, h.que, fun p hp => by
    rcases h.done p hp with rfl | h1 | h1
    · refine Or.inr ⟨fun r hr => ?_, h.tell⟩
      rcases h.left r hr with h2 | h2
      · exact h2
      · cases h2
    · exact Or.inl h1
    · exact Or.inr h1, h.sound⟩
/-- Where nothing is left all is known. -/
theorem Bfs.all {ss : List St} {s : List UInt8} {q0 : Nat} {seen : Nat → Bool} {en : Nat → Bool} (h : Bfs ss s q0 seen [] en) (j : Nat) : en j = true ↔ ∃ q, Rch ss s q0 q ∧ dn ss s q = true ∧ q % (s.length + 1) = j := by
  have hs : ∀ q, Rch ss s q0 q → seen q = true := fun q hq => by
    induction hq with
    | base => exact h.start
    | step q q' _ hn ih =>
      rcases h.done q ih with h1 | ⟨h1, _⟩
      · cases h1
      · exact h1 q' hn
  constructor
  · exact h.sound j
  · rintro ⟨q, hq, hd, rfl⟩
    rcases h.done q (hs q hq) with h1 | ⟨_, h1⟩
    · cases h1
    · exact h1 hd
/-- The ends, as a list. -/
theorem Bfs.list {ss : List St} {s : List UInt8} {i : Nat} {seen : Nat → Bool} {en : Nat → Bool} (h : Bfs ss s i seen [] en) : RunR ss s i ((List.range (s.length + 1)).filter en) := by
  refine ⟨List.Pairwise.filter _ List.pairwise_lt_range, fun j => ?_⟩
  rw [List.mem_filter, List.mem_range, ← h.all j]
  refine ⟨fun h' => h'.2, fun h' => ⟨?_, h'⟩⟩
  obtain ⟨q, _, _, rfl⟩ := h.sound j h'
  exact Nat.mod_lt _ (by omega)
end Go.Proofs.YtopoiljgghglaaaDoor
