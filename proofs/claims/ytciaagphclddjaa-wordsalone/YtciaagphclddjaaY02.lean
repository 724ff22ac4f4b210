/- Classes in memory, and small facts on worlds and endings: of no Go function. Patterns: lists of nodes, in memory; parts and ends, faults, what may be nothing, turned. No function of the program. A pattern as an argument: opened. Lists of texts as arguments: opened. Lists of texts as arguments, and how long the argument is. -/
import Derived.Test.YtciaagphclddjaaProg
import Derived.WalkKit
import Derived.WalkSpells
import Derived.WalkLawsBesides
import Derived.Deep.QuietTactic
import Derived.BigQuiet
import Derived.Deep.RegionHeld3
import Derived.Lib.QuietBelow
import Derived.Test.YtciaagphclddjaaY01
import Derived.Deep.AppendLies
import Derived.Deep.Slices
import Derived.ChangeSame
import Derived.Lib.SmallJoins
namespace Go.Proofs.Ytciaagphclddjaa
set_option linter.unusedSimpArgs false
set_option linter.unusedVariables false
open Go.RowKit

/-- Block b holds class k. -/
def Hb (w : World) (b : Nat) (k : C4) : Prop := w.heap[b]? = some (.cells k.cells 29 (0, 0))
theorem Hb.cell {w : World} {b : Nat} {k : C4} (h : Hb w b k) (i : Nat) (hi : i < 4) : w.cell? ⟨b, i, none⟩ = some (.int .u64 (k.w i)) := by
  rw [Lib.cell_of_heap h]
  have := k.get i hi
  simpa using this
theorem Hb.c0 {w : World} {b : Nat} {k : C4} (h : Hb w b k) : w.cell? ⟨b, 0, none⟩ = some (.int .u64 k.a) := h.cell 0 (by decide)
theorem Hb.c1 {w : World} {b : Nat} {k : C4} (h : Hb w b k) : w.cell? ⟨b, 1, none⟩ = some (.int .u64 k.b) := h.cell 1 (by decide)
theorem Hb.c2 {w : World} {b : Nat} {k : C4} (h : Hb w b k) : w.cell? ⟨b, 2, none⟩ = some (.int .u64 k.c) := h.cell 2 (by decide)
theorem Hb.c3 {w : World} {b : Nat} {k : C4} (h : Hb w b k) : w.cell? ⟨b, 3, none⟩ = some (.int .u64 k.d) := h.cell 3 (by decide)
theorem Hb.frozen {w : World} {b : Nat} {k : C4} (h : Hb w b k) (i : Nat) : w.frozen? ⟨b, i, none⟩ = false := Lib.frozen_of_heap h i
theorem Hb.all {w : World} {b : Nat} {k : C4} (h : Hb w b k) : w.cell? ⟨b, 0, none⟩ = some (.int .u64 k.a) ∧ w.cell? ⟨b, 1, none⟩ = some (.int .u64 k.b) ∧ w.cell? ⟨b, 2, none⟩ = some (.int .u64 k.c) ∧ w.cell? ⟨b, 3, none⟩ = some (.int .u64 k.d) ∧ w.frozen? ⟨b, 0, none⟩ = false ∧ w.frozen? ⟨b, 1, none⟩ = false ∧ w.frozen? ⟨b, 2, none⟩ = false ∧ w.frozen? ⟨b, 3, none⟩ = false :=
  ⟨h.c0, h.c1, h.c2, h.c3, h.frozen 0, h.frozen 1, h.frozen 2, h.frozen 3⟩
theorem Hb.lt {w : World} {b : Nat} {k : C4} (h : Hb w b k) : b < w.heap.size := by
  rcases Nat.lt_or_ge b w.heap.size with h' | h'
  · exact h'
  · simp [Hb, Array.getElem?_eq_none h'] at h
theorem Hb.drew {w : World} {b : Nat} {k : C4} (h : Hb w b k) : Hb w.drew b k := h
theorem Hb.below {w w' : World} {B b : Nat} {k : C4} (h : Hb w b k) (hb : Below B w w') (hlt : b < B) : Hb w' b k := (hb.block b hlt).trans h
theorem Hb.alloc {w : World} {b : Nat} {k : C4} (h : Hb w b k) (o : Obj) : Hb (w.alloc o) b k := (Below.heap_alloc w o b h.lt).trans h
theorem Hb.new (w : World) (k : C4) (b : Nat) (hb : b = w.heap.size) : Hb (w.alloc (.cells k.cells 29)) b k := by subst hb; exact heap_alloc_new w _
theorem Hb.ca {w : World} {b : Nat} {k : C4} (h : Hb w b k) : (∀ o, (w.alloc o).cell? ⟨b, 0, none⟩ = some (.int .u64 k.a)) ∧ (∀ o, (w.alloc o).cell? ⟨b, 1, none⟩ = some (.int .u64 k.b)) ∧ (∀ o, (w.alloc o).cell? ⟨b, 2, none⟩ = some (.int .u64 k.c)) ∧ (∀ o, (w.alloc o).cell? ⟨b, 3, none⟩ = some (.int .u64 k.d)) :=
  ⟨fun o => (h.alloc o).c0, fun o => (h.alloc o).c1, fun o => (h.alloc o).c2, fun o => (h.alloc o).c3⟩
theorem Hb.cr {w : World} {b : Nat} {k : C4} (h : Hb w b k) : (∀ d os, (Go.Sort.grow (redrawn w d) os).cell? ⟨b, 0, none⟩ = some (.int .u64 k.a)) ∧ (∀ d os, (Go.Sort.grow (redrawn w d) os).cell? ⟨b, 1, none⟩ = some (.int .u64 k.b)) ∧ (∀ d os, (Go.Sort.grow (redrawn w d) os).cell? ⟨b, 2, none⟩ = some (.int .u64 k.c)) ∧ (∀ d os, (Go.Sort.grow (redrawn w d) os).cell? ⟨b, 3, none⟩ = some (.int .u64 k.d)) :=
  ⟨cell_regrown h.c0, cell_regrown h.c1, cell_regrown h.c2, cell_regrown h.c3⟩
theorem Hb.other {w : World} {b : Nat} {k : C4} (h : Hb w b k) (p : Addr) (v : Value) (hp : b ≠ p.block) : Hb (w.setCell p v) b k := (Below.heap_setCell w p v b hp).trans h
theorem Hb.store {w : World} {b : Nat} {k : C4} (h : Hb w b k) (i : Nat) (hi : i < 4) (z : Int) : Hb (w.setCell ⟨b, i, none⟩ (.int .u64 z)) b (k.put i z) := by
  have hs := k.set i hi z
  simp only [Hb] at h ⊢
  simp [World.setCell, Array.getElem?_modify, h, hs]
abbrev put4 (w : World) (b : Nat) (u : C4) : World := (((w.setCell ⟨b, 0, none⟩ (.int .u64 u.a)).setCell ⟨b, 1, none⟩ (.int .u64 u.b)).setCell ⟨b, 2, none⟩ (.int .u64 u.c)).setCell ⟨b, 3, none⟩ (.int .u64 u.d)
theorem Hb.put4 {w : World} {b : Nat} {k : C4} (h : Hb w b k) (u : C4) : Hb (put4 w b u) b u :=
  ((((h.store 0 (by decide) u.a).store 1 (by decide) u.b).store 2 (by decide) u.c).store 3 (by decide) u.d)
theorem Hb.other4 {w : World} {b c : Nat} {k : C4} (h : Hb w b k) (u : C4) (hc : b ≠ c) : Hb (Go.Proofs.Ytciaagphclddjaa.put4 w c u) b k :=
  (((h.other _ _ hc).other _ _ hc).other _ _ hc).other _ _ hc
theorem below_put4 {w0 w : World} {B b : Nat} (h : Below B w0 w) (hb : B ≤ b) (u : C4) : Below B w0 (put4 w b u) :=
  (((h.setCell hb _).setCell hb _).setCell hb _).setCell hb _
theorem put4_size (w : World) (b : Nat) (u : C4) : (put4 w b u).heap.size = w.heap.size := by simp [World.setCell]

set_option maxRecDepth 100000 in
theorem eq4d (d : Nat) (x y : C4) (w : World) : (Op.equalIn (d + 1 + 1) 29 x.v y.v).run Try.prog w = .ok (x.eqb y) w := by
  have hi : ∀ (a b : Int) (w : World), (Op.equalIn (d + 1) 27 (.int .u64 a) (.int .u64 b)).run Try.prog w = .ok (a == b) w := fun a b w => run_equalIn_int w d 27 .u64 .u64 a b Try.underlying27
  have p0 : ∀ (z : C4) (w : World), (part 27 z.cells 0).run Try.prog w = .ok (.int .u64 z.a) w := fun _ _ => by kernel_rfl
  have p1 : ∀ (z : C4) (w : World), (part 27 z.cells 1).run Try.prog w = .ok (.int .u64 z.b) w := fun _ _ => by kernel_rfl
  have p2 : ∀ (z : C4) (w : World), (part 27 z.cells 2).run Try.prog w = .ok (.int .u64 z.c) w := fun _ _ => by kernel_rfl
  have p3 : ∀ (z : C4) (w : World), (part 27 z.cells 3).run Try.prog w = .ok (.int .u64 z.d) w := fun _ _ => by kernel_rfl
  rw [Op.equalIn]
  simp only [Sem.run_bind, run_underlying Try.underlying29, Result.andThen_ok, Try.sizeOf27]
  rw [Std.Legacy.Range.forIn_eq_forIn_range']
  rw [show List.range' _ _ _ = [0, 1, 2, 3] from rfl]
  simp only [List.forIn_cons, List.forIn_nil, Sem.run_bind, Nat.mul_one, p0, Result.andThen_ok, hi, Sem.run_ite]
  simp only [C4.eqb]
  cases h1 : x.a == y.a <;> cases h2 : x.b == y.b <;> cases h3 : x.c == y.c <;> cases h4 : x.d == y.d <;> simp [p1, p2, p3, hi, h2, h3, h4]
theorem eq4 (x y : C4) (w : World) : (Op.equalIn 10000 29 x.v y.v).run Try.prog w = .ok (x.eqb y) w := eq4d 9998 x y w

theorem ret_str {a b : ByteArray} (h : a = b) : Ending.returned (.string a) = .returned (.string b) := by rw [h]
theorem below_drewN' (w : World) (n : Nat) : Below w.heap.size w (w.drewN n) := ⟨rfl, rfl, rfl, Nat.le_refl _, fun _ _ => rfl⟩

theorem cat_str (a b : List UInt8) : (⟨a.toArray⟩ : ByteArray) ++ ⟨b.toArray⟩ = ⟨(a ++ b).toArray⟩ := by
  apply ByteArray.ext
  simp [ByteArray.data_append]
theorem size_str (a : List UInt8) : (⟨a.toArray⟩ : ByteArray).size = a.length := by simp [ByteArray.size]

theorem ret_int {k : IntKind} {a b : Int} (h : a = b) : Ending.returned (.int k a) = .returned (.int k b) := by rw [h]
end Go.Proofs.Ytciaagphclddjaa
namespace Go.Proofs.Ytciaagphclddjaa
set_option linter.unusedSimpArgs false
set_option linter.unusedVariables false
set_option maxRecDepth 100000
open Go.RowKit

theorem hid {p : Prop} (h : p) : Hid p := h

/-- A node. -/
structure Nd where
  op : Int
  c : C4
/-- The nodes ns lie from an address on. -/
def NsAt (w : World) (b off : Nat) (ns : List Nd) : Prop := ∀ i n, ns[i]? = some n →
  w.cell? ⟨b, off + i * 5, none⟩ = some (.int .i64 n.op) ∧ w.cell? ⟨b, off + i * 5 + 1, none⟩ = some (.int .u64 n.c.a) ∧ w.cell? ⟨b, off + i * 5 + 1 + 1, none⟩ = some (.int .u64 n.c.b) ∧ w.cell? ⟨b, off + i * 5 + 1 + 2, none⟩ = some (.int .u64 n.c.c) ∧ w.cell? ⟨b, off + i * 5 + 1 + 3, none⟩ = some (.int .u64 n.c.d)
/-- A slice that reads as the nodes ns: nil where there is none. -/
def NsIn (w : World) (v : Value) (ns : List Nd) : Prop := ∃ a cap, v = .slice a ns.length cap ∧ ns.length ≤ maxLen ∧ (ns = [] ∨ ∃ b off, a = some ⟨b, off, none⟩ ∧ b < w.heap.size ∧ NsAt w b off ns)
theorem NsAt.below {w w' : World} {B b off : Nat} {ns : List Nd} (h : NsAt w b off ns) (hb : Below B w w') (hlt : b < B) : NsAt w' b off ns := by
  intro i n hn
  obtain ⟨h0, h1, h2, h3, h4⟩ := h i n hn
  exact ⟨(hb.cell (p := ⟨b, _, none⟩) hlt).trans h0, (hb.cell (p := ⟨b, _, none⟩) hlt).trans h1, (hb.cell (p := ⟨b, _, none⟩) hlt).trans h2, (hb.cell (p := ⟨b, _, none⟩) hlt).trans h3, (hb.cell (p := ⟨b, _, none⟩) hlt).trans h4⟩
theorem NsIn.below {w w' : World} {v : Value} {ns : List Nd} (h : NsIn w v ns) (hb : Below w.heap.size w w') : NsIn w' v ns := by
  obtain ⟨a, cap, rfl, hm, h | ⟨b, off, rfl, hlt, hn⟩⟩ := h
  · exact ⟨a, cap, rfl, hm, Or.inl h⟩
  · exact ⟨_, cap, rfl, hm, Or.inr ⟨b, off, rfl, Nat.lt_of_lt_of_le hlt hb.size, hn.below hb hlt⟩⟩
/-- How many parts a node has. -/
def prt (op : Int) : Nat := if op = 3 ∨ op = 4 then 2 else if op = 5 ∨ op = 6 ∨ op = 7 then 1 else 0
/-- The place behind the part at i. -/
def endF (ns : List Nd) : Nat → Nat → Option Nat
  | 0, _ => none
  | f + 1, i =>
    match ns[i]? with
    | none => none
    | some n => if prt n.op = 0 then some (i + 1) else if prt n.op = 1 then endF ns f (i + 1) else (endF ns f (i + 1)).bind (endF ns f)
def endI : Option Nat → Int
  | none => -1
  | some j => j
/-- So many parts more, from a place on. -/
def fin (ns : List Nd) (f : Nat) : Nat → Option Nat → Option Nat
  | 0, o => o
  | _ + 1, none => none
  | m + 1, some j => fin ns f m (endF ns f j)
theorem fin_none (ns : List Nd) (f m : Nat) : fin ns f m none = none := by cases m <;> rfl
theorem endF_gt (ns : List Nd) : ∀ (f i j : Nat), endF ns f i = some j → i < j ∧ j ≤ ns.length
  | 0, i, j, h => by simp [endF] at h
  | f + 1, i, j, h => by
    rw [endF] at h
    cases hn : ns[i]? with
    | none => rw [hn] at h; simp at h
    | some n =>
      rw [hn] at h
      have hi : i < ns.length := by
        rcases Nat.lt_or_ge i ns.length with h' | h'
        · exact h'
        · rw [List.getElem?_eq_none h'] at hn; cases hn
      simp only at h
      split at h
      · simp at h; omega
      · split at h
        · have := endF_gt ns f _ _ h; omega
        · cases h1 : endF ns f (i + 1) with
          | none => rw [h1] at h; simp at h
          | some k =>
            rw [h1] at h
            simp at h
            have a1 := endF_gt ns f _ _ h1
            have a2 := endF_gt ns f _ _ h
            omega
theorem endF_fin (ns : List Nd) (f i : Nat) (n : Nd) (hn : ns[i]? = some n) : endF ns (f + 1) i = fin ns f (prt n.op) (some (i + 1)) := by
  rw [endF, hn]
  simp only
  unfold prt
  split
  · simp only [fin]
    cases h : endF ns f (i + 1) <;> simp [fin]
  · split <;> simp [fin]
theorem prt_le (op : Int) : prt op ≤ 2 := by unfold prt; split <;> (try split) <;> omega
/-- The place behind the part at i, or none. -/
def endE (ns : List Nd) (i : Nat) : Option Nat := endF ns (ns.length + 1) i
theorem endE_nil (i : Nat) : endE [] i = none := by simp [endE, endF]
theorem endF_more (ns : List Nd) : ∀ (f g i j : Nat), f ≤ g → endF ns f i = some j → endF ns g i = some j
  | 0, g, i, j, _, h => by simp [endF] at h
  | f + 1, 0, i, j, hg, h => by omega
  | f + 1, g + 1, i, j, hg, h => by
    rw [endF] at h ⊢
    cases hn : ns[i]? with
    | none => rw [hn] at h; simp at h
    | some n =>
      rw [hn] at h
      simp only at h ⊢
      split at h
      · rename_i h0
        rw [if_pos h0]; exact h
      · rename_i h0
        rw [if_neg h0]
        split at h
        · rename_i h1
          rw [if_pos h1]
          exact endF_more ns f g _ _ (by omega) h
        · rename_i h1
          rw [if_neg h1]
          cases h2 : endF ns f (i + 1) with
          | none => rw [h2] at h; simp at h
          | some k =>
            rw [h2] at h
            rw [endF_more ns f g _ _ (by omega) h2]
            simp at h ⊢
            exact endF_more ns f g _ _ (by omega) h
theorem endE_of (ns : List Nd) (f i j : Nat) (hf : f ≤ ns.length + 1) (h : endF ns f i = some j) : endE ns i = some j := endF_more ns f _ i j hf h
/-- What a valid part's node and its parts are. -/
theorem part_cases (ns : List Nd) (f i j : Nat) (h : endF ns (f + 1) i = some j) : ∃ n, ns[i]? = some n ∧ i < ns.length ∧
    ((prt n.op = 0 ∧ j = i + 1) ∨ (prt n.op = 1 ∧ endF ns f (i + 1) = some j) ∨ (prt n.op = 2 ∧ ∃ k, endF ns f (i + 1) = some k ∧ endF ns f k = some j)) := by
  rw [endF] at h
  cases hn : ns[i]? with
  | none => rw [hn] at h; simp at h
  | some n =>
    have hi : i < ns.length := by
      rcases Nat.lt_or_ge i ns.length with h' | h'
      · exact h'
      · rw [List.getElem?_eq_none h'] at hn; cases hn
    refine ⟨n, rfl, hi, ?_⟩
    rw [hn] at h
    simp only at h
    have hp : prt n.op ≤ 2 := prt_le n.op
    split at h
    · rename_i h0
      exact Or.inl ⟨h0, by simpa using h.symm⟩
    · split at h
      · rename_i h1
        exact Or.inr (Or.inl ⟨h1, h⟩)
      · rename_i h0 h1
        cases h2 : endF ns f (i + 1) with
        | none => rw [h2] at h; simp at h
        | some k => rw [h2] at h; exact Or.inr (Or.inr ⟨by omega, k, rfl, by simpa using h⟩)
theorem prt_two (op : Int) : prt op = 2 ↔ op = 3 ∨ op = 4 := by
  unfold prt
  split
  · rename_i h; simp [h]
  · rename_i h
    split <;> simp [h]
theorem prt_one (op : Int) : prt op = 1 ↔ op = 5 ∨ op = 6 ∨ op = 7 := by
  unfold prt
  split
  · rename_i h
    simp
    omega
  · split
    · rename_i h; simp [h]
    · rename_i h; simp [h]
/-- May the part at i be nothing? -/
def empF (ns : List Nd) : Nat → Nat → Bool
  | 0, _ => true
  | f + 1, i =>
    match ns[i]? with
    | none => true
    | some n => if n.op = 1 then false else if n.op = 3 then empF ns f (i + 1) && empF ns f ((endE ns (i + 1)).getD 0) else if n.op = 4 then empF ns f (i + 1) || empF ns f ((endE ns (i + 1)).getD 0) else if n.op = 6 then empF ns f (i + 1) else true
theorem empF_at (ns : List Nd) (f i : Nat) (n : Nd) (hn : ns[i]? = some n) : empF ns (f + 1) i = if n.op = 1 then false else if n.op = 3 then empF ns f (i + 1) && empF ns f ((endE ns (i + 1)).getD 0) else if n.op = 4 then empF ns f (i + 1) || empF ns f ((endE ns (i + 1)).getD 0) else if n.op = 6 then empF ns f (i + 1) else true := by
  rw [empF, hn]
theorem arg_succ (i : Nat) : ((i + 1 : Nat) : Int) = (i : Int) + 1 := by omega
/-- May a pattern be nothing? -/
def empE (ns : List Nd) : Bool := empF ns (ns.length + 1) 0
/-- What is wrong with the nodes, one by one. -/
def scanL : List Nd → Int
  | [] => 0
  | n :: r => if n.op < 1 ∨ 9 < n.op then 1 else if ¬ n.op = 1 ∧ ¬ n.c.eqb z4 = true then 2 else scanL r
/-- What is wrong with a pattern. -/
def faultL (ns : List Nd) : Int := if 60 < ns.length then 3 else if scanL ns ≠ 0 then scanL ns else if ns = [] ∨ endE ns 0 ≠ some ns.length then 2 else 0
def NdOk (ns : List Nd) : Prop := ∀ n ∈ ns, n.c.ok
theorem cnt_zero_iff {k : C4} (hk : k.ok) : ((0 : Int) < ((cnt k.has 256 : Nat) : Int)) ↔ ¬ k.eqb z4 = true := by
  rw [C4.eqb_iff]
  constructor
  · intro h e
    subst e
    have : cnt z4.has 256 = cnt (fun _ => false) 256 := cnt_congr _ _ _ (fun i _ => z4_has i)
    have h0 : ∀ n, cnt (fun _ => false) n = 0 := by
      intro n
      induction n with
      | zero => rfl
      | succ n ih => rw [cnt, ih]; rfl
    rw [this, h0] at h
    omega
  · intro h
    rcases Nat.eq_zero_or_pos (cnt k.has 256) with h0 | h0
    · exfalso
      apply h
      apply C4.ext_has hk z4_ok
      intro i hi
      rw [cnt_pos k.has 256 h0 i hi, z4_has]
    · omega
theorem scan_drop (ns : List Nd) (i : Nat) (n : Nd) (hn : ns[i]? = some n) : scanL (ns.drop i) = if n.op < 1 ∨ 9 < n.op then 1 else if ¬ n.op = 1 ∧ ¬ n.c.eqb z4 = true then 2 else scanL (ns.drop (i + 1)) := by
  have hi : i < ns.length := by
    rcases Nat.lt_or_ge i ns.length with h | h
    · exact h
    · rw [List.getElem?_eq_none h] at hn; cases hn
  rw [List.drop_eq_getElem_cons hi]
  rw [List.getElem?_eq_getElem hi] at hn
  rw [Option.some.inj hn, scanL]
abbrev Nd.cells (n : Nd) : Array Value := #[.int .i64 n.op, .int .u64 n.c.a, .int .u64 n.c.b, .int .u64 n.c.c, .int .u64 n.c.d]
abbrev Nd.v (n : Nd) : Value := .agg #[.int .i64 n.op, .int .u64 n.c.a, .int .u64 n.c.b, .int .u64 n.c.c, .int .u64 n.c.d]
def Nd.eqb (n m : Nd) : Bool := n.op == m.op && n.c.eqb m.c
theorem Nd.eqb_iff (n m : Nd) : n.eqb m = true ↔ n = m := by
  unfold Nd.eqb
  rw [Bool.and_eq_true, C4.eqb_iff, beq_iff_eq]
  cases n; cases m
  simp
def nsEq : List Nd → List Nd → Bool
  | [], [] => true
  | n :: r, m :: q => n.eqb m && nsEq r q
  | _, _ => false
theorem nsEq_iff : ∀ (x y : List Nd), nsEq x y = true ↔ x = y
  | [], [] => by simp [nsEq]
  | [], m :: q => by simp [nsEq]
  | n :: r, [] => by simp [nsEq]
  | n :: r, m :: q => by
    rw [nsEq, Bool.and_eq_true, Nd.eqb_iff, nsEq_iff r q]
    simp
theorem nsEq_len (x y : List Nd) (h : x.length ≠ y.length) : nsEq x y = false := by
  cases e : nsEq x y
  · rfl
  · rw [nsEq_iff] at e; rw [e] at h; exact absurd rfl h
theorem nsEq_drop (x y : List Nd) (i : Nat) (n m : Nd) (hn : x[i]? = some n) (hm : y[i]? = some m) : nsEq (x.drop i) (y.drop i) = (n.eqb m && nsEq (x.drop (i + 1)) (y.drop (i + 1))) := by
  have hi : i < x.length := by
    rcases Nat.lt_or_ge i x.length with h | h
    · exact h
    · rw [List.getElem?_eq_none h] at hn; cases hn
  have hj : i < y.length := by
    rcases Nat.lt_or_ge i y.length with h | h
    · exact h
    · rw [List.getElem?_eq_none h] at hm; cases hm
  rw [List.drop_eq_getElem_cons hi, List.drop_eq_getElem_cons hj, nsEq]
  rw [List.getElem?_eq_getElem hi] at hn
  rw [List.getElem?_eq_getElem hj] at hm
  rw [Option.some.inj hn, Option.some.inj hm]
/-- Begin and End exchanged. -/
def flipOp (op : Int) : Int := if op = 8 then 9 else if op = 9 then 8 else op
def Nd.flip (n : Nd) : Nd := ⟨flipOp n.op, n.c⟩
/-- The part at i, turned. -/
def turF (ns : List Nd) : Nat → Nat → List Nd
  | 0, _ => []
  | f + 1, i =>
    match ns[i]? with
    | none => []
    | some n => n.flip :: (if prt n.op = 1 then turF ns f (i + 1) else if n.op = 3 then turF ns f ((endE ns (i + 1)).getD 0) ++ turF ns f (i + 1) else if n.op = 4 then turF ns f (i + 1) ++ turF ns f ((endE ns (i + 1)).getD 0) else [])
theorem turF_at (ns : List Nd) (f i : Nat) (n : Nd) (hn : ns[i]? = some n) : turF ns (f + 1) i = n.flip :: (if prt n.op = 1 then turF ns f (i + 1) else if n.op = 3 then turF ns f ((endE ns (i + 1)).getD 0) ++ turF ns f (i + 1) else if n.op = 4 then turF ns f (i + 1) ++ turF ns f ((endE ns (i + 1)).getD 0) else []) := by
  rw [turF, hn]
theorem turF_len (ns : List Nd) : ∀ (f i j : Nat), f ≤ ns.length + 1 → endF ns f i = some j → (turF ns f i).length = j - i
  | 0, i, j, _, h => by simp [endF] at h
  | f + 1, i, j, hf, h => by
    obtain ⟨n, hn, hil, hc⟩ := part_cases ns f i j h
    rw [turF_at ns f i n hn, List.length_cons]
    rcases hc with ⟨h0, rfl⟩ | ⟨h0, h1⟩ | ⟨h0, k, h1, h2⟩
    · have e3 : ¬ n.op = 3 := by intro e; rw [e] at h0; simp [prt] at h0
      have e4 : ¬ n.op = 4 := by intro e; rw [e] at h0; simp [prt] at h0
      rw [if_neg (by omega), if_neg e3, if_neg e4]
      simp
    · have := turF_len ns f _ _ (by omega) h1
      have g1 := endF_gt ns f _ _ h1
      rw [if_pos h0]
      omega
    · have a1 := turF_len ns f _ _ (by omega) h1
      have a2 := turF_len ns f _ _ (by omega) h2
      have g1 := endF_gt ns f _ _ h1
      have g2 := endF_gt ns f _ _ h2
      have ek := endE_of ns f (i + 1) k (by omega) h1
      rw [if_neg (by omega), ek]
      rcases (prt_two n.op).1 h0 with e3 | e4
      · rw [if_pos e3]; simp; omega
      · rw [if_neg (by omega), if_pos e4]; simp; omega
/-- The nodes' cells, one behind the other. -/
def nsCells : List Nd → List Value
  | [] => []
  | n :: r => [.int .i64 n.op, .int .u64 n.c.a, .int .u64 n.c.b, .int .u64 n.c.c, .int .u64 n.c.d] ++ nsCells r
theorem nsCells_append : ∀ (x y : List Nd), nsCells (x ++ y) = nsCells x ++ nsCells y
  | [], y => rfl
  | n :: r, y => by simp [nsCells, nsCells_append r y]
theorem nsCells_len : ∀ (x : List Nd), (nsCells x).length = x.length * 5
  | [] => rfl
  | n :: r => by simp [nsCells, nsCells_len r]; omega
theorem nsCells_one : ∀ (x : List Nd), ∀ u ∈ nsCells x, u.oneCell' = true
  | [], u, h => by simp [nsCells] at h
  | n :: r, u, h => by
    rw [nsCells, List.mem_append] at h
    rcases h with h | h
    · simp at h
      rcases h with rfl | rfl | rfl | rfl | rfl <;> rfl
    · exact nsCells_one r u h
theorem nsCells_get : ∀ (x : List Nd) (i : Nat) (n : Nd), x[i]? = some n → (nsCells x)[i * 5]? = some (.int .i64 n.op) ∧ (nsCells x)[i * 5 + 1]? = some (.int .u64 n.c.a) ∧ (nsCells x)[i * 5 + 2]? = some (.int .u64 n.c.b) ∧ (nsCells x)[i * 5 + 3]? = some (.int .u64 n.c.c) ∧ (nsCells x)[i * 5 + 4]? = some (.int .u64 n.c.d)
  | [], i, n, h => by simp at h
  | m :: r, 0, n, h => by
    simp at h
    subst h
    simp [nsCells]
  | m :: r, i + 1, n, h => by
    have ih := nsCells_get r i n (by simpa using h)
    have e : ∀ t, (nsCells (m :: r))[(i + 1) * 5 + t]? = (nsCells r)[i * 5 + t]? := by
      intro t
      rw [nsCells, List.getElem?_append_right (by simp; omega)]
      congr 1
      simp
      omega
    have e0 := e 0
    simp only [Nat.add_zero] at e0
    rw [e0, e 1, e 2, e 3, e 4]
    exact ih
/-- A slice of the call's own that holds the nodes ns. -/
def NsOwn (w : World) (base : Nat) (v : Value) (ns : List Nd) : Prop := w.ownsRow base 31 5 v ns.length (nsCells ns)
theorem NsOwn.below {w w' : World} {base : Nat} {v : Value} {ns : List Nd} (h : NsOwn w base v ns) (hb : Below w.heap.size w w') : NsOwn w' base v ns := by
  refine World.ownsRow.kept (row := none) h ⟨hb.os, hb.tape, hb.output, hb.size, fun k hk _ => hb.block k hk⟩ ?_
  cases hv : v.ownBlock with
  | none => exact Or.inl rfl
  | some x => exact Or.inr (by simp)
theorem NsOwn.form {w : World} {base : Nat} {v : Value} {ns : List Nd} (h : NsOwn w base v ns) (h0 : 0 < ns.length) : ∃ g cap, v = .slice (some ⟨g, 0, none⟩) ns.length cap ∧ base ≤ g ∧ g < w.heap.size ∧ ∀ j u, (nsCells ns)[j]? = some u → w.cell? ⟨g, j, none⟩ = some u := by
  rcases h.2 with ⟨_, h1⟩ | ⟨g, cap, cur, hv, hb, hg, _, _, hs, ht⟩
  · omega
  · refine ⟨g, cap, hv, hb, ?_, ?_⟩
    · rcases Nat.lt_or_ge g w.heap.size with hlt | hge
      · exact hlt
      · rw [Array.getElem?_eq_none hge] at hg; cases hg
    · intro j u hj
      have hjl : j < (nsCells ns).length := by
        rcases Nat.lt_or_ge j (nsCells ns).length with h' | h'
        · exact h'
        · rw [List.getElem?_eq_none h'] at hj; cases hj
      rw [Lib.cell_of_heap hg]
      rw [← ht, List.getElem?_take] at hj
      split at hj
      · simpa using hj
      · cases hj
theorem NsOwn.isIn {w : World} {base : Nat} {v : Value} {ns : List Nd} (h : NsOwn w base v ns) (hm : ns.length ≤ maxLen) : NsIn w v ns := by
  rcases Nat.eq_zero_or_pos ns.length with h0 | h0
  · have e : ns = [] := List.eq_nil_of_length_eq_zero h0
    subst e
    rcases h.2 with ⟨hv, _⟩ | ⟨g, cap, cur, hv, _⟩
    · exact ⟨none, 0, hv, hm, Or.inl rfl⟩
    · exact ⟨_, cap, hv, hm, Or.inl rfl⟩
  · obtain ⟨g, cap, hv, _, hlt, hc⟩ := h.form h0
    refine ⟨_, cap, hv, hm, Or.inr ⟨g, 0, rfl, hlt, ?_⟩⟩
    intro i n hn
    obtain ⟨c0, c1, c2, c3, c4⟩ := nsCells_get ns i n hn
    refine ⟨?_, ?_, ?_, ?_, ?_⟩
    · rw [Nat.zero_add]; exact hc _ _ c0
    · rw [Nat.zero_add]; exact hc _ _ c1
    · rw [Nat.zero_add]; exact hc _ _ c2
    · rw [Nat.zero_add]; exact hc _ _ c3
    · rw [Nat.zero_add]; exact hc _ _ c4
/-- The pattern, turned. -/
def turE (ns : List Nd) : List Nd := turF ns (ns.length + 1) 0
theorem turE_len (ns : List Nd) (hv : endE ns 0 = some ns.length) : (turE ns).length = ns.length := turF_len ns _ 0 _ (Nat.le_refl _) hv
end Go.Proofs.Ytciaagphclddjaa
namespace Go.Proofs.Ytciaagphclddjaa
set_option linter.unusedSimpArgs false
set_option linter.unusedVariables false
set_option maxRecDepth 100000
open Go.ChangeShapes Go.WideShapes Go.ChangeAt Go.RowKit Go.Deep

theorem cellsNode : Try.prog.cellsOf 31 = 5 := by kernel_rfl
theorem cellsInt : Try.prog.cellsOf 3 = 1 := by kernel_rfl
def Nd.wf (n : Nd) : Prop := (Lit.int .i64 n.op).wf = true ∧ n.c.wf
instance : Inhabited Nd := ⟨⟨0, ⟨0, 0, 0, 0⟩⟩⟩
theorem open_node {H : Type} {enc : TypeId × Value → H} {W : World} {base : Nat} {sp : Nat → Bool} {held : Bool} {fuel : Nat} {cs : List Value} {x : DataW H × List MemPlace}
    (h : DataW.trod enc Try.prog W base sp held fuel 31 cs = some x) : ∃ n : Nd, cs = [.int .i64 n.op, .int .u64 n.c.a, .int .u64 n.c.b, .int .u64 n.c.c, .int .u64 n.c.d] ∧ n.wf := by
  obtain ⟨y0, y1, k, hxy, hl, u0, u1⟩ := trod_struct2 Try.underlying31 h
  rw [cellsNode] at hl
  match cs, hl with
  | [c0, c1, c2, c3, c4], _ =>
    simp only [cellsInt, cellsClass, List.drop, List.take] at u0 u1
    obtain ⟨q, e0, d0, w⟩ := DataW.trod_int Try.underlying3 u0
    obtain ⟨z0, z1, z2, z3, m, hx, hy0, hy1, hy2, hy3⟩ := trod_array4 Try.underlying29 cellsWord u1
    obtain ⟨x0, e1, _, w0⟩ := DataW.trod_int Try.underlying27 hy0
    obtain ⟨x1, e2, _, w1⟩ := DataW.trod_int Try.underlying27 hy1
    obtain ⟨x2, e3, _, w2⟩ := DataW.trod_int Try.underlying27 hy2
    obtain ⟨x3, e4, _, w3⟩ := DataW.trod_int Try.underlying27 hy3
    simp only [List.cons.injEq, and_true] at e0 e1 e2 e3 e4
    subst e0 e1 e2 e3 e4
    exact ⟨⟨q, ⟨x0, x1, x2, x3⟩⟩, rfl, w, w0, w1, w2, w3⟩
theorem open_nodes {H : Type} {enc : TypeId × Value → H} {W : World} {base : Nat} {sp : Nat → Bool} {held : Bool} {v : Value} {d : DataW H} {p : List MemPlace}
    (hval : Value.okWide Try.prog W .any base 22 v) (h : DataW.Trod enc Try.prog W 0 sp held 22 v d p) : ∃ ns : List Nd, NsIn W v ns ∧ ∀ n ∈ ns, n.wf := by
  obtain ⟨a0, len0, cap0, rfl⟩ := okWide_slice Try.underlying22 hval
  obtain ⟨fuel, hf⟩ := h
  rcases open_slice Try.underlying22 hf with ⟨hc, _⟩ | ⟨a, len, cap, m, n, D, Pl, hc, hb, hl, hm, hmm, _, hx⟩
  · simp [Value.cells] at hc
    obtain ⟨rfl, rfl, rfl⟩ := hc
    exact ⟨[], ⟨none, 0, rfl, by simp, Or.inl rfl⟩, by simp⟩
  · simp [Value.cells] at hc
    obtain ⟨rfl, rfl, rfl⟩ := hc
    have hlm : len0 ≤ m := by rw [hmm]; split <;> omega
    have each : ∀ i, i < len0 → ∃ n : Nd, W.cells? 0 (a.add (i * 5)) 5 = some [.int .i64 n.op, .int .u64 n.c.a, .int .u64 n.c.b, .int .u64 n.c.c, .int .u64 n.c.d] ∧ n.wf := by
      intro i hi
      obtain ⟨cs', h1, h2⟩ := hx i (by omega)
      rw [cellsNode] at h1
      obtain ⟨n, rfl, hw⟩ := open_node h2
      exact ⟨n, h1, hw⟩
    obtain ⟨q, hq⟩ := choose_lt each
    refine ⟨(List.range len0).map q, ⟨some a, cap0, by simp, by simp; omega, ?_⟩, ?_⟩
    · rcases Nat.eq_zero_or_pos len0 with h0 | h0
      · subst h0; exact Or.inl rfl
      right
      obtain ⟨b, off, spot⟩ := a
      have cells : ∀ i, i < len0 → ∀ j, j < 5 → W.cell? ((⟨b, off, spot⟩ : Addr).add (i * 5 + j)) = [Value.int .i64 (q i).op, .int .u64 (q i).c.a, .int .u64 (q i).c.b, .int .u64 (q i).c.c, .int .u64 (q i).c.d][j]? := by
        intro i hi j hj
        obtain ⟨_, _, hcell⟩ := World.cells?_some (hq i hi).1
        have := hcell j hj
        rwa [add_add] at this
      have hspot : spot = none := by
        have := cells 0 h0 0 (by omega)
        simpa [Addr.add] using World.cell?_spot this
      subst hspot
      have plain : ∀ k, (⟨b, off, none⟩ : Addr).add k = ⟨b, off + k, none⟩ := by
        intro k
        rcases k with _ | k <;> simp [Addr.add]
      refine ⟨b, off, rfl, ?_, ?_⟩
      · have := cells 0 h0 0 (by omega)
        rw [plain] at this
        rcases Nat.lt_or_ge b W.heap.size with h' | h'
        · exact h'
        · simp [World.cell?, Array.getElem?_eq_none h'] at this
      · intro i n hn
        have hi : i < len0 := by
          rcases Nat.lt_or_ge i len0 with h' | h'
          · exact h'
          · simp [h'] at hn
        have en : q i = n := by simpa [hi] using hn
        subst en
        have c := cells i hi
        refine ⟨?_, ?_, ?_, ?_, ?_⟩
        · have := c 0 (by omega); rw [plain] at this; simpa [Nat.add_assoc] using this
        · have := c 1 (by omega); rw [plain] at this; simpa [Nat.add_assoc] using this
        · have := c 2 (by omega); rw [plain] at this; simpa [Nat.add_assoc] using this
        · have := c 3 (by omega); rw [plain] at this; simpa [Nat.add_assoc] using this
        · have := c 4 (by omega); rw [plain] at this; simpa [Nat.add_assoc] using this
    · intro n hn
      obtain ⟨i, hi, rfl⟩ := List.mem_map.1 hn
      exact (hq i (List.mem_range.1 hi)).2
end Go.Proofs.Ytciaagphclddjaa
namespace Go.Proofs.Ytciaagphclddjaa
set_option linter.unusedSimpArgs false
set_option linter.unusedVariables false
set_option maxRecDepth 100000
open Go.ChangeShapes Go.WideShapes Go.ChangeAt Go.RowKit Go.Deep Go.Joins

/-- A slice that reads as the texts ts. -/
def TsIn (w : World) (v : Value) (ts : List ByteArray) : Prop := ∃ a cap, v = .slice a ts.length cap ∧ (ts.length ≤ cap ∧ cap ≤ maxLen) ∧ (ts = [] ∨ ∃ b off, a = some ⟨b, off, none⟩ ∧ b < w.heap.size ∧ ∀ i t, ts[i]? = some t → w.cell? ⟨b, off + i, none⟩ = some (.string t))
theorem TsIn.below {w w' : World} {v : Value} {ts : List ByteArray} (h : TsIn w v ts) (hb : Below w.heap.size w w') : TsIn w' v ts := by
  obtain ⟨a, cap, rfl, hm, h | ⟨b, off, rfl, hlt, hn⟩⟩ := h
  · exact ⟨a, cap, rfl, hm, Or.inl h⟩
  · exact ⟨_, cap, rfl, hm, Or.inr ⟨b, off, rfl, Nat.lt_of_lt_of_le hlt hb.size, fun i t ht => (hb.cell (p := ⟨b, _, none⟩) hlt).trans (hn i t ht)⟩⟩
theorem open_texts {H : Type} {enc : TypeId × Value → H} {W : World} {base : Nat} {sp : Nat → Bool} {held : Bool} {v : Value} {d : DataW H} {p : List MemPlace}
    (hval : Value.okWide Try.prog W .any base 36 v) (h : DataW.Trod enc Try.prog W 0 sp held 36 v d p) : ∃ ts : List ByteArray, TsIn W v ts ∧ ∀ t ∈ ts, t.size ≤ maxLen := by
  have hce : Try.prog.cellsOf 9 = 1 := by kernel_rfl
  obtain ⟨a0, len0, cap0, rfl⟩ := okWide_slice Try.underlying36 hval
  obtain ⟨fuel, hf⟩ := h
  rcases open_slice Try.underlying36 hf with ⟨hc, _⟩ | ⟨a, len, cap, m, n, D, Pl, hc, hb, hl, hm, hmm, _, hx⟩
  · simp [Value.cells] at hc
    obtain ⟨rfl, rfl, rfl⟩ := hc
    exact ⟨[], ⟨none, 0, rfl, by simp, Or.inl rfl⟩, by simp⟩
  · simp [Value.cells] at hc
    obtain ⟨rfl, rfl, rfl⟩ := hc
    have hlm : len0 ≤ m := by rw [hmm]; split <;> omega
    have each : ∀ i, i < len0 → ∃ t : ByteArray, W.cells? 0 (a.add (i * 1)) 1 = some [.string t] ∧ t.size ≤ maxLen := by
      intro i hi
      obtain ⟨cs', h1, h2⟩ := hx i (by omega)
      rw [hce] at h1
      obtain ⟨t, rfl, _, hw⟩ := DataW.trod_string Try.underlying9 h2
      exact ⟨t, h1, hw⟩
    obtain ⟨q, hq⟩ := choose_lt each
    refine ⟨(List.range len0).map q, ⟨some a, cap0, by simp, by simp; omega, ?_⟩, ?_⟩
    · rcases Nat.eq_zero_or_pos len0 with h0 | h0
      · subst h0; exact Or.inl rfl
      right
      obtain ⟨b, off, spot⟩ := a
      have cells : ∀ i, i < len0 → W.cell? ((⟨b, off, spot⟩ : Addr).add i) = some (.string (q i)) := by
        intro i hi
        obtain ⟨_, _, hcell⟩ := World.cells?_some (hq i hi).1
        have := hcell 0 (by omega)
        rw [add_add, Nat.mul_one, Nat.add_zero] at this
        simpa using this
      have hspot : spot = none := by
        have := cells 0 h0
        simpa [Addr.add] using World.cell?_spot this
      subst hspot
      have plain : ∀ k, (⟨b, off, none⟩ : Addr).add k = ⟨b, off + k, none⟩ := by
        intro k
        rcases k with _ | k <;> simp [Addr.add]
      refine ⟨b, off, rfl, ?_, ?_⟩
      · have := cells 0 h0
        rw [plain] at this
        rcases Nat.lt_or_ge b W.heap.size with h' | h'
        · exact h'
        · simp [World.cell?, Array.getElem?_eq_none h'] at this
      · intro i t ht
        have hi : i < len0 := by
          rcases Nat.lt_or_ge i len0 with h' | h'
          · exact h'
          · simp [h'] at ht
        have et : q i = t := by simpa [hi] using ht
        subst et
        have := cells i hi
        rwa [plain] at this
    · intro t ht
      obtain ⟨i, hi, rfl⟩ := List.mem_map.1 ht
      exact (hq i (List.mem_range.1 hi)).2
end Go.Proofs.Ytciaagphclddjaa
namespace Go.Proofs.Ytciaagphclddjaa
set_option linter.unusedSimpArgs false
set_option linter.unusedVariables false
set_option maxRecDepth 100000
open Go.ChangeShapes Go.WideShapes Go.ChangeAt Go.RowKit Go.Deep Go.Joins

theorem open_texts_d {H : Type} {enc : TypeId × Value → H} {W : World} {base : Nat} {sp : Nat → Bool} {held : Bool} {v : Value} {d : DataW H} {p : List MemPlace}
    (hval : Value.okWide Try.prog W .any base 36 v) (h : DataW.Trod enc Try.prog W 0 sp held 36 v d p) : ∃ ts : List ByteArray, TsIn W v ts ∧ (∀ t ∈ ts, t.size ≤ maxLen) ∧ (ts = [] ∨ ∃ el sp, d = .slice el sp ∧ el.length = ts.length) := by
  have hce : Try.prog.cellsOf 9 = 1 := by kernel_rfl
  obtain ⟨a0, len0, cap0, rfl⟩ := okWide_slice Try.underlying36 hval
  obtain ⟨fuel, hf⟩ := h
  rcases open_slice Try.underlying36 hf with ⟨hc, _⟩ | ⟨a, len, cap, m, n, D, Pl, hc, hb, hl, hm, hmm, hdd, hx⟩
  · simp [Value.cells] at hc
    obtain ⟨rfl, rfl, rfl⟩ := hc
    exact ⟨[], ⟨none, 0, rfl, by simp, Or.inl rfl⟩, by simp, Or.inl rfl⟩
  · simp [Value.cells] at hc
    obtain ⟨rfl, rfl, rfl⟩ := hc
    have hlm : len0 ≤ m := by rw [hmm]; split <;> omega
    have each : ∀ i, i < len0 → ∃ t : ByteArray, W.cells? 0 (a.add (i * 1)) 1 = some [.string t] ∧ t.size ≤ maxLen := by
      intro i hi
      obtain ⟨cs', h1, h2⟩ := hx i (by omega)
      rw [hce] at h1
      obtain ⟨t, rfl, _, hw⟩ := DataW.trod_string Try.underlying9 h2
      exact ⟨t, h1, hw⟩
    obtain ⟨q, hq⟩ := choose_lt each
    refine ⟨(List.range len0).map q, ⟨some a, cap0, by simp, by simp; omega, ?_⟩, ?_, ?_⟩
    · rcases Nat.eq_zero_or_pos len0 with h0 | h0
      · subst h0; exact Or.inl rfl
      right
      obtain ⟨b, off, spot⟩ := a
      have cells : ∀ i, i < len0 → W.cell? ((⟨b, off, spot⟩ : Addr).add i) = some (.string (q i)) := by
        intro i hi
        obtain ⟨_, _, hcell⟩ := World.cells?_some (hq i hi).1
        have := hcell 0 (by omega)
        rw [add_add, Nat.mul_one, Nat.add_zero] at this
        simpa using this
      have hspot : spot = none := by
        have := cells 0 h0
        simpa [Addr.add] using World.cell?_spot this
      subst hspot
      have plain : ∀ k, (⟨b, off, none⟩ : Addr).add k = ⟨b, off + k, none⟩ := by
        intro k
        rcases k with _ | k <;> simp [Addr.add]
      refine ⟨b, off, rfl, ?_, ?_⟩
      · have := cells 0 h0
        rw [plain] at this
        rcases Nat.lt_or_ge b W.heap.size with h' | h'
        · exact h'
        · simp [World.cell?, Array.getElem?_eq_none h'] at this
      · intro i t ht
        have hi : i < len0 := by
          rcases Nat.lt_or_ge i len0 with h' | h'
          · exact h'
          · simp [h'] at ht
        have et : q i = t := by simpa [hi] using ht
        subst et
        have := cells i hi
        rwa [plain] at this
    · intro t ht
      obtain ⟨i, hi, rfl⟩ := List.mem_map.1 ht
      exact (hq i (List.mem_range.1 hi)).2
    · injection hdd with hd1 _
      exact Or.inr ⟨_, _, hd1, by simp⟩
end Go.Proofs.Ytciaagphclddjaa
