/- Patterns: lists of nodes, in memory; parts and ends, faults, what may be nothing, turned. No function of the program. -/
import Derived.Test.YtmdfdlljeggbbaaMem
import Derived.Test.YtmdfdlljeggbbaaMt3
import Derived.Deep.AppendLies
set_option linter.unusedSimpArgs false
set_option linter.unusedVariables false
set_option maxRecDepth 100000
namespace Go.Proofs.Ytmdfdlljeggbbaa
open Go.RowKit

/-- A node. -/
structure Nd where
  op : Int
  c : C4
/-- The nodes ns lie from an address on. -/
def NsAt (w : World) (b off : Nat) (ns : List Nd) : Prop := ∀ i n, ns[i]? = some n →
  w.cell? ⟨b, off + i * 5, none⟩ = some (.int .i64 n.op) ∧ w.cell? ⟨b, off + i * 5 + 1, none⟩ = some (.int .u64 n.c.a) ∧ w.cell? ⟨b, off + i * 5 + 1 + 1, none⟩ = some (.int .u64 n.c.b) ∧ w.cell? ⟨b, off + i * 5 + 1 + 2, none⟩ = some (.int .u64 n.c.c) ∧ w.cell? ⟨b, off + i * 5 + 1 + 3, none⟩ = some (.int .u64 n.c.d)
/-- A slice that reads as the nodes ns: nil where there is none. -/
def NsIn (w : World) (v : Value) (ns : List Nd) : Prop := ∃ a cap, v = .slice a ns.length cap ∧ ns.length ≤ maxLen ∧ (ns = [] ∨ ∃ b off, a = some ⟨b, off, none⟩ ∧ b < w.heap.size ∧ NsAt w b off ns)
theorem NsAt.below {w w' : World} {B b off : Nat} {ns : List Nd} (h : NsAt w b off ns) (hb : Below B w w') (hlt : b < B) : NsAt w' b off ns := by
  intro i n hn
  obtain ⟨h0, h1, h2, h3, h4⟩ := h i n hn
  exact ⟨(hb.cell (p := ⟨b, _, none⟩) hlt).trans h0, (hb.cell (p := ⟨b, _, none⟩) hlt).trans h1, (hb.cell (p := ⟨b, _, none⟩) hlt).trans h2, (hb.cell (p := ⟨b, _, none⟩) hlt).trans h3, (hb.cell (p := ⟨b, _, none⟩) hlt).trans h4⟩
theorem NsIn.below {w w' : World} {v : Value} {ns : List Nd} (h : NsIn w v ns) (hb : Below w.heap.size w w') : NsIn w' v ns := by
  obtain ⟨a, cap, rfl, hm, h | ⟨b, off, rfl, hlt, hn⟩⟩ := h
  · exact ⟨a, cap, rfl, hm, Or.inl h⟩
  · exact ⟨_, cap, rfl, hm, Or.inr ⟨b, off, rfl, Nat.lt_of_lt_of_le hlt hb.size, hn.below hb hlt⟩⟩
/-- How many parts a node has. -/
def prt (op : Int) : Nat := if op = 3 ∨ op = 4 then 2 else if op = 5 ∨ op = 6 ∨ op = 7 then 1 else 0
/-- The place behind the part at i. -/
def endF (ns : List Nd) : Nat → Nat → Option Nat
  | 0, _ => none
  | f + 1, i =>
    match ns[i]? with
    | none => none
    | some n => if prt n.op = 0 then some (i + 1) else if prt n.op = 1 then endF ns f (i + 1) else (endF ns f (i + 1)).bind (endF ns f)
def endI : Option Nat → Int
  | none => -1
  | some j => j
/-- So many parts more, from a place on. -/
def fin (ns : List Nd) (f : Nat) : Nat → Option Nat → Option Nat
  | 0, o => o
  | _ + 1, none => none
  | m + 1, some j => fin ns f m (endF ns f j)
theorem fin_none (ns : List Nd) (f m : Nat) : fin ns f m none = none := by cases m <;> rfl
theorem endF_gt (ns : List Nd) : ∀ (f i j : Nat), endF ns f i = some j → i < j ∧ j ≤ ns.length
  | 0, i, j, h => by simp [endF] at h
  | f + 1, i, j, h => by
    rw [endF] at h
    cases hn : ns[i]? with
    | none => rw [hn] at h; simp at h
    | some n =>
      rw [hn] at h
      have hi : i < ns.length := by
        rcases Nat.lt_or_ge i ns.length with h' | h'
        · exact h'
        · rw [List.getElem?_eq_none h'] at hn; cases hn
      simp only at h
      split at h
      · simp at h; omega
      · split at h
        · have := endF_gt ns f _ _ h; omega
        · cases h1 : endF ns f (i + 1) with
          | none => rw [h1] at h; simp at h
          | some k =>
            rw [h1] at h
            simp at h
            have a1 := endF_gt ns f _ _ h1
            have a2 := endF_gt ns f _ _ h
            omega
theorem endF_fin (ns : List Nd) (f i : Nat) (n : Nd) (hn : ns[i]? = some n) : endF ns (f + 1) i = fin ns f (prt n.op) (some (i + 1)) := by
  rw [endF, hn]
  simp only
  unfold prt
  split
  · simp only [fin]
    cases h : endF ns f (i + 1) <;> simp [fin]
  · split <;> simp [fin]
theorem prt_le (op : Int) : prt op ≤ 2 := by unfold prt; split <;> (try split) <;> omega
/-- The place behind the part at i, or none. -/
def endE (ns : List Nd) (i : Nat) : Option Nat := endF ns (ns.length + 1) i
theorem endE_nil (i : Nat) : endE [] i = none := by simp [endE, endF]
theorem endF_more (ns : List Nd) : ∀ (f g i j : Nat), f ≤ g → endF ns f i = some j → endF ns g i = some j
  | 0, g, i, j, _, h => by simp [endF] at h
  | f + 1, 0, i, j, hg, h => by omega
  | f + 1, g + 1, i, j, hg, h => by
    rw [endF] at h ⊢
    cases hn : ns[i]? with
    | none => rw [hn] at h; simp at h
    | some n =>
      rw [hn] at h
      simp only at h ⊢
      split at h
      · rename_i h0
        rw [if_pos h0]; exact h
      · rename_i h0
        rw [if_neg h0]
        split at h
        · rename_i h1
          rw [if_pos h1]
          exact endF_more ns f g _ _ (by omega) h
        · rename_i h1
          rw [if_neg h1]
          cases h2 : endF ns f (i + 1) with
          | none => rw [h2] at h; simp at h
          | some k =>
            rw [h2] at h
            rw [endF_more ns f g _ _ (by omega) h2]
            simp at h ⊢
            exact endF_more ns f g _ _ (by omega) h
theorem endE_of (ns : List Nd) (f i j : Nat) (hf : f ≤ ns.length + 1) (h : endF ns f i = some j) : endE ns i = some j := endF_more ns f _ i j hf h
/-- What a valid part's node and its parts are. -/
theorem part_cases (ns : List Nd) (f i j : Nat) (h : endF ns (f + 1) i = some j) : ∃ n, ns[i]? = some n ∧ i < ns.length ∧
    ((prt n.op = 0 ∧ j = i + 1) ∨ (prt n.op = 1 ∧ endF ns f (i + 1) = some j) ∨ (prt n.op = 2 ∧ ∃ k, endF ns f (i + 1) = some k ∧ endF ns f k = some j)) := by
  rw [endF] at h
  cases hn : ns[i]? with
  | none => rw [hn] at h; simp at h
  | some n =>
    have hi : i < ns.length := by
      rcases Nat.lt_or_ge i ns.length with h' | h'
      · exact h'
      · rw [List.getElem?_eq_none h'] at hn; cases hn
    refine ⟨n, rfl, hi, ?_⟩
    rw [hn] at h
    simp only at h
    have hp : prt n.op ≤ 2 := prt_le n.op
    split at h
    · rename_i h0
      exact Or.inl ⟨h0, by simpa using h.symm⟩
    · split at h
      · rename_i h1
        exact Or.inr (Or.inl ⟨h1, h⟩)
      · rename_i h0 h1
        cases h2 : endF ns f (i + 1) with
        | none => rw [h2] at h; simp at h
        | some k => rw [h2] at h; exact Or.inr (Or.inr ⟨by omega, k, rfl, by simpa using h⟩)
theorem prt_two (op : Int) : prt op = 2 ↔ op = 3 ∨ op = 4 := by
  unfold prt
  split
  · rename_i h; simp [h]
  · rename_i h
    split <;> simp [h]
theorem prt_one (op : Int) : prt op = 1 ↔ op = 5 ∨ op = 6 ∨ op = 7 := by
  unfold prt
  split
  · rename_i h
    simp
    omega
  · split
    · rename_i h; simp [h]
    · rename_i h; simp [h]
/-- May the part at i be nothing? -/
def empF (ns : List Nd) : Nat → Nat → Bool
  | 0, _ => true
  | f + 1, i =>
    match ns[i]? with
    | none => true
    | some n => if n.op = 1 then false else if n.op = 3 then empF ns f (i + 1) && empF ns f ((endE ns (i + 1)).getD 0) else if n.op = 4 then empF ns f (i + 1) || empF ns f ((endE ns (i + 1)).getD 0) else if n.op = 6 then empF ns f (i + 1) else true
theorem empF_at (ns : List Nd) (f i : Nat) (n : Nd) (hn : ns[i]? = some n) : empF ns (f + 1) i = if n.op = 1 then false else if n.op = 3 then empF ns f (i + 1) && empF ns f ((endE ns (i + 1)).getD 0) else if n.op = 4 then empF ns f (i + 1) || empF ns f ((endE ns (i + 1)).getD 0) else if n.op = 6 then empF ns f (i + 1) else true := by
  rw [empF, hn]
theorem arg_succ (i : Nat) : ((i + 1 : Nat) : Int) = (i : Int) + 1 := by omega
/-- May a pattern be nothing? -/
def empE (ns : List Nd) : Bool := empF ns (ns.length + 1) 0
/-- What is wrong with the nodes, one by one. -/
def scanL : List Nd → Int
  | [] => 0
  | n :: r => if n.op < 1 ∨ 9 < n.op then 1 else if ¬ n.op = 1 ∧ ¬ n.c.eqb z4 = true then 2 else scanL r
/-- What is wrong with a pattern. -/
def faultL (ns : List Nd) : Int := if 60 < ns.length then 3 else if scanL ns ≠ 0 then scanL ns else if ns = [] ∨ endE ns 0 ≠ some ns.length then 2 else 0
def NdOk (ns : List Nd) : Prop := ∀ n ∈ ns, n.c.ok
theorem cnt_zero_iff {k : C4} (hk : k.ok) : ((0 : Int) < ((cnt k.has 256 : Nat) : Int)) ↔ ¬ k.eqb z4 = true := by
  rw [C4.eqb_iff]
  constructor
  · intro h e
    subst e
    have : cnt z4.has 256 = cnt (fun _ => false) 256 := cnt_congr _ _ _ (fun i _ => z4_has i)
    have h0 : ∀ n, cnt (fun _ => false) n = 0 := by
      intro n
      induction n with
      | zero => rfl
      | succ n ih => rw [cnt, ih]; rfl
    rw [this, h0] at h
    omega
  · intro h
    rcases Nat.eq_zero_or_pos (cnt k.has 256) with h0 | h0
    · exfalso
      apply h
      apply C4.ext_has hk z4_ok
      intro i hi
      rw [cnt_pos k.has 256 h0 i hi, z4_has]
    · omega
theorem scan_drop (ns : List Nd) (i : Nat) (n : Nd) (hn : ns[i]? = some n) : scanL (ns.drop i) = if n.op < 1 ∨ 9 < n.op then 1 else if ¬ n.op = 1 ∧ ¬ n.c.eqb z4 = true then 2 else scanL (ns.drop (i + 1)) := by
  have hi : i < ns.length := by
    rcases Nat.lt_or_ge i ns.length with h | h
    · exact h
    · rw [List.getElem?_eq_none h] at hn; cases hn
  rw [List.drop_eq_getElem_cons hi]
  rw [List.getElem?_eq_getElem hi] at hn
  rw [Option.some.inj hn, scanL]
abbrev Nd.cells (n : Nd) : Array Value := #[.int .i64 n.op, .int .u64 n.c.a, .int .u64 n.c.b, .int .u64 n.c.c, .int .u64 n.c.d]
abbrev Nd.v (n : Nd) : Value := .agg #[.int .i64 n.op, .int .u64 n.c.a, .int .u64 n.c.b, .int .u64 n.c.c, .int .u64 n.c.d]
def Nd.eqb (n m : Nd) : Bool := n.op == m.op && n.c.eqb m.c
theorem Nd.eqb_iff (n m : Nd) : n.eqb m = true ↔ n = m := by
  unfold Nd.eqb
  rw [Bool.and_eq_true, C4.eqb_iff, beq_iff_eq]
  cases n; cases m
  simp
def nsEq : List Nd → List Nd → Bool
  | [], [] => true
  | n :: r, m :: q => n.eqb m && nsEq r q
  | _, _ => false
theorem nsEq_iff : ∀ (x y : List Nd), nsEq x y = true ↔ x = y
  | [], [] => by simp [nsEq]
  | [], m :: q => by simp [nsEq]
  | n :: r, [] => by simp [nsEq]
  | n :: r, m :: q => by
    rw [nsEq, Bool.and_eq_true, Nd.eqb_iff, nsEq_iff r q]
    simp
theorem nsEq_len (x y : List Nd) (h : x.length ≠ y.length) : nsEq x y = false := by
  cases e : nsEq x y
  · rfl
  · rw [nsEq_iff] at e; rw [e] at h; exact absurd rfl h
theorem nsEq_drop (x y : List Nd) (i : Nat) (n m : Nd) (hn : x[i]? = some n) (hm : y[i]? = some m) : nsEq (x.drop i) (y.drop i) = (n.eqb m && nsEq (x.drop (i + 1)) (y.drop (i + 1))) := by
  have hi : i < x.length := by
    rcases Nat.lt_or_ge i x.length with h | h
    · exact h
    · rw [List.getElem?_eq_none h] at hn; cases hn
  have hj : i < y.length := by
    rcases Nat.lt_or_ge i y.length with h | h
    · exact h
    · rw [List.getElem?_eq_none h] at hm; cases hm
  rw [List.drop_eq_getElem_cons hi, List.drop_eq_getElem_cons hj, nsEq]
  rw [List.getElem?_eq_getElem hi] at hn
  rw [List.getElem?_eq_getElem hj] at hm
  rw [Option.some.inj hn, Option.some.inj hm]
/-- Begin and End exchanged. -/
def flipOp (op : Int) : Int := if op = 8 then 9 else if op = 9 then 8 else op
def Nd.flip (n : Nd) : Nd := ⟨flipOp n.op, n.c⟩
/-- The part at i, turned. -/
def turF (ns : List Nd) : Nat → Nat → List Nd
  | 0, _ => []
  | f + 1, i =>
    match ns[i]? with
    | none => []
    | some n => n.flip :: (if prt n.op = 1 then turF ns f (i + 1) else if n.op = 3 then turF ns f ((endE ns (i + 1)).getD 0) ++ turF ns f (i + 1) else if n.op = 4 then turF ns f (i + 1) ++ turF ns f ((endE ns (i + 1)).getD 0) else [])
theorem turF_at (ns : List Nd) (f i : Nat) (n : Nd) (hn : ns[i]? = some n) : turF ns (f + 1) i = n.flip :: (if prt n.op = 1 then turF ns f (i + 1) else if n.op = 3 then turF ns f ((endE ns (i + 1)).getD 0) ++ turF ns f (i + 1) else if n.op = 4 then turF ns f (i + 1) ++ turF ns f ((endE ns (i + 1)).getD 0) else []) := by
  rw [turF, hn]
theorem turF_len (ns : List Nd) : ∀ (f i j : Nat), f ≤ ns.length + 1 → endF ns f i = some j → (turF ns f i).length = j - i
  | 0, i, j, _, h => by simp [endF] at h
  | f + 1, i, j, hf, h => by
    obtain ⟨n, hn, hil, hc⟩ := part_cases ns f i j h
    rw [turF_at ns f i n hn, List.length_cons]
    rcases hc with ⟨h0, rfl⟩ | ⟨h0, h1⟩ | ⟨h0, k, h1, h2⟩
    · have e3 : ¬ n.op = 3 := by intro e; rw [e] at h0; simp [prt] at h0
      have e4 : ¬ n.op = 4 := by intro e; rw [e] at h0; simp [prt] at h0
      rw [if_neg (by omega), if_neg e3, if_neg e4]
      simp
    · have := turF_len ns f _ _ (by omega) h1
      have g1 := endF_gt ns f _ _ h1
      rw [if_pos h0]
      omega
    · have a1 := turF_len ns f _ _ (by omega) h1
      have a2 := turF_len ns f _ _ (by omega) h2
      have g1 := endF_gt ns f _ _ h1
      have g2 := endF_gt ns f _ _ h2
      have ek := endE_of ns f (i + 1) k (by omega) h1
      rw [if_neg (by omega), ek]
      rcases (prt_two n.op).1 h0 with e3 | e4
      · rw [if_pos e3]; simp; omega
      · rw [if_neg (by omega), if_pos e4]; simp; omega
/-- The nodes' cells, one behind the other. -/
def nsCells : List Nd → List Value
  | [] => []
  | n :: r => [.int .i64 n.op, .int .u64 n.c.a, .int .u64 n.c.b, .int .u64 n.c.c, .int .u64 n.c.d] ++ nsCells r
theorem nsCells_append : ∀ (x y : List Nd), nsCells (x ++ y) = nsCells x ++ nsCells y
  | [], y => rfl
  | n :: r, y => by simp [nsCells, nsCells_append r y]
theorem nsCells_len : ∀ (x : List Nd), (nsCells x).length = x.length * 5
  | [] => rfl
  | n :: r => by simp [nsCells, nsCells_len r]; omega
theorem nsCells_one : ∀ (x : List Nd), ∀ u ∈ nsCells x, u.oneCell' = true
  | [], u, h => by simp [nsCells] at h
  | n :: r, u, h => by
    rw [nsCells, List.mem_append] at h
    rcases h with h | h
    · simp at h
      rcases h with rfl | rfl | rfl | rfl | rfl <;> rfl
    · exact nsCells_one r u h
theorem nsCells_get : ∀ (x : List Nd) (i : Nat) (n : Nd), x[i]? = some n → (nsCells x)[i * 5]? = some (.int .i64 n.op) ∧ (nsCells x)[i * 5 + 1]? = some (.int .u64 n.c.a) ∧ (nsCells x)[i * 5 + 2]? = some (.int .u64 n.c.b) ∧ (nsCells x)[i * 5 + 3]? = some (.int .u64 n.c.c) ∧ (nsCells x)[i * 5 + 4]? = some (.int .u64 n.c.d)
  | [], i, n, h => by simp at h
  | m :: r, 0, n, h => by
    simp at h
    subst h
    simp [nsCells]
  | m :: r, i + 1, n, h => by
    have ih := nsCells_get r i n (by simpa using h)
    have e : ∀ t, (nsCells (m :: r))[(i + 1) * 5 + t]? = (nsCells r)[i * 5 + t]? := by
      intro t
      rw [nsCells, List.getElem?_append_right (by simp; omega)]
      congr 1
      simp
      omega
    have e0 := e 0
    simp only [Nat.add_zero] at e0
    rw [e0, e 1, e 2, e 3, e 4]
    exact ih
/-- A slice of the call's own that holds the nodes ns. -/
def NsOwn (w : World) (base : Nat) (v : Value) (ns : List Nd) : Prop := w.ownsRow base 37 5 v ns.length (nsCells ns)
theorem NsOwn.below {w w' : World} {base : Nat} {v : Value} {ns : List Nd} (h : NsOwn w base v ns) (hb : Below w.heap.size w w') : NsOwn w' base v ns := by
  refine World.ownsRow.kept (row := none) h ⟨hb.os, hb.tape, hb.output, hb.size, fun k hk _ => hb.block k hk⟩ ?_
  cases hv : v.ownBlock with
  | none => exact Or.inl rfl
  | some x => exact Or.inr (by simp)
theorem NsOwn.form {w : World} {base : Nat} {v : Value} {ns : List Nd} (h : NsOwn w base v ns) (h0 : 0 < ns.length) : ∃ g cap, v = .slice (some ⟨g, 0, none⟩) ns.length cap ∧ base ≤ g ∧ g < w.heap.size ∧ ∀ j u, (nsCells ns)[j]? = some u → w.cell? ⟨g, j, none⟩ = some u := by
  rcases h.2 with ⟨_, h1⟩ | ⟨g, cap, cur, hv, hb, hg, _, _, hs, ht⟩
  · omega
  · refine ⟨g, cap, hv, hb, ?_, ?_⟩
    · rcases Nat.lt_or_ge g w.heap.size with hlt | hge
      · exact hlt
      · rw [Array.getElem?_eq_none hge] at hg; cases hg
    · intro j u hj
      have hjl : j < (nsCells ns).length := by
        rcases Nat.lt_or_ge j (nsCells ns).length with h' | h'
        · exact h'
        · rw [List.getElem?_eq_none h'] at hj; cases hj
      rw [Lib.cell_of_heap hg]
      rw [← ht, List.getElem?_take] at hj
      split at hj
      · simpa using hj
      · cases hj
theorem NsOwn.isIn {w : World} {base : Nat} {v : Value} {ns : List Nd} (h : NsOwn w base v ns) (hm : ns.length ≤ maxLen) : NsIn w v ns := by
  rcases Nat.eq_zero_or_pos ns.length with h0 | h0
  · have e : ns = [] := List.eq_nil_of_length_eq_zero h0
    subst e
    rcases h.2 with ⟨hv, _⟩ | ⟨g, cap, cur, hv, _⟩
    · exact ⟨none, 0, hv, hm, Or.inl rfl⟩
    · exact ⟨_, cap, hv, hm, Or.inl rfl⟩
  · obtain ⟨g, cap, hv, _, hlt, hc⟩ := h.form h0
    refine ⟨_, cap, hv, hm, Or.inr ⟨g, 0, rfl, hlt, ?_⟩⟩
    intro i n hn
    obtain ⟨c0, c1, c2, c3, c4⟩ := nsCells_get ns i n hn
    refine ⟨?_, ?_, ?_, ?_, ?_⟩
    · rw [Nat.zero_add]; exact hc _ _ c0
    · rw [Nat.zero_add]; exact hc _ _ c1
    · rw [Nat.zero_add]; exact hc _ _ c2
    · rw [Nat.zero_add]; exact hc _ _ c3
    · rw [Nat.zero_add]; exact hc _ _ c4
/-- The pattern, turned. -/
def turE (ns : List Nd) : List Nd := turF ns (ns.length + 1) 0
theorem turE_len (ns : List Nd) (hv : endE ns 0 = some ns.length) : (turE ns).length = ns.length := turF_len ns _ 0 _ (Nat.le_refl _) hv
end Go.Proofs.Ytmdfdlljeggbbaa
