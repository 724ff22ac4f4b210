/- append, of a number. The reader of package mean in memory, and what is asked of its calls. The place behind a part, by counting the parts that are missing. No function of the program. Package rex: parts, behind, checkNode, turnedNode. Package rex: Check. What rex.End answers: plain mathematics. Package rex: End. Package mean: second, reading, check. -/
import Derived.Test.YtphcncgdodhlbaaDoorY04
import Derived.OwnWalk
import Derived.KernelRfl
import Derived.Test.YtphcncgdodhlbaaDoorY06
import Derived.Test.YtphcncgdodhlbaaDoorY02
import Derived.Test.YtphcncgdodhlbaaDoorY03
import Derived.Handy
namespace Go.Proofs.YtphcncgdodhlbaaDoor
set_option linter.unusedSimpArgs false
set_option linter.unusedVariables false
set_option maxRecDepth 100000
open Go.RowKit
def isCells (l : List Nat) : List Value := l.map fun x : Nat => Value.int .i64 (x : Int)
/-- A slice of the call's own that reads as the numbers l. -/
def IsOwn (w : World) (B : Nat) (v : Value) (l : List Nat) : Prop := w.ownsRow B 3 1 v l.length (isCells l)
theorem IsOwn.nil (w : World) (B : Nat) : IsOwn w B (.slice none 0 0) [] := ⟨rfl, Or.inl ⟨rfl, rfl⟩⟩
theorem IsOwn.isIn {w : World} {B : Nat} {v : Value} {l : List Nat} (h : IsOwn w B v l) (hm : l.length ≤ maxLen) : IsIn w v l := by
  rcases h.2 with ⟨hv, h0⟩ | ⟨g, cap, cur, hv, hb, hg, hc, _⟩
  · have e : l = [] := List.eq_nil_of_length_eq_zero h0
    subst e
    rw [hv]
    exact isIn_nil w
  · refine ⟨_, _, hv, hm, Or.inr ⟨g, 0, rfl, ?_, ?_⟩⟩
    · rcases Nat.lt_or_ge g w.heap.size with h' | h'
      · exact h'
      · rw [Array.getElem?_eq_none h'] at hg; cases hg
    · intro i x hx
      have := h.cells (g := g) (by rw [hv]; rfl) i (.int .i64 (x : Int)) (by simp [isCells, hx])
      rw [Addr.add_lit] at this
      exact this
theorem IsOwn.kept {w w' : World} {B : Nat} {v : Value} {l : List Nat} (h : IsOwn w B v l) (hb : Below w.heap.size w w') : IsOwn w' B v l := by
  refine World.ownsRow.kept (row := none) h ⟨hb.os, hb.tape, hb.output, hb.size, fun k hk _ => hb.block k hk⟩ ?_
  cases hv : v.ownBlock with
  | none => exact Or.inl rfl
  | some x => exact Or.inr (by simp)
theorem IsOwn.form {w : World} {B : Nat} {v : Value} {l : List Nat} (h : IsOwn w B v l) : ∃ a cap, v = .slice a l.length cap := by
  rcases h.2 with ⟨hv, h0⟩ | ⟨g, cap, cur, hv, _⟩
  · exact ⟨none, 0, by rw [hv, h0]⟩
  · exact ⟨_, _, hv⟩
theorem IsOwn.grown {w w' : World} {B : Nat} {v : Value} {l : List Nat} (h : IsOwn w B v l) (hB : B ≤ w.heap.size) (hg : w.grownBy w' v.ownBlock) : Below B w w' := by
  refine ⟨hg.os, hg.tape, hg.output, hg.size, fun k hk => hg.block k (by omega) ?_⟩
  intro e
  rcases h.2 with ⟨hv, _⟩ | ⟨b, cap, cur, hv, hb, _⟩
  · rw [hv] at e; cases e
  · rw [hv] at e
    injection e with e
    simp only at e
    omega
/-- append of one number, which lies in a new row. -/
theorem wpList_append_is {ops : Array Oper} {rest : List Oper} {o : Oper} {a : Act} {Q : Exit → Act → World → Prop} {w : World} (hgd : o.guard = none) (s x : Operand)
    (ho : o.op = .call { callee := .builtin .append, args := #[s, x], argTypes := #[46, 46] })
    (B : Nat) (v : Value) (hs : a.eval s = v) (l : List Nat) (hown : IsOwn w B v l) (g2 c2 n : Nat) (hx : a.eval x = .slice (some ⟨g2, 0, none⟩) 1 c2)
    (hnew : w.cell? ⟨g2, 0, none⟩ = some (.int .i64 (n : Int))) (hlen : l.length ≤ 1000000000) (hbase : B ≤ w.heap.size)
    (h : ∀ g cap w', IsOwn w' B (.slice (some ⟨g, 0, none⟩) (l.length + 1) cap) (l ++ [n]) → w.grownBy w' v.ownBlock → B ≤ g → g < w'.heap.size → wpList Tryd.prog ops Q rest (a.put o.dst (.slice (some ⟨g, 0, none⟩) (l.length + 1) cap)) w') : wpList Tryd.prog ops Q (o :: rest) a w := by
  have hinfo : (Tryd.prog.info? 3).map (fun i => (i.zero, i.size, i.bytes)) = some (some (.int .i64 0), 1, 8) := by kernel_rfl
  obtain ⟨i0, hi, hz0, hz1, hz2⟩ := info_parts hinfo
  refine wpList_append_lies w hgd s x 46 ho B 3 i0 _ 1 8 Tryd.underlying46 hi hz0 hz1 hz2 rfl (by decide) v l.length (isCells l) hs hown ⟨g2, 0, none⟩ 1 c2 (isCells [n]) hx rfl ?_ (by simp [isCells, Value.oneCell']) (by omega) (by unfold maxLen; omega) (by omega) hbase _ rfl ?_
  · intro j u hj
    cases j with
    | zero =>
      simp [isCells] at hj
      subst hj
      rw [Addr.add_lit]
      exact hnew
    | succ j => simp [isCells] at hj
  · intro g cap w' h1 h2 h3 h4
    have e : IsOwn w' B (.slice (some ⟨g, 0, none⟩) (l.length + 1) cap) (l ++ [n]) := by
      unfold IsOwn
      simpa [isCells] using h1
    have hg : B ≤ g := by
      rcases h3 with h3 | h3
      · rcases hown.2 with ⟨hv, _⟩ | ⟨g', cap', cur, hv, hb, _⟩
        · rw [hv] at h3; cases h3
        · rw [hv] at h3
          injection h3 with h3
          simp at h3
          omega
      · omega
    exact h g cap w' e h2 hg h4
end Go.Proofs.YtphcncgdodhlbaaDoor
namespace Go.Proofs.YtphcncgdodhlbaaDoor
set_option linter.unusedSimpArgs false
set_option linter.unusedVariables false
set_option maxRecDepth 100000
open Go.RowKit

/-- A reader: where it began, where it lies, its map, its nodes, its text. -/
structure Cx where
  W0 : World
  rb : Nat
  M : Nat
  b : Nat
  off : Nat
  cap : Nat
  ns : List Nd
  s : ByteArray
def Cx.v (c : Cx) : Value := .slice (some ⟨c.b, c.off, none⟩) c.ns.length c.cap
def Cx.S (c : Cx) : List UInt8 := c.s.data.toList
theorem Cx.S_len (c : Cx) : c.S.length = c.s.size := Array.length_toList
structure Cx.Good (c : Cx) : Prop where
  nsAt : NsAt c.W0 c.b c.off c.ns
  blt : c.b < c.W0.heap.size
  fault : faultL c.ns = 0
  wf : ∀ n ∈ c.ns, n.wf
  size : c.s.size ≤ 400
  tab : Tab c.W0
  hrb : c.W0.heap.size ≤ c.rb
  hM : c.W0.heap.size ≤ c.M
  ne : c.rb ≠ c.M
theorem Cx.Good.len {c : Cx} (h : c.Good) : c.ns.length ≤ 60 := ((faultL_zero c.ns).1 h.fault).1
/-- What may be known of a spot. -/
def Cx.ok (c : Cx) (i a : Nat) (x : Value) : Prop := ∃ (t : Rx) (p q : List Nd), t.Ok ∧ c.ns = p ++ t.flat ++ q ∧ p.length = i ∧ a ≤ c.s.size ∧ x = plV (fs c.S t a)
structure Cx.At (c : Cx) (w : World) : Prop where
  bel : Below c.W0.heap.size c.W0 w
  rd : w.heap[c.rb]? = some (.cells #[c.v, .string c.s, .map (some c.M)] 92 (0, 0))
  kn : Kn w c.M c.ok
theorem Cx.At.lt {c : Cx} {w : World} (h : c.At w) : c.rb < w.heap.size := by
  have := h.rd
  rcases Nat.lt_or_ge c.rb w.heap.size with h' | h'
  · exact h'
  · rw [Array.getElem?_eq_none h'] at this; cases this
theorem Cx.At.c0 {c : Cx} {w : World} (h : c.At w) : w.cell? ⟨c.rb, 0, none⟩ = some c.v := by rw [Lib.cell_of_heap h.rd]; rfl
theorem Cx.At.c1 {c : Cx} {w : World} (h : c.At w) : w.cell? ⟨c.rb, 1, none⟩ = some (.string c.s) := by rw [Lib.cell_of_heap h.rd]; rfl
theorem Cx.At.c2 {c : Cx} {w : World} (h : c.At w) : w.cell? ⟨c.rb, 2, none⟩ = some (.map (some c.M)) := by rw [Lib.cell_of_heap h.rd]; rfl
/-- Other blocks are turned, none of them the reader's. -/
theorem Cx.At.turn {c : Cx} {w w' : World} (h : c.At w) {row : Option Nat} (hg : w.grownBy w' row) (hr : ∀ r, row = some r → c.W0.heap.size ≤ r ∧ r ≠ c.rb ∧ r ≠ c.M) : c.At w' where
  bel := h.bel.grown hg h.bel.size (fun k e => (hr k e).1)
  rd := (hg.block c.rb h.lt (fun e => (hr _ e.symm).2.1 rfl)).trans h.rd
  kn := h.kn.kept hg (fun e => (hr _ e.symm).2.2 rfl)
theorem Cx.At.alloc {c : Cx} {w : World} (h : c.At w) (o : Obj) : c.At (w.alloc o) := h.turn (World.grownBy_alloc w o none) (fun r e => by cases e)
theorem Cx.At.drew {c : Cx} {w : World} (h : c.At w) : c.At w.drew := ⟨h.bel.drew, h.rd, by obtain ⟨D, h1, h2⟩ := h.kn; exact ⟨D, h1.drew, h2⟩⟩
theorem Cx.At.below {c : Cx} {w w' : World} (h : c.At w) (hb : Below w.heap.size w w') : c.At w' := h.turn (below_grown hb none) (fun r e => by cases e)
/-- What is asked of ends and look, at a tree that begins at node i, from place a. -/
def EndsOk (c : Cx) (t : Rx) (i a : Nat) : Prop := ∀ w, c.At w → Calls Tryd.prog 27 #[.pointer (some ⟨c.rb, 0, none⟩), .int .i64 (i : Int), .int .i64 (a : Int)] w fun e w' => e = .returned (plV (fs c.S t a)) ∧ c.At w' ∧ w.grownBy w' (some c.M)
def LookOk (c : Cx) (t : Rx) (i a : Nat) : Prop := ∀ w, c.At w → Calls Tryd.prog 40 #[.pointer (some ⟨c.rb, 0, none⟩), .int .i64 (i : Int), .int .i64 (a : Int)] w fun e w' => e = .returned (plV (fs c.S t a)) ∧ c.At w' ∧ w.grownBy w' (some c.M)
theorem Cx.ok_one {c : Cx} {t : Rx} (ht : t.Ok) {p q : List Nd} (hns : c.ns = p ++ t.flat ++ q) {a : Nat} {x : Value} (h : c.ok p.length a x) : x = plV (fs c.S t a) := by
  obtain ⟨u, p', q', hu, hns', hl, _, rfl⟩ := h
  rw [hns, List.append_assoc, List.append_assoc] at hns'
  obtain ⟨_, h2⟩ := List.append_inj hns' hl.symm
  obtain ⟨rfl, _⟩ := flat_pre t u ht hu q q' h2
  rfl
theorem grown_drew {w w' : World} {row : Option Nat} (h : w.grownBy w' row) : w.grownBy w'.drew row := ⟨h.os, h.tape, h.output, h.size, h.block⟩
/-- A block that is new is turned. -/
theorem grown_new {w w' w'' : World} {row : Option Nat} {r : Nat} (h : w.grownBy w' row) (k : w'.grownBy w'' (some r)) (hr : w.heap.size ≤ r) : w.grownBy w'' row :=
  ⟨k.os.trans h.os, k.tape.trans h.tape, k.output.trans h.output, Nat.le_trans h.size k.size, fun i hi hne => (k.block i (Nat.lt_of_lt_of_le hi h.size) (fun e => by cases e; omega)).trans (h.block i hi hne)⟩
theorem flat_lt {c : Cx} {t : Rx} {p q : List Nd} (hns : c.ns = p ++ t.flat ++ q) : p.length < c.ns.length := by
  rw [hns]
  have := t.flat_pos
  simp
  omega
end Go.Proofs.YtphcncgdodhlbaaDoor
namespace Go.Proofs.YtphcncgdodhlbaaDoor
set_option linter.unusedSimpArgs false
set_option linter.unusedVariables false
set_option maxRecDepth 100000
open Go.RowKit

/-- So many parts are missing: how many nodes they are, and whether all are there. -/
def beh : List Nd → Nat → Nat × Bool
  | _, 0 => (0, true)
  | [], _ + 1 => (0, false)
  | n :: r, m + 1 => ((beh r (m + prt n.op)).1 + 1, (beh r (m + prt n.op)).2)
theorem beh_zero (l : List Nd) : beh l 0 = (0, true) := by cases l <;> rfl
theorem beh_flat : ∀ (t : Rx), t.Ok → ∀ (q : List Nd) (m : Nat), beh (t.flat ++ q) (m + 1) = ((beh q m).1 + t.flat.length, (beh q m).2)
  | .leaf n, h, q, m => by
    have h0 : prt n.op = 0 := h
    simp [Rx.flat, beh, h0]
  | .one n a, h, q, m => by
    have ih := beh_flat a h.2 q m
    simp [Rx.flat, beh, h.1, ih]; omega
  | .two n a b, h, q, m => by
    have ih := beh_flat a h.2.1 (b.flat ++ q) (m + 1)
    have ih2 := beh_flat b h.2.2 q m
    rw [ih2] at ih
    simp only [Rx.flat, List.cons_append, List.append_assoc, beh, h.1, ih, List.length_cons, List.length_append]
    refine Prod.ext ?_ rfl
    simp only
    omega
theorem beh_le : ∀ (l : List Nd) (m : Nat), (beh l m).1 ≤ l.length
  | l, 0 => by rw [beh_zero]; simp
  | [], m + 1 => by simp [beh]
  | n :: r, m + 1 => by
    have := beh_le r (m + prt n.op)
    simp [beh]; omega
theorem beh_trees : ∀ (l : List Nd) (m : Nat), (beh l m).2 = true → ∃ (ts : List Rx) (q : List Nd), ts.length = m ∧ (∀ t ∈ ts, t.Ok) ∧ l = (ts.map Rx.flat).flatten ++ q ∧ (beh l m).1 = (ts.map Rx.flat).flatten.length
  | l, 0, h => ⟨[], l, rfl, by simp, by simp, by rw [beh_zero]; rfl⟩
  | [], m + 1, h => by simp [beh] at h
  | n :: r, m + 1, h => by
    simp only [beh] at h
    obtain ⟨ts, q, hl, hok, he, hk⟩ := beh_trees r (m + prt n.op) h
    have hp := prt_le n.op
    have h3 : prt n.op = 0 ∨ prt n.op = 1 ∨ prt n.op = 2 := by omega
    rcases h3 with h0 | h0 | h0
    · refine ⟨.leaf n :: ts, q, by simp; omega, ?_, by simp [he, Rx.flat], by simp [beh, hk, Rx.flat]⟩
      intro t ht
      rcases List.mem_cons.1 ht with rfl | ht
      · exact h0
      · exact hok t ht
    · match ts, hl, hok, he, hk with
      | [], hl, _, _, _ => simp at hl; omega
      | a :: ts, hl, hok, he, hk =>
        refine ⟨.one n a :: ts, q, by simp at hl ⊢; omega, ?_, by simp [he, Rx.flat], by simp [beh, hk, Rx.flat]⟩
        intro t ht
        rcases List.mem_cons.1 ht with rfl | ht
        · exact ⟨h0, hok a (by simp)⟩
        · exact hok t (by simp [ht])
    · match ts, hl, hok, he, hk with
      | [], hl, _, _, _ => simp at hl; omega
      | [a], hl, _, _, _ => simp at hl; omega
      | a :: b :: ts, hl, hok, he, hk =>
        refine ⟨.two n a b :: ts, q, by simp at hl ⊢; omega, ?_, by simp [he, Rx.flat], by simp [beh, hk, Rx.flat]⟩
        intro t ht
        rcases List.mem_cons.1 ht with rfl | ht
        · exact ⟨h0, hok a (by simp), hok b (by simp)⟩
        · exact hok t (by simp [ht])
theorem beh_end (ns : List Nd) (h : (beh ns 1).2 = true) : endE ns 0 = some (beh ns 1).1 := by
  obtain ⟨ts, q, hl, hok, he, hk⟩ := beh_trees ns 1 h
  match ts, hl, hok, he, hk with
  | [t], hl, hok, he, hk =>
    have e : ns = t.flat ++ q := by simpa using he
    have e2 : (beh ns 1).1 = t.flat.length := by simpa using hk
    have := endE_mid t (hok t (by simp)) [] q
    rw [e2, e]
    simpa using this
theorem end_beh (ns : List Nd) (f i j : Nat) (h : endF ns f i = some j) : (beh (ns.drop i) 1).2 = true ∧ i + (beh (ns.drop i) 1).1 = j := by
  obtain ⟨t, ht, q, e, ej⟩ := part_tree ns f i j h
  have := beh_flat t ht q 0
  rw [e, this, beh_zero]
  refine ⟨rfl, ?_⟩
  simp only
  omega
/-- The fault of nodes that are fine one by one. -/
theorem fault_beh (ns : List Nd) (h60 : ¬ 60 < ns.length) (h0 : scanL ns = 0) : faultL ns = if (beh ns 1).2 = true ∧ ns.length ≤ (beh ns 1).1 then 0 else 2 := by
  rw [faultL, if_neg h60, h0, if_neg (by simp)]
  by_cases h : (beh ns 1).2 = true ∧ ns.length ≤ (beh ns 1).1
  · have e := beh_end ns h.1
    have hl := beh_le ns 1
    have e2 : (beh ns 1).1 = ns.length := by omega
    rw [e2] at e
    have hne : ns ≠ [] := by rintro rfl; rw [endE_nil] at e; cases e
    rw [if_pos h, if_neg (by simp [e, hne])]
  · rw [if_neg h, if_pos]
    refine Or.inr fun e => h ?_
    have := end_beh ns _ 0 _ e
    rw [List.drop_zero] at this
    exact ⟨this.1, by omega⟩
/-- Each node of a valid pattern begins a part. -/
theorem tree_sub : ∀ (t : Rx), t.Ok → ∀ i, i < t.flat.length → ∃ s : Rx, s.Ok ∧ ∃ q, t.flat.drop i = s.flat ++ q
  | t, ht, 0, _ => ⟨t, ht, [], by simp⟩
  | .leaf n, ht, i + 1, h => by simp [Rx.flat] at h
  | .one n a, ht, i + 1, h => by
    obtain ⟨s, hs, q, e⟩ := tree_sub a ht.2 i (by simp [Rx.flat] at h; omega)
    exact ⟨s, hs, q, by simpa [Rx.flat] using e⟩
  | .two n a b, ht, i + 1, h => by
    by_cases hi : i < a.flat.length
    · obtain ⟨s, hs, q, e⟩ := tree_sub a ht.2.1 i hi
      refine ⟨s, hs, q ++ b.flat, ?_⟩
      simp only [Rx.flat, List.drop_succ_cons]
      rw [List.drop_append_of_le_length (by omega), e, List.append_assoc]
    · obtain ⟨s, hs, q, e⟩ := tree_sub b ht.2.2 (i - a.flat.length) (by simp [Rx.flat] at h; omega)
      refine ⟨s, hs, q, ?_⟩
      simp only [Rx.flat, List.drop_succ_cons]
      rw [List.drop_append, List.drop_eq_nil_of_le (by omega), List.nil_append, e]
theorem part_at (ns : List Nd) (hv : endE ns 0 = some ns.length) (i : Nat) (hi : i < ns.length) : ∃ j, endE ns i = some j := by
  obtain ⟨t, ht, rfl⟩ := tree_of ns hv
  obtain ⟨s, hs, q, e⟩ := tree_sub t ht i hi
  have h := endE_mid s hs (t.flat.take i) q
  have e1 : (t.flat.take i).length = i := by simp; omega
  have e2 : t.flat.take i ++ s.flat ++ q = t.flat := by rw [List.append_assoc, ← e, List.take_append_drop]
  rw [e1, e2] at h
  exact ⟨_, h⟩
theorem beh_step (ns : List Nd) (i m : Nat) (n : Nd) (hn : ns[i]? = some n) : beh (ns.drop i) (m + 1) = ((beh (ns.drop (i + 1)) (m + prt n.op)).1 + 1, (beh (ns.drop (i + 1)) (m + prt n.op)).2) := by
  have hi : i < ns.length := by
    rcases Nat.lt_or_ge i ns.length with h | h
    · exact h
    · rw [List.getElem?_eq_none h] at hn; cases hn
  rw [List.drop_eq_getElem_cons hi]
  rw [List.getElem?_eq_getElem hi] at hn
  rw [Option.some.inj hn, beh]
end Go.Proofs.YtphcncgdodhlbaaDoor
namespace Go.Proofs.YtphcncgdodhlbaaDoor
set_option linter.unusedSimpArgs false
set_option linter.unusedVariables false
set_option maxRecDepth 100000
open Go.RowKit

set_option maxHeartbeats 400000 in
theorem rparts_any (op : Int) (w : World) :
    Calls Tryd.prog 79 #[.int .i64 op] w fun e w' => e = .returned (.int .i64 (prt op)) ∧ w' = w := by
  by_cases h3 : op = 3
  · subst h3
    go_enter Tryd.func79, Tryd.ntmps79
    go_wp2
    go_ret
    exact ⟨rfl, rfl⟩
  by_cases h4 : op = 4
  · subst h4
    go_enter Tryd.func79, Tryd.ntmps79
    go_wp2
    go_ret
    exact ⟨rfl, rfl⟩
  by_cases h5 : op = 5
  · subst h5
    go_enter Tryd.func79, Tryd.ntmps79
    go_wp2
    go_ret
    exact ⟨rfl, rfl⟩
  by_cases h6 : op = 6
  · subst h6
    go_enter Tryd.func79, Tryd.ntmps79
    go_wp2
    go_ret
    exact ⟨rfl, rfl⟩
  by_cases h7 : op = 7
  · subst h7
    go_enter Tryd.func79, Tryd.ntmps79
    go_wp2
    go_ret
    exact ⟨rfl, rfl⟩
  have b3 : (op == 3) = false := by simp [h3]
  have b4 : (op == 4) = false := by simp [h4]
  have b5 : (op == 5) = false := by simp [h5]
  have b6 : (op == 6) = false := by simp [h6]
  have b7 : (op == 7) = false := by simp [h7]
  have e0 : prt op = 0 := by unfold prt; simp [h3, h4, h5, h6, h7]
  rw [e0]
  clear h3 h4 h5 h6 h7 e0
  go_enter Tryd.func79, Tryd.ntmps79
  go_wp2
  go_ret
  exact ⟨rfl, rfl⟩
set_option maxHeartbeats 1000000 in
theorem behind_at (ns : List Nd) (b off cap i : Nat) (hm : ns.length ≤ maxLen) (hm2 : ns.length ≤ 2 ^ 62) (hi : i ≤ ns.length) (w : World) (hN : NsAt w b off ns) :
    Calls Tryd.prog 60 #[.slice (some ⟨b, off, none⟩) ns.length cap, .int .i64 i] w fun e w' => e = .returned (.tuple #[.int .i64 (i + (beh (ns.drop i) 1).1 : Nat), .bool (beh (ns.drop i) 1).2]) ∧ w' = w := by
  unfold maxLen at hm
  obtain ⟨k, x, HK, HX⟩ : ∃ k x, Hid (i + (beh (ns.drop i) 1).1 = k) ∧ Hid ((beh (ns.drop i) 1).2 = x) := ⟨_, _, Eq.refl _, Eq.refl _⟩
  rw [HK.out, HX.out]
  go_enter Tryd.func60, Tryd.ntmps60
  go_wp2_with fail
  go_loop [1, 6] (fun v u => ∃ (j m : Nat), j ≤ ns.length ∧ m ≤ j + 1 ∧ v = .int .i64 j ∧ u = .int .i64 m ∧ Hid (j + (beh (ns.drop j) m).1 = k) ∧ Hid ((beh (ns.drop j) m).2 = x)) (fun v _ => ns.length - (intOf v).toNat)
  case atStart => exact ⟨i, 1, by omega, by omega, rfl, rfl, HK, HX⟩
  case round =>
    obtain ⟨j, m, hj, hmj, rfl, rfl, H1, H2⟩ := hrel
    clear HK HX
    cases m with
    | zero =>
      rw [beh_zero] at H1 H2
      obtain rfl := H1.out
      obtain rfl := H2.out
      clear H1 H2
      go_wp2
      go_ret2
      exact ⟨rfl, rfl⟩
    | succ m =>
      have m0 : (0 : Int) < ((m + 1 : Nat) : Int) := by omega
      by_cases hl : j < ns.length
      · obtain ⟨n, hn⟩ : ∃ n, ns[j]? = some n := ⟨ns[j], List.getElem?_eq_getElem hl⟩
        obtain ⟨c0, _⟩ := hN j n hn
        have hp := prt_le n.op
        have i0 : (0 : Int) ≤ (j : Int) := by omega
        have i1 : (j : Int) < (ns.length : Int) := by omega
        rw [beh_step ns j m n hn] at H1 H2
        have H3 : Hid (j + 1 + (beh (ns.drop (j + 1)) (m + prt n.op)).1 = k) := by show _ = _; rw [← H1.out]; simp only; omega
        have H4 : Hid ((beh (ns.drop (j + 1)) (m + prt n.op)).2 = x) := H2.out
        clear hn H1 H2
        go_wp2_with fail
        refine (rparts_any _ _).mono ?_
        rintro e w1 ⟨rfl, rfl⟩
        generalize prt n.op = pr at *
        go_wp2
        refine ⟨⟨j + 1, m + pr, by omega, by omega, by go_num, ?_, H3, H4⟩, by simp [intOf]; omega⟩
        rw [show (m : Int) + 1 + ((pr : Int) - 1) = ((m + pr : Nat) : Int) from by omega]
      · have hj2 : j = ns.length := by omega
        have i1 : ¬ (j : Int) < (ns.length : Int) := by omega
        have d0 : ns.drop j = [] := List.drop_eq_nil_of_le (by omega)
        rw [d0] at H1 H2
        obtain rfl := H1.out
        obtain rfl := H2.out
        have m1 : (((m + 1 : Nat) : Int) == 0) = false := by rw [beq_eq_false_iff_ne]; omega
        clear H1 H2
        go_wp2
        go_ret2
        exact ⟨rfl, rfl⟩
theorem behind_any (ns : List Nd) (v : Value) (i : Nat) (w : World) (hN : NsIn w v ns) (hm2 : ns.length ≤ 2 ^ 62) (hi : i < ns.length) :
    Calls Tryd.prog 60 #[v, .int .i64 i] w fun e w' => e = .returned (.tuple #[.int .i64 (i + (beh (ns.drop i) 1).1 : Nat), .bool (beh (ns.drop i) 1).2]) ∧ w' = w := by
  obtain ⟨a, cap, rfl, hm, h | ⟨b, off, rfl, hlt, hn⟩⟩ := hN
  · subst h
    simp at hi
  · exact behind_at ns b off cap i hm hm2 (by omega) w hn
set_option maxHeartbeats 1000000 in
theorem behind_nil (a : Option Addr) (cap : Nat) (w : World) :
    Calls Tryd.prog 60 #[.slice a 0 cap, .int .i64 0] w fun e w' => e = .returned (.tuple #[.int .i64 0, .bool false]) ∧ w' = w := by
  go_enter Tryd.func60, Tryd.ntmps60
  go_wp2_with fail
  go_loop [1, 6] (fun v u => v = .int .i64 0 ∧ u = .int .i64 1) (fun _ _ => 0)
  case atStart => exact ⟨rfl, rfl⟩
  case round =>
    obtain ⟨rfl, rfl⟩ := hrel
    go_wp2
    go_ret2
    exact ⟨rfl, rfl⟩
set_option maxHeartbeats 1000000 in
theorem checkNode_any (n : Nd) (w : World) :
    Calls Tryd.prog 59 #[n.v] w fun e w' => e = .returned (errV (scanL [n])) ∧ Below w.heap.size w w' := by
  by_cases h1 : n.op < 1
  · have HF : Hid (scanL [n] = 1) := by show _ = _; rw [scanL, if_pos (Or.inl h1)]
    go_enter Tryd.func59, Tryd.ntmps59
    go_wp2
    go_ret
    exact ⟨by rw [HF.out]; rfl, Below.alloc (Below.refl _ _) (Nat.le_refl _) _⟩
  by_cases h9 : 9 < n.op
  · have HF : Hid (scanL [n] = 1) := by show _ = _; rw [scanL, if_pos (Or.inr h9)]
    go_enter Tryd.func59, Tryd.ntmps59
    go_wp2
    go_ret
    exact ⟨by rw [HF.out]; rfl, Below.alloc (Below.refl _ _) (Nat.le_refl _) _⟩
  by_cases hb : n.op = 1
  · have HF : Hid (scanL [n] = 0) := by show _ = _; rw [scanL, if_neg (by omega), if_neg (by simp [hb])]; rfl
    have hb2 : (n.op != 1) = false := by simp [hb]
    clear hb
    go_enter Tryd.func59, Tryd.ntmps59
    go_wp2
    go_ret
    exact ⟨by rw [HF.out]; rfl, Below.alloc (Below.refl _ _) (Nat.le_refl _) _⟩
  have hb2 : (n.op != 1) = true := by simp [hb]
  by_cases hz : n.c.eqb z4 = true
  · have HF : Hid (scanL [n] = 0) := by show _ = _; rw [scanL, if_neg (by omega), if_neg (by simp [hz])]; rfl
    clear hb
    have he : ∀ w, (Op.equalIn 10000 42 (.agg #[.int .u64 n.c.a, .int .u64 n.c.b, .int .u64 n.c.c, .int .u64 n.c.d]) (.agg #[.int .u64 0, .int .u64 0, .int .u64 0, .int .u64 0])).run Tryd.prog w = .ok true w := fun w => (eq4 n.c z4 w).trans (by rw [hz])
    go_enter Tryd.func59, Tryd.ntmps59
    go_wp2
    go_ret
    exact ⟨by rw [HF.out]; rfl, Below.alloc (Below.refl _ _) (Nat.le_refl _) _⟩
  · have HF : Hid (scanL [n] = 2) := by show _ = _; rw [scanL, if_neg (by omega), if_pos ⟨hb, hz⟩]
    clear hb
    have he : ∀ w, (Op.equalIn 10000 42 (.agg #[.int .u64 n.c.a, .int .u64 n.c.b, .int .u64 n.c.c, .int .u64 n.c.d]) (.agg #[.int .u64 0, .int .u64 0, .int .u64 0, .int .u64 0])).run Tryd.prog w = .ok false w := fun w => (eq4 n.c z4 w).trans (by rw [Bool.eq_false_iff.2 hz])
    go_enter Tryd.func59, Tryd.ntmps59
    go_wp2
    go_ret
    exact ⟨by rw [HF.out]; rfl, Below.alloc (Below.refl _ _) (Nat.le_refl _) _⟩
end Go.Proofs.YtphcncgdodhlbaaDoor
namespace Go.Proofs.YtphcncgdodhlbaaDoor
set_option linter.unusedSimpArgs false
set_option linter.unusedVariables false
set_option maxRecDepth 100000
open Go.RowKit

theorem scan_one (n : Nd) : scanL [n] = if n.op < 1 ∨ 9 < n.op then 1 else if ¬ n.op = 1 ∧ ¬ n.c.eqb z4 = true then 2 else 0 := by
  rw [scanL]; rfl
set_option maxHeartbeats 4000000 in
theorem check_at (ns : List Nd) (b off cap : Nat) (hm : ns.length ≤ maxLen) (w : World) (hlt : b < w.heap.size) (hN : NsAt w b off ns) (h0 : 0 < ns.length) :
    Calls Tryd.prog 38 #[.slice (some ⟨b, off, none⟩) ns.length cap] w fun e w' => e = .returned (errV (faultL ns)) ∧ Below w.heap.size w w' := by
  have HM := (show Hid _ from hm)
  unfold maxLen at hm
  by_cases h60 : 60 < ns.length
  · have g60 : (60 : Int) < (ns.length : Int) := by omega
    have HF : Hid (faultL ns = 3) := by show _ = _; rw [faultL, if_pos h60]
    go_enter Tryd.func38, Tryd.ntmps38
    go_wp2
    go_ret
    exact ⟨by rw [HF.out]; rfl, Below.refl _ _⟩
  · have g60 : ¬ (60 : Int) < (ns.length : Int) := by omega
    go_enter Tryd.func38, Tryd.ntmps38
    go_wp2
    go_loopw [14] (fun v wr => ∃ i : Nat, i ≤ ns.length ∧ v = .int .i64 i ∧ Hid (scanL ns = scanL (ns.drop i)) ∧ Below w.heap.size w wr) (fun v _ => ns.length - (intOf v).toNat)
    case atStart => exact ⟨0, by omega, rfl, Eq.refl _, Below.refl _ _⟩
    case round =>
      obtain ⟨i, hi, rfl, HS, hB⟩ := hrel
      have hNr := hN.below hB hlt
      by_cases hil : i < ns.length
      · obtain ⟨n, hn⟩ : ∃ n, ns[i]? = some n := ⟨ns[i], List.getElem?_eq_getElem hil⟩
        obtain ⟨c0, c1, c2, c3, c4⟩ := hNr i n hn
        have HD : Hid _ := scan_drop ns i n hn
        have H1 : Hid _ := scan_one n
        have i0 : (0 : Int) ≤ (i : Int) := by omega
        have i1 : (i : Int) < (ns.length : Int) := by omega
        clear hn
        have hcn := checkNode_any n
        go_wp2_with fail
        refine (hcn _).mono ?_
        rintro e w1 ⟨rfl, hb1⟩
        have hB1 : Below w.heap.size w w1 := hB.trans ((Below.alloc (Below.refl _ _) (Nat.le_refl _) _).trans (hb1.mono (by simp)) |>.mono hB.size)
        clear hb1 hcn
        by_cases hs : scanL [n] = 0
        · have HS2 : Hid (scanL ns = scanL (ns.drop (i + 1))) := by
            show _ = _
            rw [HS.out, HD.out]
            rw [H1.out] at hs
            split
            · rename_i h; rw [if_pos h] at hs; cases hs
            · rename_i h
              rw [if_neg h] at hs
              split
              · rename_i h2; rw [if_pos h2] at hs; cases hs
              · rfl
          rw [hs, show errV 0 = .nilIface from rfl]
          clear hs HD H1 HS
          go_wp2
          exact ⟨⟨i + 1, by omega, by go_num, HS2, hB1⟩, by simp [intOf]; omega⟩
        · have HF : Hid (faultL ns = scanL [n]) := by
            show _ = _
            have e1 : scanL ns = scanL [n] := by
              rw [HS.out, HD.out]
              rw [H1.out] at hs ⊢
              split
              · rfl
              · rename_i h
                rw [if_neg h] at hs
                split
                · rfl
                · rename_i h2; rw [if_neg h2] at hs; exact absurd rfl hs
            rw [faultL, if_neg h60, e1, if_pos hs]
          rw [show errV (scanL [n]) = .iface 23 (.int .i64 (scanL [n])) from if_neg hs]
          have HE : Hid (errV (faultL ns) = .iface 23 (.int .i64 (scanL [n]))) := by show _ = _; rw [HF.out]; exact if_neg hs
          clear hs HD H1 HS HF
          generalize scanL [n] = er at *
          go_wp2
          go_ret
          exact ⟨by rw [HE.out]; rfl, hB1⟩
      · have hi2 : i = ns.length := by omega
        have e0 : scanL ns = 0 := by rw [HS.out, List.drop_eq_nil_of_le (by omega)]; rfl
        have HF : Hid _ := fault_beh ns h60 e0
        have HC : Hid (Calls Tryd.prog 60 #[.slice (some ⟨b, off, none⟩) ns.length cap, .int .i64 0] wr fun e w' => e = .returned (.tuple #[.int .i64 ((beh ns 1).1 : Nat), .bool (beh ns 1).2]) ∧ w' = wr) := by
          have := behind_at ns b off cap 0 HM.out (by omega) (by omega) wr hNr
          rw [List.drop_zero, Nat.zero_add] at this
          exact this
        subst hi2
        have hkl := beh_le ns 1
        clear e0 HS
        generalize beh ns 1 = x at *
        obtain ⟨k, y⟩ := x
        simp only at HC HF hkl
        go_wp2_with fail
        refine HC.out.mono ?_
        rintro e w1 ⟨rfl, rfl⟩
        cases y with
        | false =>
          have HF2 : Hid (faultL ns = 2) := by show _ = _; rw [HF.out]; rfl
          clear HF HC
          go_wp2
          go_ret
          exact ⟨by rw [HF2.out]; rfl, hB⟩
        | true =>
          by_cases hk : k < ns.length
          · have HF2 : Hid (faultL ns = 2) := by show _ = _; rw [HF.out, if_neg (by simp; omega)]
            have hk2 : (k : Int) < (ns.length : Int) := by omega
            clear HF HC
            go_wp2
            go_ret
            exact ⟨by rw [HF2.out]; rfl, hB⟩
          · have HF2 : Hid (faultL ns = 0) := by show _ = _; rw [HF.out, if_pos (by simp; omega)]
            have hk2 : ¬ (k : Int) < (ns.length : Int) := by omega
            clear HF HC
            go_wp2
            go_ret
            exact ⟨by rw [HF2.out]; rfl, hB⟩
set_option maxHeartbeats 1000000 in
theorem check_nil (a : Option Addr) (cap : Nat) (w : World) :
    Calls Tryd.prog 38 #[.slice a 0 cap] w fun e w' => e = .returned (errV 2) ∧ Below w.heap.size w w' := by
  go_enter Tryd.func38, Tryd.ntmps38
  go_wp2_with fail
  go_loop [14] (fun v => v = .int .i64 0) (fun _ => 0)
  case atStart => rfl
  case round =>
    subst hrel
    go_wp2_with fail
    refine (behind_nil a cap w).mono ?_
    rintro e w1 ⟨rfl, rfl⟩
    go_wp2
    go_ret
    exact ⟨rfl, Below.refl _ _⟩
theorem rcheck_any (ns : List Nd) (v : Value) (w : World) (hN : NsIn w v ns) :
    Calls Tryd.prog 38 #[v] w fun e w' => e = .returned (errV (faultL ns)) ∧ Below w.heap.size w w' := by
  obtain ⟨a, cap, rfl, hm, h | ⟨b, off, rfl, hlt, hn⟩⟩ := hN
  · subst h
    exact check_nil a cap w
  · by_cases h0 : 0 < ns.length
    · exact check_at ns b off cap hm w hlt hn h0
    · have : ns = [] := List.eq_nil_of_length_eq_zero (by omega)
      subst this
      exact check_nil _ cap w
theorem behind_k (ns : List Nd) (b off cap : Nat) (hm : ns.length ≤ 60) (w : World) (hN : NsAt w b off ns) (i f k : Nat) (h : endF ns f i = some k) :
    Calls Tryd.prog 60 #[.slice (some ⟨b, off, none⟩) ns.length cap, .int .i64 i] w fun e w' => e = .returned (.tuple #[.int .i64 k, .bool true]) ∧ w' = w := by
  have g := endF_gt ns f i k h
  have h1 := behind_at ns b off cap i (by unfold maxLen; omega) (by omega) (by omega) w hN
  obtain ⟨e1, e2⟩ := end_beh ns f i k h
  rw [e1, e2] at h1
  exact h1
end Go.Proofs.YtphcncgdodhlbaaDoor
namespace Go.Proofs.YtphcncgdodhlbaaDoor
set_option linter.unusedSimpArgs false
set_option linter.unusedVariables false
set_option maxRecDepth 100000
open Go.RowKit

/-- What End answers: the place, and the fault. -/
def endN (ns : List Nd) (i : Int) : Int := if faultL ns = 0 ∧ 0 ≤ i ∧ i < ns.length then endI (endE ns i.toNat) else 0
def endErr (ns : List Nd) (i : Int) : Int := if faultL ns = 0 then (if 0 ≤ i ∧ i < ns.length then 0 else 1) else faultL ns
theorem rexEnd_in (ns : List Nd) (i : Int) (h : faultL ns = 0) (h1 : 0 ≤ i) (h2 : i < ns.length) : endN ns i = endI (endE ns i.toNat) ∧ endErr ns i = 0 := by
  simp [endN, endErr, h, h1, h2]
theorem rexEnd_out (ns : List Nd) (i : Int) (h : faultL ns = 0) (h1 : ¬ (0 ≤ i ∧ i < ns.length)) : endN ns i = 0 ∧ endErr ns i = 1 := by
  rw [endN, endErr, if_neg (fun h2 => h1 h2.2), if_pos h, if_neg h1]
  exact ⟨rfl, rfl⟩
theorem rexEnd_bad (ns : List Nd) (i : Int) (h : ¬ faultL ns = 0) : endN ns i = 0 ∧ endErr ns i = faultL ns := by
  rw [endN, endErr, if_neg (fun h2 => h h2.1), if_neg h]
  exact ⟨rfl, rfl⟩
end Go.Proofs.YtphcncgdodhlbaaDoor
namespace Go.Proofs.YtphcncgdodhlbaaDoor
set_option linter.unusedSimpArgs false
set_option linter.unusedVariables false
set_option maxRecDepth 100000
open Go.RowKit

set_option maxHeartbeats 4000000 in
theorem rend_any (ns : List Nd) (v : Value) (i : Int) (w : World) (hN : NsIn w v ns) :
    Calls Tryd.prog 80 #[v, .int .i64 i] w fun e w' => e = .returned (.tuple #[.int .i64 (endN ns i), errV (endErr ns i)]) ∧ Below w.heap.size w w' := by
  have CC : Hid _ := rcheck_any ns v w hN
  by_cases hf : faultL ns = 0
  · obtain ⟨hl, hr, hv⟩ := (faultL_zero ns).1 hf
    by_cases hi : 0 ≤ i ∧ i < ns.length
    · obtain ⟨c1, c2⟩ := rexEnd_in ns i hf hi.1 hi.2
      rw [c1, c2]
      obtain ⟨j, rfl⟩ : ∃ j : Nat, i = (j : Int) := ⟨i.toNat, by omega⟩
      rw [Int.toNat_natCast]
      obtain ⟨k, hk⟩ := part_at ns hv j (by omega)
      obtain ⟨a, cap, rfl, hm, h | ⟨b, off, rfl, hlt, hn⟩⟩ := hN
      · subst h; rw [endE_nil] at hv; cases hv
      have C2 : Hid (∀ w', Below w.heap.size w w' → Calls Tryd.prog 60 #[.slice (some ⟨b, off, none⟩) ns.length cap, .int .i64 j] w' fun e w'' => e = .returned (.tuple #[.int .i64 k, .bool true]) ∧ w'' = w') := fun w' hb => behind_k ns b off cap hl w' (hn.below hb hlt) j _ k hk
      rw [hk, show endI (some k) = (k : Int) from rfl]
      rw [hf] at CC
      rw [show errV 0 = .nilIface from rfl] at CC ⊢
      have i0 : (0 : Int) ≤ (j : Int) := hi.1
      have i1 : (j : Int) < (ns.length : Int) := hi.2
      clear hr hv hn hf hk c1 c2 hi
      go_enter Tryd.func80, Tryd.ntmps80
      go_wp2_with fail
      refine Calls.mono CC.out ?_
      rintro e w1 ⟨rfl, hb⟩
      have B1 : Hid _ := hb
      clear hb
      go_wp2_with fail
      refine Calls.mono (C2.out _ B1.out) ?_
      rintro e w1 ⟨rfl, rfl⟩
      go_wp2
      go_ret2
      exact ⟨rfl, B1.out⟩
    · obtain ⟨c1, c2⟩ := rexEnd_out ns i hf hi
      rw [c1, c2]
      obtain ⟨a, cap, rfl, hm, _⟩ := hN
      rw [hf] at CC
      rw [show errV 0 = .nilIface from rfl] at CC
      rw [show errV 1 = .iface 23 (.int .i64 1) from rfl]
      clear hr hv hf c1 c2
      by_cases i0 : i < 0
      · clear hi
        go_enter Tryd.func80, Tryd.ntmps80
        go_wp2_with fail
        refine Calls.mono CC.out ?_
        rintro e w1 ⟨rfl, hb⟩
        have B1 : Hid _ := hb
        clear hb
        go_wp2
        go_ret2
        exact ⟨rfl, B1.out⟩
      · have i1 : (ns.length : Int) ≤ i := by omega
        clear hi
        go_enter Tryd.func80, Tryd.ntmps80
        go_wp2_with fail
        refine Calls.mono CC.out ?_
        rintro e w1 ⟨rfl, hb⟩
        have B1 : Hid _ := hb
        clear hb
        go_wp2
        go_ret2
        exact ⟨rfl, B1.out⟩
  · obtain ⟨c1, c2⟩ := rexEnd_bad ns i hf
    rw [c1, c2]
    obtain ⟨a, cap, rfl, hm, _⟩ := hN
    rw [show errV (faultL ns) = .iface 23 (.int .i64 (faultL ns)) from if_neg hf] at CC ⊢
    clear hf c1 c2
    generalize faultL ns = ft at *
    go_enter Tryd.func80, Tryd.ntmps80
    go_wp2_with fail
    refine Calls.mono CC.out ?_
    rintro e w1 ⟨rfl, hb⟩
    have B1 : Hid _ := hb
    clear hb
    go_wp2
    go_ret2
    exact ⟨rfl, B1.out⟩
end Go.Proofs.YtphcncgdodhlbaaDoor
namespace Go.Proofs.YtphcncgdodhlbaaDoor
set_option linter.unusedSimpArgs false
set_option linter.unusedVariables false
set_option maxRecDepth 100000
open Go.RowKit
set_option maxHeartbeats 1000000 in
theorem second_any {c : Cx} (hc : c.Good) {n : Nd} {a b : Rx} (ha : a.Ok) {p q : List Nd} (hns : c.ns = p ++ (Rx.two n a b).flat ++ q) (w : World) (hA : c.At w) :
    Calls Tryd.prog 64 #[.pointer (some ⟨c.rb, 0, none⟩), .int .i64 (p.length : Int)] w fun e w' => e = .returned (.int .i64 ((p.length + 1 + a.flat.length : Nat) : Int)) ∧ Below w.heap.size w w' := by
  have hl := hc.len
  have h1 := flat_lt hns
  have hN : NsIn w c.v c.ns := ⟨_, _, rfl, by unfold maxLen; omega, Or.inr ⟨c.b, c.off, rfl, Nat.lt_of_lt_of_le hc.blt hA.bel.size, hc.nsAt.below hA.bel hc.blt⟩⟩
  have hns2 : c.ns = (p ++ [n]) ++ a.flat ++ (b.flat ++ q) := by rw [hns]; simp [Rx.flat]
  have hend : endN c.ns ((p.length : Int) + 1) = ((p.length + 1 + a.flat.length : Nat) : Int) ∧ endErr c.ns ((p.length : Int) + 1) = 0 := by
    have hlen : p.length + 1 < c.ns.length := by
      rw [hns2]
      have := a.flat_pos
      simp
      omega
    have := rexEnd_in c.ns ((p.length : Int) + 1) hc.fault (by omega) (by omega)
    refine ⟨?_, this.2⟩
    rw [this.1, show (((p.length : Int) + 1).toNat) = (p ++ [n]).length by simp]
    rw [hns2, endE_mid a ha (p ++ [n]) (b.flat ++ q)]
    simp [endI]
  have C := hid (rend_any c.ns c.v ((p.length : Int) + 1) w hN)
  rw [hend.1, hend.2] at C
  rw [show errV 0 = .nilIface from rfl] at C
  have c0 := hA.c0
  unfold Cx.v at c0 C
  clear hns hns2 hend hN
  go_enter Tryd.func64, Tryd.ntmps64
  go_wp2_with fail
  refine C.out.mono ?_
  rintro e w1 ⟨rfl, hb⟩
  go_wp2
  go_ret
  exact ⟨rfl, hb⟩
set_option maxHeartbeats 1000000 in
theorem mcheck_any (ns : List Nd) (v : Value) (s : ByteArray) (w : World) (hN : NsIn w v ns) (hs : s.size ≤ maxLen) :
    Calls Tryd.prog 24 #[v, .string s] w fun e w' => e = .returned (errV (meanF ns s.size)) ∧ Below w.heap.size w w' := by
  have C := hid (rcheck_any ns v w hN)
  obtain ⟨a, cap, rfl, hm, _⟩ := hN
  unfold meanF
  by_cases hf : faultL ns = 0
  · rw [if_pos hf]
    rw [hf] at C
    rw [show errV 0 = .nilIface from rfl] at C
    by_cases h4 : 400 < s.size
    · rw [if_pos h4]
      rw [show errV 3 = .iface 23 (.int .i64 3) from rfl]
      have h4' : (400 : Int) < (s.size : Int) := by omega
      go_enter Tryd.func24, Tryd.ntmps24
      go_wp2_with fail
      refine C.out.mono ?_
      rintro e w1 ⟨rfl, hb⟩
      go_wp2
      go_ret
      exact ⟨rfl, hb⟩
    · rw [if_neg h4]
      rw [show errV 0 = .nilIface from rfl]
      have h4' : (s.size : Int) ≤ 400 := by omega
      go_enter Tryd.func24, Tryd.ntmps24
      go_wp2_with fail
      refine C.out.mono ?_
      rintro e w1 ⟨rfl, hb⟩
      go_wp2
      go_ret
      exact ⟨rfl, hb⟩
  · rw [if_neg hf]
    rw [show errV (faultL ns) = .iface 23 (.int .i64 (faultL ns)) by unfold errV; rw [if_neg hf]] at C ⊢
    go_enter Tryd.func24, Tryd.ntmps24
    go_wp2_with fail
    refine C.out.mono ?_
    rintro e w1 ⟨rfl, hb⟩
    go_wp2
    go_ret
    exact ⟨rfl, hb⟩
set_option maxHeartbeats 1000000 in
theorem reading_any (a : Option Addr) (l cap : Nat) (s : ByteArray) (w : World) :
    Calls Tryd.prog 26 #[.slice a l cap, .string s] w fun e w' => e = .returned (.pointer (some ⟨w.heap.size + 1, 0, none⟩)) ∧ w' = (w.alloc (.map #[] 0)).alloc (.cells #[.slice a l cap, .string s, .map (some w.heap.size)] 92) := by
  have hmm := @run_makeMap Tryd.prog
  go_enter Tryd.func26, Tryd.ntmps26
  go_wp2
  go_ret
  exact ⟨rfl, rfl⟩
end Go.Proofs.YtphcncgdodhlbaaDoor
