/- Hits of words in memory. Hits that lie in nothing that is turned. Items of a set in memory. What the document asks of package set. A pattern that need not be tried is not found. Plain mathematics. The landed Set, in memory. What the document asks of package set: Tried. What the document asks of package set, once more: what List and Scan answer is new. The landed Set: New, Filter, Tried, List. -/
import Derived.Test.YtejbififfceamaaGreatDoorY02
import Derived.OwnWalk
import Derived.KernelRfl
import Derived.Deep.AppendLies
import Derived.Test.YtejbififfceamaaGreatDoorY03
import Derived.Test.YtejbififfceamaaGreatDoorY07
import Derived.Lib.IndexMore
import Derived.Test.YtejbififfceamaaGreatDoorY04
import Derived.RangeFuncRecord
namespace Go.Proofs.YtejbififfceamaaGreatDoor
set_option linter.unusedSimpArgs false
set_option linter.unusedVariables false
set_option maxRecDepth 100000
open Go.RowKit
/-- A span as a value. -/
abbrev htV (x : Nat × Nat × Nat) : Value := .agg #[.int .i64 (x.1 : Int), .int .i64 (x.2.1 : Int), .int .i64 (x.2.2 : Int)]
/-- The spans l lie in block b from off on. -/
def HtAt (w : World) (b off : Nat) (l : List (Nat × Nat × Nat)) : Prop := ∀ (i : Nat) (x : Nat × Nat × Nat), l[i]? = some x → w.cell? ⟨b, off + i * 3, none⟩ = some (.int .i64 (x.1 : Int)) ∧ w.cell? ⟨b, off + i * 3 + 1, none⟩ = some (.int .i64 (x.2.1 : Int)) ∧ w.cell? ⟨b, off + i * 3 + 2, none⟩ = some (.int .i64 (x.2.2 : Int))
/-- A slice that reads as the spans l. -/
def HtIn (w : World) (v : Value) (l : List (Nat × Nat × Nat)) : Prop := ∃ a cap, v = .slice a l.length cap ∧ l.length ≤ maxLen ∧ (l = [] ∨ ∃ b off, a = some ⟨b, off, none⟩ ∧ b < w.heap.size ∧ HtAt w b off l)
theorem HtAt.below {w w' : World} {B b off : Nat} {l : List (Nat × Nat × Nat)} (h : HtAt w b off l) (hb : Below B w w') (hlt : b < B) : HtAt w' b off l := fun i n hn =>
  ⟨(hb.cell (p := ⟨b, _, none⟩) hlt).trans (h i n hn).1, (hb.cell (p := ⟨b, _, none⟩) hlt).trans (h i n hn).2.1, (hb.cell (p := ⟨b, _, none⟩) hlt).trans (h i n hn).2.2⟩
theorem HtIn.below {w w' : World} {v : Value} {l : List (Nat × Nat × Nat)} (h : HtIn w v l) (hb : Below w.heap.size w w') : HtIn w' v l := by
  obtain ⟨a, cap, rfl, hm, h | ⟨b, off, rfl, hlt, hn⟩⟩ := h
  · exact ⟨a, cap, rfl, hm, Or.inl h⟩
  · exact ⟨_, cap, rfl, hm, Or.inr ⟨b, off, rfl, Nat.lt_of_lt_of_le hlt hb.size, hn.below hb hlt⟩⟩
theorem htIn_nil (w : World) : HtIn w (.slice none 0 0) [] := ⟨none, 0, rfl, by simp, Or.inl rfl⟩
theorem htIn_form {w : World} {v : Value} {l : List (Nat × Nat × Nat)} (h : HtIn w v l) : ∃ a cap, v = .slice a l.length cap ∧ l.length ≤ maxLen := by
  obtain ⟨a, cap, h1, h2, _⟩ := h
  exact ⟨a, cap, h1, h2⟩
def htCells : List (Nat × Nat × Nat) → List Value
  | [] => []
  | x :: r => .int .i64 (x.1 : Int) :: .int .i64 (x.2.1 : Int) :: .int .i64 (x.2.2 : Int) :: htCells r
theorem htCells_append : ∀ (x y : List (Nat × Nat × Nat)), htCells (x ++ y) = htCells x ++ htCells y
  | [], y => rfl
  | n :: r, y => by simp [htCells, htCells_append r y]
theorem htCells_len : ∀ (x : List (Nat × Nat × Nat)), (htCells x).length = x.length * 3
  | [] => rfl
  | n :: r => by simp [htCells, htCells_len r]; omega
theorem htCells_one : ∀ (x : List (Nat × Nat × Nat)), ∀ u ∈ htCells x, u.oneCell' = true
  | [], u, h => by simp [htCells] at h
  | n :: r, u, h => by
    simp [htCells] at h
    rcases h with rfl | rfl | rfl | h
    · rfl
    · rfl
    · rfl
    · exact htCells_one r u h
theorem htCells_at : ∀ (l : List (Nat × Nat × Nat)) (i : Nat) (x : Nat × Nat × Nat), l[i]? = some x → (htCells l)[i * 3]? = some (.int .i64 (x.1 : Int)) ∧ (htCells l)[i * 3 + 1]? = some (.int .i64 (x.2.1 : Int)) ∧ (htCells l)[i * 3 + 2]? = some (.int .i64 (x.2.2 : Int))
  | [], i, n, h => by simp at h
  | m :: r, 0, n, h => by
    simp at h
    subst h
    exact ⟨rfl, rfl, rfl⟩
  | m :: r, i + 1, n, h => by
    have := htCells_at r i n (by simpa using h)
    rw [show (i + 1) * 3 = i * 3 + 1 + 1 + 1 by omega]
    simpa [htCells] using this
/-- A slice of the call's own that reads as the spans l. -/
def HtOwn (w : World) (B : Nat) (v : Value) (l : List (Nat × Nat × Nat)) : Prop := w.ownsRow B 56 3 v l.length (htCells l)
theorem HtOwn.nil (w : World) (B : Nat) : HtOwn w B (.slice none 0 0) [] := ⟨rfl, Or.inl ⟨rfl, rfl⟩⟩
theorem HtOwn.isIn {w : World} {B : Nat} {v : Value} {l : List (Nat × Nat × Nat)} (h : HtOwn w B v l) (hm : l.length ≤ maxLen) : HtIn w v l := by
  rcases h.2 with ⟨hv, h0⟩ | ⟨g, cap, cur, hv, hb, hg, hc, _⟩
  · have e : l = [] := List.eq_nil_of_length_eq_zero h0
    subst e
    rw [hv]
    exact htIn_nil w
  · refine ⟨_, _, hv, hm, Or.inr ⟨g, 0, rfl, ?_, ?_⟩⟩
    · rcases Nat.lt_or_ge g w.heap.size with h' | h'
      · exact h'
      · rw [Array.getElem?_eq_none h'] at hg; cases hg
    · intro i x hx
      have hc := htCells_at l i x hx
      have h1 := h.cells (g := g) (by rw [hv]; rfl) (i * 3) _ hc.1
      have h2 := h.cells (g := g) (by rw [hv]; rfl) (i * 3 + 1) _ hc.2.1
      have h3 := h.cells (g := g) (by rw [hv]; rfl) (i * 3 + 2) _ hc.2.2
      rw [Addr.add_lit] at h1 h2 h3
      exact ⟨h1, h2, h3⟩
theorem HtOwn.kept {w w' : World} {B : Nat} {v : Value} {l : List (Nat × Nat × Nat)} (h : HtOwn w B v l) (hb : Below w.heap.size w w') : HtOwn w' B v l := by
  refine World.ownsRow.kept (row := none) h ⟨hb.os, hb.tape, hb.output, hb.size, fun k hk _ => hb.block k hk⟩ ?_
  cases hv : v.ownBlock with
  | none => exact Or.inl rfl
  | some x => exact Or.inr (by simp)
theorem HtOwn.form {w : World} {B : Nat} {v : Value} {l : List (Nat × Nat × Nat)} (h : HtOwn w B v l) : ∃ a cap, v = .slice a l.length cap := by
  rcases h.2 with ⟨hv, h0⟩ | ⟨g, cap, cur, hv, _⟩
  · exact ⟨none, 0, by rw [hv, h0]⟩
  · exact ⟨_, _, hv⟩
theorem HtOwn.grown {w w' : World} {B : Nat} {v : Value} {l : List (Nat × Nat × Nat)} (h : HtOwn w B v l) (hB : B ≤ w.heap.size) (hg : w.grownBy w' v.ownBlock) : Below B w w' := by
  refine ⟨hg.os, hg.tape, hg.output, hg.size, fun k hk => hg.block k (by omega) ?_⟩
  intro e
  rcases h.2 with ⟨hv, _⟩ | ⟨b, cap, cur, hv, hb, _⟩
  · rw [hv] at e; cases e
  · rw [hv] at e
    injection e with e
    simp only at e
    omega
/-- append of one span, which lies in a new row. -/
theorem wpList_append_ht {ops : Array Oper} {rest : List Oper} {o : Oper} {a : Act} {Q : Exit → Act → World → Prop} {w : World} (hgd : o.guard = none) (s x : Operand)
    (ho : o.op = .call { callee := .builtin .append, args := #[s, x], argTypes := #[43, 43] })
    (B : Nat) (v : Value) (hs : a.eval s = v) (l : List (Nat × Nat × Nat)) (hown : HtOwn w B v l) (g2 c2 : Nat) (y : Nat × Nat × Nat) (hx : a.eval x = .slice (some ⟨g2, 0, none⟩) 1 c2)
    (hnew : w.cell? ⟨g2, 0, none⟩ = some (.int .i64 (y.1 : Int))) (hnew2 : w.cell? ⟨g2, 1, none⟩ = some (.int .i64 (y.2.1 : Int))) (hnew3 : w.cell? ⟨g2, 2, none⟩ = some (.int .i64 (y.2.2 : Int))) (hlen : l.length ≤ 1000000000) (hbase : B ≤ w.heap.size)
    (h : ∀ g cap w', HtOwn w' B (.slice (some ⟨g, 0, none⟩) (l.length + 1) cap) (l ++ [y]) → w.grownBy w' v.ownBlock → B ≤ g → g < w'.heap.size → wpList Tryz.prog ops Q rest (a.put o.dst (.slice (some ⟨g, 0, none⟩) (l.length + 1) cap)) w') : wpList Tryz.prog ops Q (o :: rest) a w := by
  have hinfo : (Tryz.prog.info? 56).map (fun i => (i.zero, i.size, i.bytes)) = some (some (.agg #[.int .i64 0, .int .i64 0, .int .i64 0]), 3, 24) := by kernel_rfl
  obtain ⟨i0, hi, hz0, hz1, hz2⟩ := info_parts hinfo
  refine wpList_append_lies w hgd s x 43 ho B 56 i0 _ 3 24 Tryz.underlying43 hi hz0 hz1 hz2 rfl (by decide) v l.length (htCells l) hs hown ⟨g2, 0, none⟩ 1 c2 (htCells [y]) hx rfl ?_ (htCells_one [y]) (by omega) (by unfold maxLen; omega) (by omega) hbase _ rfl ?_
  · intro j u hj
    match j, hj with
    | 0, hj =>
      simp [htCells] at hj
      subst hj
      rw [Addr.add_lit]
      exact hnew
    | 1, hj =>
      simp [htCells] at hj
      subst hj
      rw [Addr.add_lit]
      exact hnew2
    | 2, hj =>
      simp [htCells] at hj
      subst hj
      rw [Addr.add_lit]
      exact hnew3
    | j + 3, hj => simp [htCells] at hj
  · intro g cap w' h1 h2 h3 h4
    have e : HtOwn w' B (.slice (some ⟨g, 0, none⟩) (l.length + 1) cap) (l ++ [y]) := by
      unfold HtOwn
      rw [htCells_append]
      simpa using h1
    have hg : B ≤ g := by
      rcases h3 with h3 | h3
      · rcases hown.2 with ⟨hv, _⟩ | ⟨g', cap', cur, hv, hb, _⟩
        · rw [hv] at h3; cases h3
        · rw [hv] at h3
          injection h3 with h3
          simp at h3
          omega
      · omega
    exact h g cap w' e h2 hg h4
end Go.Proofs.YtejbififfceamaaGreatDoor
namespace Go.Proofs.YtejbififfceamaaGreatDoor
set_option linter.unusedSimpArgs false
set_option linter.unusedVariables false
set_option maxRecDepth 100000
open Go.RowKit
/-- Hits that are none of F. -/
def HtOff (F : Nat → Prop) (w : World) (v : Value) (l : List (Nat × Nat × Nat)) : Prop := ∃ a cap, v = .slice a l.length cap ∧ l.length ≤ maxLen ∧ (l = [] ∨ ∃ b off, a = some ⟨b, off, none⟩ ∧ b < w.heap.size ∧ ¬ F b ∧ HtAt w b off l)
theorem HtOff.isIn {F : Nat → Prop} {w : World} {v : Value} {l : List (Nat × Nat × Nat)} (h : HtOff F w v l) : HtIn w v l := by
  obtain ⟨a, cap, h1, h2, h3⟩ := h
  refine ⟨a, cap, h1, h2, ?_⟩
  rcases h3 with h3 | ⟨b, off, h4, h5, _, h6⟩
  · exact Or.inl h3
  · exact Or.inr ⟨b, off, h4, h5, h6⟩
theorem HtOff.kept {F G F' : Nat → Prop} {w w' : World} {v : Value} {l : List (Nat × Nat × Nat)} (h : HtOff F w v l) (hb : But G w w') (hG : ∀ k, k < w.heap.size → G k → F k) (hF : ∀ k, k < w.heap.size → F' k → F k) : HtOff F' w' v l := by
  obtain ⟨a, cap, h1, h2, h3⟩ := h
  refine ⟨a, cap, h1, h2, ?_⟩
  rcases h3 with h3 | ⟨b, off, h4, h5, h7, h6⟩
  · exact Or.inl h3
  · have hbk := hb.block b h5 (fun hg => h7 (hG b h5 hg))
    refine Or.inr ⟨b, off, h4, Nat.lt_of_lt_of_le h5 hb.size, fun hf => h7 (hF b h5 hf), fun i x hx => ?_⟩
    have := h6 i x hx
    exact ⟨(World.cell?_of_block hbk).trans this.1, (World.cell?_of_block hbk).trans this.2.1, (World.cell?_of_block hbk).trans this.2.2⟩
end Go.Proofs.YtejbififfceamaaGreatDoor
namespace Go.Proofs.YtejbififfceamaaGreatDoor
set_option linter.unusedSimpArgs false
set_option linter.unusedVariables false
set_option maxRecDepth 100000
open Go.RowKit
/-- An item as a value. -/
abbrev itV (x : Nat × ByteArray) : Value := .agg #[.int .i64 (x.1 : Int), .string x.2]
/-- The items l lie in block b from off on. -/
def ItAt (w : World) (b off : Nat) (l : List (Nat × ByteArray)) : Prop := ∀ (i : Nat) (x : Nat × ByteArray), l[i]? = some x → w.cell? ⟨b, off + i * 2, none⟩ = some (.int .i64 (x.1 : Int)) ∧ w.cell? ⟨b, off + i * 2 + 1, none⟩ = some (.string x.2)
/-- A slice that reads as the items l. -/
def ItIn (w : World) (v : Value) (l : List (Nat × ByteArray)) : Prop := ∃ a cap, v = .slice a l.length cap ∧ l.length ≤ maxLen ∧ (l = [] ∨ ∃ b off, a = some ⟨b, off, none⟩ ∧ b < w.heap.size ∧ ItAt w b off l)
theorem ItAt.below {w w' : World} {B b off : Nat} {l : List (Nat × ByteArray)} (h : ItAt w b off l) (hb : Below B w w') (hlt : b < B) : ItAt w' b off l := fun i n hn =>
  ⟨(hb.cell (p := ⟨b, _, none⟩) hlt).trans (h i n hn).1, (hb.cell (p := ⟨b, _, none⟩) hlt).trans (h i n hn).2⟩
theorem ItIn.below {w w' : World} {v : Value} {l : List (Nat × ByteArray)} (h : ItIn w v l) (hb : Below w.heap.size w w') : ItIn w' v l := by
  obtain ⟨a, cap, rfl, hm, h | ⟨b, off, rfl, hlt, hn⟩⟩ := h
  · exact ⟨a, cap, rfl, hm, Or.inl h⟩
  · exact ⟨_, cap, rfl, hm, Or.inr ⟨b, off, rfl, Nat.lt_of_lt_of_le hlt hb.size, hn.below hb hlt⟩⟩
theorem itIn_nil (w : World) : ItIn w (.slice none 0 0) [] := ⟨none, 0, rfl, by simp, Or.inl rfl⟩
theorem itIn_form {w : World} {v : Value} {l : List (Nat × ByteArray)} (h : ItIn w v l) : ∃ a cap, v = .slice a l.length cap ∧ l.length ≤ maxLen := by
  obtain ⟨a, cap, h1, h2, _⟩ := h
  exact ⟨a, cap, h1, h2⟩
def itCells : List (Nat × ByteArray) → List Value
  | [] => []
  | x :: r => .int .i64 (x.1 : Int) :: .string x.2 :: itCells r
theorem itCells_append : ∀ (x y : List (Nat × ByteArray)), itCells (x ++ y) = itCells x ++ itCells y
  | [], y => rfl
  | n :: r, y => by simp [itCells, itCells_append r y]
theorem itCells_len : ∀ (x : List (Nat × ByteArray)), (itCells x).length = x.length * 2
  | [] => rfl
  | n :: r => by simp [itCells, itCells_len r]; omega
theorem itCells_one : ∀ (x : List (Nat × ByteArray)), ∀ u ∈ itCells x, u.oneCell' = true
  | [], u, h => by simp [itCells] at h
  | n :: r, u, h => by
    simp [itCells] at h
    rcases h with rfl | rfl | h
    · rfl
    · rfl
    · exact itCells_one r u h
theorem itCells_at : ∀ (l : List (Nat × ByteArray)) (i : Nat) (x : Nat × ByteArray), l[i]? = some x → (itCells l)[i * 2]? = some (.int .i64 (x.1 : Int)) ∧ (itCells l)[i * 2 + 1]? = some (.string x.2)
  | [], i, n, h => by simp at h
  | m :: r, 0, n, h => by
    simp at h
    subst h
    exact ⟨rfl, rfl⟩
  | m :: r, i + 1, n, h => by
    have := itCells_at r i n (by simpa using h)
    rw [show (i + 1) * 2 = i * 2 + 1 + 1 by omega]
    simpa [itCells] using this
/-- A slice of the call's own that reads as the items l. -/
def ItOwn (w : World) (B : Nat) (v : Value) (l : List (Nat × ByteArray)) : Prop := w.ownsRow B 59 2 v l.length (itCells l)
theorem ItOwn.nil (w : World) (B : Nat) : ItOwn w B (.slice none 0 0) [] := ⟨rfl, Or.inl ⟨rfl, rfl⟩⟩
theorem ItOwn.isIn {w : World} {B : Nat} {v : Value} {l : List (Nat × ByteArray)} (h : ItOwn w B v l) (hm : l.length ≤ maxLen) : ItIn w v l := by
  rcases h.2 with ⟨hv, h0⟩ | ⟨g, cap, cur, hv, hb, hg, hc, _⟩
  · have e : l = [] := List.eq_nil_of_length_eq_zero h0
    subst e
    rw [hv]
    exact itIn_nil w
  · refine ⟨_, _, hv, hm, Or.inr ⟨g, 0, rfl, ?_, ?_⟩⟩
    · rcases Nat.lt_or_ge g w.heap.size with h' | h'
      · exact h'
      · rw [Array.getElem?_eq_none h'] at hg; cases hg
    · intro i x hx
      have hc := itCells_at l i x hx
      have h1 := h.cells (g := g) (by rw [hv]; rfl) (i * 2) _ hc.1
      have h2 := h.cells (g := g) (by rw [hv]; rfl) (i * 2 + 1) _ hc.2
      rw [Addr.add_lit] at h1 h2
      exact ⟨h1, h2⟩
theorem ItOwn.kept {w w' : World} {B : Nat} {v : Value} {l : List (Nat × ByteArray)} (h : ItOwn w B v l) (hb : Below w.heap.size w w') : ItOwn w' B v l := by
  refine World.ownsRow.kept (row := none) h ⟨hb.os, hb.tape, hb.output, hb.size, fun k hk _ => hb.block k hk⟩ ?_
  cases hv : v.ownBlock with
  | none => exact Or.inl rfl
  | some x => exact Or.inr (by simp)
theorem ItOwn.form {w : World} {B : Nat} {v : Value} {l : List (Nat × ByteArray)} (h : ItOwn w B v l) : ∃ a cap, v = .slice a l.length cap := by
  rcases h.2 with ⟨hv, h0⟩ | ⟨g, cap, cur, hv, _⟩
  · exact ⟨none, 0, by rw [hv, h0]⟩
  · exact ⟨_, _, hv⟩
theorem ItOwn.grown {w w' : World} {B : Nat} {v : Value} {l : List (Nat × ByteArray)} (h : ItOwn w B v l) (hB : B ≤ w.heap.size) (hg : w.grownBy w' v.ownBlock) : Below B w w' := by
  refine ⟨hg.os, hg.tape, hg.output, hg.size, fun k hk => hg.block k (by omega) ?_⟩
  intro e
  rcases h.2 with ⟨hv, _⟩ | ⟨b, cap, cur, hv, hb, _⟩
  · rw [hv] at e; cases e
  · rw [hv] at e
    injection e with e
    simp only at e
    omega
/-- append of one item, which lies in a new row. -/
theorem wpList_append_it {ops : Array Oper} {rest : List Oper} {o : Oper} {a : Act} {Q : Exit → Act → World → Prop} {w : World} (hgd : o.guard = none) (s x : Operand)
    (ho : o.op = .call { callee := .builtin .append, args := #[s, x], argTypes := #[26, 26] })
    (B : Nat) (v : Value) (hs : a.eval s = v) (l : List (Nat × ByteArray)) (hown : ItOwn w B v l) (g2 c2 : Nat) (y : Nat × ByteArray) (hx : a.eval x = .slice (some ⟨g2, 0, none⟩) 1 c2)
    (hnew : w.cell? ⟨g2, 0, none⟩ = some (.int .i64 (y.1 : Int))) (hnew2 : w.cell? ⟨g2, 1, none⟩ = some (.string y.2)) (hlen : l.length ≤ 1000000000) (hbase : B ≤ w.heap.size)
    (h : ∀ g cap w', ItOwn w' B (.slice (some ⟨g, 0, none⟩) (l.length + 1) cap) (l ++ [y]) → w.grownBy w' v.ownBlock → B ≤ g → g < w'.heap.size → wpList Tryz.prog ops Q rest (a.put o.dst (.slice (some ⟨g, 0, none⟩) (l.length + 1) cap)) w') : wpList Tryz.prog ops Q (o :: rest) a w := by
  have hinfo : (Tryz.prog.info? 59).map (fun i => (i.zero, i.size, i.bytes)) = some (some (.agg #[.int .i64 0, .string ByteArray.empty]), 2, 24) := by kernel_rfl
  obtain ⟨i0, hi, hz0, hz1, hz2⟩ := info_parts hinfo
  refine wpList_append_lies w hgd s x 26 ho B 59 i0 _ 2 24 Tryz.underlying26 hi hz0 hz1 hz2 rfl (by decide) v l.length (itCells l) hs hown ⟨g2, 0, none⟩ 1 c2 (itCells [y]) hx rfl ?_ (itCells_one [y]) (by omega) (by unfold maxLen; omega) (by omega) hbase _ rfl ?_
  · intro j u hj
    match j, hj with
    | 0, hj =>
      simp [itCells] at hj
      subst hj
      rw [Addr.add_lit]
      exact hnew
    | 1, hj =>
      simp [itCells] at hj
      subst hj
      rw [Addr.add_lit]
      exact hnew2
    | j + 2, hj => simp [itCells] at hj
  · intro g cap w' h1 h2 h3 h4
    have e : ItOwn w' B (.slice (some ⟨g, 0, none⟩) (l.length + 1) cap) (l ++ [y]) := by
      unfold ItOwn
      rw [itCells_append]
      simpa using h1
    have hg : B ≤ g := by
      rcases h3 with h3 | h3
      · rcases hown.2 with ⟨hv, _⟩ | ⟨g', cap', cur, hv, hb, _⟩
        · rw [hv] at h3; cases h3
        · rw [hv] at h3
          injection h3 with h3
          simp at h3
          omega
      · omega
    exact h g cap w' e h2 hg h4
end Go.Proofs.YtejbififfceamaaGreatDoor
namespace Go.Proofs.YtejbififfceamaaGreatDoor
set_option linter.unusedSimpArgs false
set_option linter.unusedVariables false
set_option maxRecDepth 100000
open Go.RowKit
/-- What the document asks of package set. X: what the library's tables hold. Sv F w u σ: u is a Set that is σ, and all that it keeps is in F. -/
structure SetC (X : World → Prop) (Sv : (Nat → Prop) → World → Value → SetS → Prop) : Prop where
  lt : ∀ F w u σ, Sv F w u σ → ∀ k, F k → k < w.heap.size
  ptr : ∀ F w u σ, Sv F w u σ → ∃ a, u = .pointer (some a)
  keep : ∀ F G w w' u σ, Sv F w u σ → But G w w' → (∀ k, G k → ¬ F k) → Sv F w' u σ
  new : ∀ w, X w → Calls Tryz.prog 6 #[] w fun e w' => ∃ u F, e = .returned u ∧ Sv F w' u set0 ∧ Below w.heap.size w w' ∧ ∀ k, F k → w.heap.size ≤ k
  add : ∀ F w u σ (s : ByteArray) n k e σ', X w → Sv F w u σ → σ.Ok → σ.last ≤ 1000000 → s.size ≤ maxLen → AddR σ s n k e σ' → Calls Tryz.prog 8 #[u, .string s] w fun x w' => x = .returned (.tuple #[.int .i64 (n : Int), .int .i64 k, errV e]) ∧ Turns F w w' (fun F' => Sv F' w' u σ')
  remove : ∀ F w u σ (n : Int), X w → Sv F w u σ → σ.Ok → Calls Tryz.prog 11 #[u, .int .i64 n] w fun x w' => x = .returned (errV (σ.delE n)) ∧ Turns F w w' (fun F' => Sv F' w' u (σ.del n))
  list : ∀ F w u σ, X w → Sv F w u σ → σ.Ok → Calls Tryz.prog 17 #[u] w fun x w' => ∃ v, x = .returned v ∧ ItIn w' v σ.items ∧ Below w.heap.size w w'
  scan : ∀ F w u σ (s : ByteArray) e h σ', X w → Sv F w u σ → σ.Ok → s.size ≤ maxLen → ScanR σ s e h σ' → Calls Tryz.prog 14 #[u, .string s] w fun x w' => ∃ v, x = .returned (.tuple #[v, errV e]) ∧ Turns F w w' (fun F' => Sv F' w' u σ' ∧ HtOff F' w' v h)
  filter : ∀ F w u σ (b : Bool), X w → Sv F w u σ → σ.Ok → Calls Tryz.prog 12 #[u, .bool b] w fun x w' => x = .returned (.tuple #[]) ∧ Turns F w w' (fun F' => Sv F' w' u (σ.filt b))
end Go.Proofs.YtejbififfceamaaGreatDoor
namespace Go.Proofs.YtejbififfceamaaGreatDoor
set_option linter.unusedSimpArgs false
set_option linter.unusedVariables false
set_option maxRecDepth 100000
open Go.RowKit
theorem occ_stnd {x s : List UInt8} {i : Nat} (hi : i ≤ s.length) : Lib.occAt s x i = true ↔ (i + x.length ≤ s.length ∧ cut s i (i + x.length) = x) := by
  unfold Lib.occAt cut
  rw [List.isPrefixOf_iff_prefix, List.prefix_iff_eq_take]
  have e : i + x.length - i = x.length := by omega
  rw [e]
  constructor
  · intro h
    refine ⟨?_, h.symm⟩
    have := congrArg List.length h
    rw [List.length_take, List.length_drop] at this
    omega
  · rintro ⟨_, h⟩
    exact h.symm
/-- Where the library finds it. -/
theorem index_stnd (x s : List UInt8) : 0 ≤ Lib.index s x ↔ Stnd x s := by
  rcases Lib.index_spec s x with ⟨h1, h2⟩ | ⟨i, h1, h2, h3, _⟩
  · rw [h1]
    constructor
    · intro h; omega
    · rintro ⟨i, h3, h4⟩
      have := (occ_stnd (by omega)).2 ⟨h3, h4⟩
      rw [h2 i (by omega)] at this
      cases this
  · constructor
    · intro _
      exact ⟨i, (occ_stnd h2).1 h3⟩
    · intro _
      omega
theorem try_index (m : Mbr) (s : List UInt8) : m.try s = decide (0 ≤ Lib.index s m.pat.ned) := by
  unfold Mbr.try
  rw [Bool.eq_iff_iff, @decide_eq_true_iff _ (Classical.propDecidable _), decide_eq_true_iff, index_stnd]
theorem all_not (m : Mbr) (hm : m.ok) (s : List UInt8) (l : List (Nat × Nat)) (h : AllR s m.pat 0 l) (ht : m.try s = false) : l = [] := by
  have hn : ∀ i j, ¬ Fit s m.pat i j := by
    intro i j hf
    obtain ⟨p, q, hpq⟩ := ned_fit s m.pat hm.isOk (fun n hn => (hm.good.all n hn).1) i j hf
    obtain ⟨h1, h2⟩ := fit_le s m.pat i j hf
    have hlen := congrArg List.length hpq
    rw [cut_len h1 h2] at hlen
    simp only [List.length_append] at hlen
    have : m.try s = true := by
      unfold Mbr.try
      rw [@decide_eq_true_iff _ (Classical.propDecidable _)]
      refine ⟨i + p.length, by omega, ?_⟩
      have e1 : cut s (i + p.length) (i + p.length + m.pat.ned.length) = ((cut s i j).drop p.length).take m.pat.ned.length := by
        unfold cut
        rw [List.drop_take, List.take_take, List.drop_drop]
        congr 1
        omega
      rw [e1, hpq, List.append_assoc, List.drop_left, List.take_left]
    rw [ht] at this
    cases this
  exact h.uniq _ (.nil 0 (fun k _ _ j => hn k j))
/-- What is told of those that are tried is what is told of all. -/
theorem alls_try (on : Bool) (s : List UInt8) (ms : List Mbr) (h : List (Nat × Nat × Nat)) (hm : ∀ m ∈ ms, m.ok) (g : AllsR s ms h) : AllsR s (ms.filter (fun m => m.try s || !on)) h := by
  induction g with
  | nil => exact .nil
  | cons m r l h hl hr ih =>
    have ih := ih (fun x hx => hm x (by simp [hx]))
    by_cases hc : (m.try s || !on) = true
    · rw [List.filter_cons, if_pos hc]
      exact .cons m _ l h hl ih
    · rw [List.filter_cons, if_neg hc]
      have ht : m.try s = false := by
        cases h' : m.try s
        · rfl
        · rw [h'] at hc; simp at hc
      rw [all_not m (hm m (by simp)) s l hl ht]
      exact ih
end Go.Proofs.YtejbififfceamaaGreatDoor
namespace Go.Proofs.YtejbififfceamaaGreatDoor
set_option linter.unusedSimpArgs false
set_option linter.unusedVariables false
set_option maxRecDepth 100000
open Go.RowKit
/-- A member's needed text. -/
def Mbr.need (m : Mbr) : ByteArray := ⟨m.pat.ned.toArray⟩
/-- Members' cells: the number, the text, the pattern's slice, what it needs. -/
def mbCells : List (Mbr × Value) → List Value
  | [] => []
  | x :: r => .int .i64 (x.1.id : Int) :: .string x.1.text :: x.2 :: .string x.1.need :: mbCells r
theorem mbCells_append : ∀ (x y : List (Mbr × Value)), mbCells (x ++ y) = mbCells x ++ mbCells y
  | [], y => rfl
  | n :: r, y => by simp [mbCells, mbCells_append r y]
theorem mbCells_len : ∀ (x : List (Mbr × Value)), (mbCells x).length = x.length * 4
  | [] => rfl
  | n :: r => by simp [mbCells, mbCells_len r]; omega
theorem mbCells_at : ∀ (l : List (Mbr × Value)) (i : Nat) (x : Mbr × Value), l[i]? = some x → (mbCells l)[i * 4]? = some (.int .i64 (x.1.id : Int)) ∧ (mbCells l)[i * 4 + 1]? = some (.string x.1.text) ∧ (mbCells l)[i * 4 + 2]? = some x.2 ∧ (mbCells l)[i * 4 + 3]? = some (.string x.1.need)
  | [], i, n, h => by simp at h
  | m :: r, 0, n, h => by
    simp at h
    subst h
    exact ⟨rfl, rfl, rfl, rfl⟩
  | m :: r, i + 1, n, h => by
    have := mbCells_at r i n (by simpa using h)
    rw [show (i + 1) * 4 = i * 4 + 1 + 1 + 1 + 1 by omega]
    simpa [mbCells] using this
theorem mbCells_take : ∀ (l : List (Mbr × Value)) (i : Nat), mbCells (l.take i) = (mbCells l).take (i * 4)
  | [], i => by simp [mbCells]
  | m :: r, 0 => by simp [mbCells]
  | m :: r, i + 1 => by
    rw [show (i + 1) * 4 = i * 4 + 1 + 1 + 1 + 1 by omega]
    simp [mbCells, mbCells_take r i]
theorem mbCells_drop : ∀ (l : List (Mbr × Value)) (i : Nat), mbCells (l.drop i) = (mbCells l).drop (i * 4)
  | [], i => by simp [mbCells]
  | m :: r, 0 => by simp
  | m :: r, i + 1 => by
    rw [show (i + 1) * 4 = i * 4 + 1 + 1 + 1 + 1 by omega]
    simp [mbCells, mbCells_drop r i]
/-- A row of members of the call's own. -/
def MbOwn (w : World) (B : Nat) (v : Value) (l : List (Mbr × Value)) : Prop := w.ownsRow B 73 4 v l.length (mbCells l)
theorem MbOwn.nil (w : World) (B : Nat) : MbOwn w B (.slice none 0 0) [] := ⟨rfl, Or.inl ⟨rfl, rfl⟩⟩
/-- Where what a Set keeps lies. -/
def FootL (mb : Nat) (v : Value) (ps : List (Mbr × Value)) (k : Nat) : Prop := k = mb ∨ v.ownBlock = some k ∨ ∃ x ∈ ps, x.2.ownBlock = some k
/-- A Set's box. -/
abbrev boxL (v : Value) (σ : SetS) : Obj := .cells #[v, .int .i64 (σ.last : Int), .bool σ.on, .int .i64 (σ.tried : Int)] 69 (0, 0)
/-- The Set in block mb: its members' row, each one with its pattern. -/
structure MsI (mb : Nat) (v : Value) (ps : List (Mbr × Value)) (σ : SetS) (w : World) : Prop where
  box : w.heap[mb]? = some (boxL v σ)
  row : MbOwn w 0 v ps
  pats : ∀ x ∈ ps, NsOwn w 0 x.2 x.1.pat.flat
  ms : σ.ms = ps.map (·.1)
theorem MsI.lt {mb : Nat} {v : Value} {ps : List (Mbr × Value)} {σ : SetS} {w : World} (h : MsI mb v ps σ w) {k : Nat} (hk : FootL mb v ps k) : k < w.heap.size := by
  rcases hk with rfl | hk | ⟨x, hx, hk⟩
  · exact hp_lt h.box
  · exact (owns_block h.row hk).2.1
  · exact (owns_block (h.pats x hx) hk).2.1
theorem MsI.keep {mb : Nat} {v : Value} {ps : List (Mbr × Value)} {σ : SetS} {w w' : World} (h : MsI mb v ps σ w) {G : Nat → Prop} (hb : But G w w') (hG : ∀ k, G k → ¬ FootL mb v ps k) : MsI mb v ps σ w' := by
  have key : ∀ k, FootL mb v ps k → w'.heap[k]? = w.heap[k]? := fun k hk => hb.block k (h.lt hk) (fun hg => hG k hg hk)
  exact ⟨(key mb (Or.inl rfl)).trans h.box, owns_same h.row (fun g e => key g (Or.inr (Or.inl e))), fun x hx => owns_same (h.pats x hx) (fun g e => key g (Or.inr (Or.inr ⟨x, hx, e⟩))), h.ms⟩
theorem MsI.below {mb : Nat} {v : Value} {ps : List (Mbr × Value)} {σ : SetS} {w w' : World} (h : MsI mb v ps σ w) (hb : Below w.heap.size w w') : MsI mb v ps σ w' := h.keep (But.below (F := fun _ => False) hb) (fun _ h => h.elim)
/-- The box alone is turned. -/
theorem MsI.put {mb : Nat} {v : Value} {ps : List (Mbr × Value)} {σ σ' : SetS} {w w' : World} (h : MsI mb v ps σ w) (hg : w.grownBy w' (some mb)) (hm : σ'.ms = σ.ms) (hbox : w'.heap[mb]? = some (boxL v σ')) : MsI mb v ps σ' w' :=
  ⟨hbox, owns_other h.row h.box (by decide) hg, fun x hx => owns_other (h.pats x hx) h.box (by decide) hg, hm.trans h.ms⟩
theorem MsI.len {mb : Nat} {v : Value} {ps : List (Mbr × Value)} {σ : SetS} {w : World} (h : MsI mb v ps σ w) : ps.length = σ.ms.length := by rw [h.ms, List.length_map]
theorem MsI.cells {mb : Nat} {v : Value} {ps : List (Mbr × Value)} {σ : SetS} {w : World} (h : MsI mb v ps σ w) : w.cell? ⟨mb, 0, none⟩ = some v ∧ w.cell? ⟨mb, 1, none⟩ = some (.int .i64 (σ.last : Int)) ∧ w.cell? ⟨mb, 2, none⟩ = some (.bool σ.on) ∧ w.cell? ⟨mb, 3, none⟩ = some (.int .i64 (σ.tried : Int)) ∧ ∀ j, w.frozen? ⟨mb, j, none⟩ = false := by
  have c0 := Lib.cell_of_heap h.box 0
  have c1 := Lib.cell_of_heap h.box 1
  have c2 := Lib.cell_of_heap h.box 2
  have c3 := Lib.cell_of_heap h.box 3
  simp only [List.getElem?_toArray, List.getElem?_cons_zero, List.getElem?_cons_succ] at c0 c1 c2 c3
  exact ⟨c0, c1, c2, c3, fun j => Lib.frozen_of_heap h.box j⟩
/-- Members that lie somewhere. -/
def MbAt (w : World) (b : Nat) (l : List (Mbr × Value)) : Prop := ∀ (i : Nat) (x : Mbr × Value), l[i]? = some x → w.cell? ⟨b, i * 4, none⟩ = some (.int .i64 (x.1.id : Int)) ∧ w.cell? ⟨b, i * 4 + 1, none⟩ = some (.string x.1.text) ∧ w.cell? ⟨b, i * 4 + 2, none⟩ = some x.2 ∧ w.cell? ⟨b, i * 4 + 3, none⟩ = some (.string x.1.need)
theorem MbOwn.at {w : World} {B : Nat} {v : Value} {l : List (Mbr × Value)} (h : MbOwn w B v l) : ∃ a cap, v = .slice a l.length cap ∧ (l = [] ∨ ∃ b, a = some ⟨b, 0, none⟩ ∧ MbAt w b l) := by
  rcases h.2 with ⟨hv, h0⟩ | ⟨g, cap, cur, hv, hb, hg, hc, _⟩
  · exact ⟨none, 0, by rw [hv, h0], Or.inl (List.eq_nil_of_length_eq_zero h0)⟩
  · refine ⟨_, _, hv, Or.inr ⟨g, rfl, fun i x hx => ?_⟩⟩
    obtain ⟨e0, e1, e2, e3⟩ := mbCells_at l i x hx
    have h0 := World.ownsRow.cells h (g := g) (by rw [hv]; rfl) (i * 4) _ e0
    have h1 := World.ownsRow.cells h (g := g) (by rw [hv]; rfl) (i * 4 + 1) _ e1
    have h2 := World.ownsRow.cells h (g := g) (by rw [hv]; rfl) (i * 4 + 2) _ e2
    have h3 := World.ownsRow.cells h (g := g) (by rw [hv]; rfl) (i * 4 + 3) _ e3
    rw [Addr.add_lit, Nat.zero_add] at h0 h1 h2 h3
    exact ⟨h0, h1, h2, h3⟩
/-- The landed Set. -/
def SvL (F : Nat → Prop) (w : World) (u : Value) (σ : SetS) : Prop := ∃ mb v ps, u = .pointer (some ⟨mb, 0, none⟩) ∧ MsI mb v ps σ w ∧ ∀ k, F k ↔ FootL mb v ps k
theorem SvL.lt {F : Nat → Prop} {w : World} {u : Value} {σ : SetS} (h : SvL F w u σ) : ∀ k, F k → k < w.heap.size := by
  obtain ⟨mb, v, ps, rfl, hm, hF⟩ := h
  exact fun k hk => hm.lt ((hF k).1 hk)
theorem SvL.ptr {F : Nat → Prop} {w : World} {u : Value} {σ : SetS} (h : SvL F w u σ) : ∃ a, u = .pointer (some a) := by
  obtain ⟨mb, v, ps, rfl, hm, hF⟩ := h
  exact ⟨_, rfl⟩
theorem SvL.keep {F G : Nat → Prop} {w w' : World} {u : Value} {σ : SetS} (h : SvL F w u σ) (hb : But G w w') (hG : ∀ k, G k → ¬ F k) : SvL F w' u σ := by
  obtain ⟨mb, v, ps, rfl, hm, hF⟩ := h
  exact ⟨mb, v, ps, rfl, hm.keep hb (fun k hk hf => hG k hk ((hF k).2 hf)), hF⟩
end Go.Proofs.YtejbififfceamaaGreatDoor
namespace Go.Proofs.YtejbififfceamaaGreatDoor
set_option linter.unusedSimpArgs false
set_option linter.unusedVariables false
set_option maxRecDepth 100000
open Go.RowKit
/-- Of Tried. -/
structure SetT (X : World → Prop) (Sv : (Nat → Prop) → World → Value → SetS → Prop) : Prop where
  tried : ∀ F w u σ, X w → Sv F w u σ → σ.Ok → Calls Tryz.prog 18 #[u] w fun x w' => x = .returned (.int .i64 (σ.tried : Int)) ∧ Below w.heap.size w w'
end Go.Proofs.YtejbififfceamaaGreatDoor
namespace Go.Proofs.YtejbififfceamaaGreatDoor
set_option linter.unusedSimpArgs false
set_option linter.unusedVariables false
set_option maxRecDepth 100000
open Go.RowKit
/-- A slice that lies in nothing elder. -/
def NewAt (B : Nat) (v : Value) : Prop := ∀ k, v.ownBlock = some k → B ≤ k
structure SetN (X : World → Prop) (Sv : (Nat → Prop) → World → Value → SetS → Prop) : Prop where
  list : ∀ F w u σ, X w → Sv F w u σ → σ.Ok → Calls Tryz.prog 17 #[u] w fun x w' => ∃ v, x = .returned v ∧ (ItIn w' v σ.items ∧ NewAt w.heap.size v) ∧ Below w.heap.size w w'
  scan : ∀ F w u σ (s : ByteArray) e h σ', X w → Sv F w u σ → σ.Ok → s.size ≤ maxLen → ScanR σ s e h σ' → Calls Tryz.prog 14 #[u, .string s] w fun x w' => ∃ v, x = .returned (.tuple #[v, errV e]) ∧ NewAt w.heap.size v ∧ Turns F w w' (fun F' => Sv F' w' u σ' ∧ HtOff F' w' v h)
/-- Items that are none of F. -/
def ItOff (F : Nat → Prop) (w : World) (v : Value) (l : List (Nat × ByteArray)) : Prop := ∃ a cap, v = .slice a l.length cap ∧ l.length ≤ maxLen ∧ (l = [] ∨ ∃ b off, a = some ⟨b, off, none⟩ ∧ b < w.heap.size ∧ ¬ F b ∧ ItAt w b off l)
theorem ItOff.kept {F G F' : Nat → Prop} {w w' : World} {v : Value} {l : List (Nat × ByteArray)} (h : ItOff F w v l) (hb : But G w w') (hG : ∀ k, k < w.heap.size → G k → F k) (hF : ∀ k, k < w.heap.size → F' k → F k) : ItOff F' w' v l := by
  obtain ⟨a, cap, h1, h2, h3⟩ := h
  refine ⟨a, cap, h1, h2, ?_⟩
  rcases h3 with h3 | ⟨b, off, h4, h5, h7, h6⟩
  · exact Or.inl h3
  · have hbk := hb.block b h5 (fun hg => h7 (hG b h5 hg))
    refine Or.inr ⟨b, off, h4, Nat.lt_of_lt_of_le h5 hb.size, fun hf => h7 (hF b h5 hf), fun i x hx => ?_⟩
    have := h6 i x hx
    exact ⟨(World.cell?_of_block hbk).trans this.1, (World.cell?_of_block hbk).trans this.2⟩
theorem itOff_new {F : Nat → Prop} {B : Nat} {w : World} {v : Value} {l : List (Nat × ByteArray)} (h : ItIn w v l) (hn : NewAt B v) (hF : ∀ k, F k → k < B) : ItOff F w v l := by
  obtain ⟨a, cap, rfl, h2, h3⟩ := h
  refine ⟨a, cap, rfl, h2, ?_⟩
  rcases h3 with h3 | ⟨b, off, rfl, h5, h6⟩
  · exact Or.inl h3
  · refine Or.inr ⟨b, off, rfl, h5, fun hf => ?_, h6⟩
    have h7 := hn b rfl
    have h8 := hF b hf
    omega
theorem htOff_new {F F' : Nat → Prop} {B : Nat} {w : World} {v : Value} {l : List (Nat × Nat × Nat)} (h : HtOff F w v l) (hn : NewAt B v) (hF : ∀ k, F' k → F k ∨ k < B) : HtOff F' w v l := by
  obtain ⟨a, cap, rfl, h2, h3⟩ := h
  refine ⟨a, cap, rfl, h2, ?_⟩
  rcases h3 with h3 | ⟨b, off, rfl, h5, h7, h6⟩
  · exact Or.inl h3
  · refine Or.inr ⟨b, off, rfl, h5, fun hf => ?_, h6⟩
    have h8 := hn b rfl
    rcases hF b hf with h9 | h9
    · exact h7 h9
    · omega
end Go.Proofs.YtejbififfceamaaGreatDoor
namespace Go.Proofs.YtejbififfceamaaGreatDoor
set_option linter.unusedSimpArgs false
set_option linter.unusedVariables false
set_option maxRecDepth 100000
open Go.RowKit
set_option maxHeartbeats 1000000 in
theorem lnew_any (w : World) : Calls Tryz.prog 6 #[] w fun e w' => ∃ u F, e = .returned u ∧ SvL F w' u set0 ∧ Below w.heap.size w w' ∧ ∀ k, F k → w.heap.size ≤ k := by
  go_enter Tryz.func6, Tryz.ntmps6
  go_wp2
  go_ret
  refine ⟨_, FootL w.heap.size (.slice none 0 0) [], rfl, ⟨w.heap.size, .slice none 0 0, [], rfl, ⟨?_, MbOwn.nil _ _, fun x hx => by simp at hx, rfl⟩, fun k => Iff.rfl⟩, (Below.refl _ _).alloc (Nat.le_refl _) _, ?_⟩
  · exact World.alloc_heap_new w _
  · rintro k (rfl | hk | ⟨x, hx, _⟩)
    · exact Nat.le_refl _
    · cases hk
    · simp at hx
set_option maxHeartbeats 1000000 in
theorem lfilter_any (mb : Nat) (v : Value) (ps : List (Mbr × Value)) (σ : SetS) (w : World) (h : MsI mb v ps σ w) (b : Bool) : Calls Tryz.prog 12 #[.pointer (some ⟨mb, 0, none⟩), .bool b] w fun e w' => e = .returned (.tuple #[]) ∧ MsI mb v ps (σ.filt b) w' ∧ But (FootL mb v ps) w w' := by
  obtain ⟨c0, c1, c2, c3, f⟩ := h.cells
  have f2 := f 2
  have H := hid h
  clear h f
  go_enter Tryz.func12, Tryz.ntmps12
  go_wp2
  go_end0
  have hg := grown_cellR w ⟨mb, 2, none⟩ (.bool b)
  refine ⟨rfl, H.out.put hg rfl ?_, But.grown hg (fun k e => by injection e with e; exact Or.inl e.symm)⟩
  simp [World.setCell, Array.getElem?_modify, H.out.box, SetS.filt]
set_option maxHeartbeats 1000000 in
theorem ltried_any (mb : Nat) (v : Value) (ps : List (Mbr × Value)) (σ : SetS) (w : World) (h : MsI mb v ps σ w) : Calls Tryz.prog 18 #[.pointer (some ⟨mb, 0, none⟩)] w fun e w' => e = .returned (.int .i64 (σ.tried : Int)) ∧ w' = w := by
  obtain ⟨c0, c1, c2, c3, f⟩ := h.cells
  clear h f
  go_enter Tryz.func18, Tryz.ntmps18
  go_wp2
  go_ret
  exact ⟨rfl, rfl⟩
theorem items_take {σ : SetS} {ps : List (Mbr × Value)} (h : σ.ms = ps.map (·.1)) {i : Nat} {x : Mbr × Value} (hx : ps[i]? = some x) : σ.items.take (i + 1) = σ.items.take i ++ [(x.1.id, x.1.text)] := by
  rw [List.take_add_one]
  congr 1
  unfold SetS.items
  rw [h, List.getElem?_map, List.getElem?_map, hx]
  rfl
set_option maxHeartbeats 4000000 in
theorem llist_any (mb : Nat) (v : Value) (ps : List (Mbr × Value)) (σ : SetS) (w : World) (h : MsI mb v ps σ w) (hσ : σ.Ok) : Calls Tryz.prog 17 #[.pointer (some ⟨mb, 0, none⟩)] w fun e w' => ∃ u, e = .returned u ∧ ItOwn w' w.heap.size u σ.items ∧ Below w.heap.size w w' := by
  obtain ⟨c0, c1, c2, c3, f⟩ := h.cells
  have hl : ps.length ≤ 12 := by rw [h.len]; exact hσ.len
  have HIL : Hid (σ.items.length = ps.length) := by show _ = _; rw [h.len]; simp [SetS.items]
  obtain ⟨a, cap, rfl, hat⟩ := MbOwn.at h.row
  have H := hid h
  have HAT := hid hat
  have HI0 : Hid (ItOwn w w.heap.size (.slice none 0 0) (σ.items.take 0) ∧ Below w.heap.size w w) := ⟨ItOwn.nil _ _, Below.refl _ _⟩
  clear h f hσ hat c1 c2 c3
  go_enter Tryz.func17, Tryz.ntmps17
  go_wp2_with fail
  go_loopw [3, 11] (fun u v wr => ∃ i : Nat, i ≤ ps.length ∧ v = .int .i64 (i : Int) ∧ Hid (ItOwn wr w.heap.size u (σ.items.take i) ∧ Below w.heap.size w wr)) (fun _ v _ => ps.length - (intOf v).toNat)
  case atStart => exact ⟨0, by omega, rfl, HI0⟩
  case round =>
    clear HI0
    obtain ⟨i, hi, rfl, HA⟩ := hrel
    by_cases hil : i < ps.length
    · obtain ⟨x, hx⟩ : ∃ x, ps[i]? = some x := ⟨ps[i], List.getElem?_eq_getElem hil⟩
      have i0 : (0 : Int) ≤ (i : Int) := by omega
      have i1 : (i : Int) < (ps.length : Int) := by omega
      obtain ⟨b, hb⟩ : ∃ b, a = some ⟨b, 0, none⟩ := by
        rcases HAT.out with h | ⟨b, h, _⟩
        · rw [h] at hil; simp at hil
        · exact ⟨b, h⟩
      subst hb
      have HRD : Hid (∀ w', Below w.heap.size w w' → MbAt w' b ps) := fun w' hb => by
        obtain ⟨a', c', e, h⟩ := MbOwn.at (H.out.below hb).row
        injection e with e _ _
        rcases h with h | ⟨b', h1, h2⟩
        · rw [h] at hil; simp at hil
        · rw [← e] at h1
          injection h1 with h1
          injection h1 with h1 _ _
          rw [h1]
          exact h2
      obtain ⟨za, zn, zc, hz⟩ : ∃ a n c, x.2 = .slice a n c := by
        obtain ⟨a, c, e⟩ := owns_form (H.out.pats x (List.mem_of_getElem? hx))
        exact ⟨a, _, c, e⟩
      obtain ⟨m, z⟩ := x
      simp only at hz
      subst hz
      obtain ⟨x0, x1, x2, x3⟩ := HRD.out wr HA.out.2 i _ hx
      simp only at x0 x1 x2 x3
      obtain ⟨T, hT⟩ : ∃ T, T = σ.items.take i := ⟨_, rfl⟩
      have hTl : T.length ≤ 12 := by rw [hT, List.length_take]; omega
      have HST := hid (items_take H.out.ms hx)
      rw [← hT] at HA HST
      obtain ⟨ua, uc, rfl⟩ := HA.out.1.form
      have hbA : Below wr.heap.size wr ((wr.alloc (.cells #[.int .i64 (m.id : Int), .string m.text, .slice za zn zc, .string m.need] 73)).alloc (.cells #[.int .i64 (m.id : Int), .string m.text] 59)) := ((Below.refl _ _).alloc (Nat.le_refl _) _).alloc (by simp) _
      have HO := hid (owns_below HA.out.1 hbA)
      have HBA := hid hbA
      clear hx hT hbA c0
      go_wp2_with (at_builtin; refine wpList_append_it rfl _ _ rfl w.heap.size _ rfl T HO.out (wr.heap.size + 1) 1 (m.id, m.text) rfl (by rw [World.cell?_alloc_at (w := wr.alloc _) _ _ (wr.heap.size + 1) 0 (by simp)]; rfl) (by rw [World.cell?_alloc_at (w := wr.alloc _) _ _ (wr.heap.size + 1) 1 (by simp)]; rfl) (by omega) (by have := HA.out.2.size; simp; omega) ?_; intro g2 cap2 w2 ho2 hg2 _ _)
      have HA2 : Hid (ItOwn w2 w.heap.size (.slice (some ⟨g2, 0, none⟩) (T.length + 1) cap2) (σ.items.take (i + 1)) ∧ Below w.heap.size w w2) := ⟨by rw [HST.out]; exact ho2, (HA.out.2.trans (HBA.out.mono HA.out.2.size)).trans (owns_grown HO.out (by have := HA.out.2.size; simp; omega) hg2)⟩
      exact ⟨⟨i + 1, by omega, by go_num, HA2⟩, by simp [intOf]; omega⟩
    · have g1 : ¬ (i : Int) < (ps.length : Int) := by omega
      have HZ : Hid (ItOwn wr w.heap.size u3 σ.items ∧ Below w.heap.size w wr) := by
        have h := HA.out
        rw [List.take_of_length_le (by have := HIL.out; omega)] at h
        exact h
      clear HA
      go_wp2
      go_ret
      exact ⟨_, rfl, HZ.out.1, HZ.out.2⟩
end Go.Proofs.YtejbififfceamaaGreatDoor
