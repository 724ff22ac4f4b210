/- The program of a pattern as a value that may be; the program of one letter: plain mathematics. What the tables hold lasts. Lists of numbers in memory. What is asked of runs of programs: plain words, no function. What the document asks of package sim: Ends. What the document asks of package sim. The program of one letter, run. What is wrong with a pattern, a text, a place: plain words, no function. Small facts on lists of nodes in memory. What the document asks of package mean. append, of nodes. Steps of the call's own; a builder of steps, in memory. No function of the program. A step as a value; two steps are the same. The landed builder: add, hold, fork. The landed builder: the steps of a part. -/
import Derived.Test.YtgnmlnfddcnkbaaDoorY05
import Derived.Test.YtgnmlnfddcnkbaaDoorY02
import Derived.Test.YtgnmlnfddcnkbaaDoorProg
import Derived.WalkKit
import Derived.Test.YtgnmlnfddcnkbaaDoorY04
import Derived.Test.YtgnmlnfddcnkbaaDoorY03
import Derived.OwnWalk
import Derived.KernelRfl
import Derived.Lib.BufferOwn
import Derived.Deep.RegionLaw
namespace Go.Proofs.YtgnmlnfddcnkbaaDoor
set_option linter.unusedSimpArgs false
set_option linter.unusedVariables false
set_option maxRecDepth 100000
open Go.RowKit
/-- The pattern that is the letter a. -/
abbrev tA : Rx := .leaf ⟨1, kA⟩
theorem tA_ok : tA.Ok := rfl
theorem kA_wf : kA.wf := ⟨by decide, by decide, by decide, by decide⟩
theorem tA_wf : ∀ n ∈ tA.flat, n.wf := by
  intro n hn
  simp [Rx.flat] at hn
  subst hn
  exact ⟨by decide, kA_wf⟩
theorem tA_fault : faultL tA.flat = 0 := by
  rw [faultL_zero]
  refine ⟨by simp [Rx.flat], ?_, ?_⟩
  · intro n hn
    simp [Rx.flat] at hn
    subst hn
    exact ⟨by simp, Or.inl rfl⟩
  · have := endF_flat tA tA_ok [] [] (tA.flat.length + 1) (by omega)
    simpa [endE] using this
theorem tA_ab : EndsR [97, 98] tA 0 [1] := by
  refine ⟨by simp, fun j => ?_⟩
  simp only [Fit, if_true, List.mem_singleton]
  constructor
  · rintro rfl
    exact ⟨97, rfl, kA_ok.2, rfl⟩
  · rintro ⟨c, _, _, h⟩
    omega
theorem tA_a : EndsR [97] tA 0 [1] := by
  refine ⟨by simp, fun j => ?_⟩
  simp only [Fit, if_true, List.mem_singleton]
  constructor
  · rintro rfl
    exact ⟨97, rfl, kA_ok.2, rfl⟩
  · rintro ⟨c, _, _, h⟩
    omega
end Go.Proofs.YtgnmlnfddcnkbaaDoor
namespace Go.Proofs.YtgnmlnfddcnkbaaDoor
set_option linter.unusedSimpArgs false
set_option linter.unusedVariables false
open Go.RowKit
/-- What the tables hold lasts. -/
def Lasts (X : World → Prop) : Prop := ∀ w w', X w → Below w.heap.size w w' → X w'
end Go.Proofs.YtgnmlnfddcnkbaaDoor
namespace Go.Proofs.YtgnmlnfddcnkbaaDoor
set_option linter.unusedSimpArgs false
set_option linter.unusedVariables false
set_option maxRecDepth 100000
open Go.RowKit
/-- The numbers l lie in block b from off on. -/
def IsAt (w : World) (b off : Nat) (l : List Nat) : Prop := ∀ (i x : Nat), l[i]? = some x → w.cell? ⟨b, off + i, none⟩ = some (.int .i64 (x : Int))
/-- A slice that reads as the numbers l. -/
def IsIn (w : World) (v : Value) (l : List Nat) : Prop := ∃ a cap, v = .slice a l.length cap ∧ l.length ≤ maxLen ∧ (l = [] ∨ ∃ b off, a = some ⟨b, off, none⟩ ∧ b < w.heap.size ∧ IsAt w b off l)
theorem IsAt.below {w w' : World} {B b off : Nat} {l : List Nat} (h : IsAt w b off l) (hb : Below B w w') (hlt : b < B) : IsAt w' b off l :=
  fun i n hn => (hb.cell (p := ⟨b, _, none⟩) hlt).trans (h i n hn)
theorem IsIn.below {w w' : World} {v : Value} {l : List Nat} (h : IsIn w v l) (hb : Below w.heap.size w w') : IsIn w' v l := by
  obtain ⟨a, cap, rfl, hm, h | ⟨b, off, rfl, hlt, hn⟩⟩ := h
  · exact ⟨a, cap, rfl, hm, Or.inl h⟩
  · exact ⟨_, cap, rfl, hm, Or.inr ⟨b, off, rfl, Nat.lt_of_lt_of_le hlt hb.size, hn.below hb hlt⟩⟩
theorem isIn_nil (w : World) : IsIn w (.slice none 0 0) [] := ⟨none, 0, rfl, by simp, Or.inl rfl⟩
theorem isIn_form {w : World} {v : Value} {l : List Nat} (h : IsIn w v l) : ∃ a cap, v = .slice a l.length cap ∧ l.length ≤ maxLen := by
  obtain ⟨a, cap, h1, h2, _⟩ := h
  exact ⟨a, cap, h1, h2⟩
theorem drop_at {α : Type} (x : List α) (i : Nat) (n : α) (hn : x[i]? = some n) : x.drop i = n :: x.drop (i + 1) := by
  have hi : i < x.length := by
    rcases Nat.lt_or_ge i x.length with h | h
    · exact h
    · rw [List.getElem?_eq_none h] at hn; cases hn
  rw [List.drop_eq_getElem_cons hi]
  rw [List.getElem?_eq_getElem hi] at hn
  rw [Option.some.inj hn]
/-- New memory of numbers. -/
theorem is_new (w : World) (l : List Nat) (o : Obj) (ho : o = .cells (l.map fun x : Nat => Value.int .i64 (x : Int)).toArray 3 (0, 0)) (hm : l.length ≤ maxLen) : IsIn (w.alloc o) (.slice (some ⟨w.heap.size, 0, none⟩) l.length l.length) l := by
  refine ⟨_, _, rfl, hm, Or.inr ⟨w.heap.size, 0, rfl, by simp, fun i x hx => ?_⟩⟩
  subst ho
  rw [World.cell?_alloc_at (w := w) _ _ w.heap.size (0 + i) rfl]
  simp [hx]
end Go.Proofs.YtgnmlnfddcnkbaaDoor
namespace Go.Proofs.YtgnmlnfddcnkbaaDoor
set_option linter.unusedSimpArgs false
set_option linter.unusedVariables false
set_option maxRecDepth 100000
open Go.RowKit
/-- What is wrong with a program, a text of n bytes, or a place. -/
def simE (ss : List St) (n : Nat) (i : Int) : Int := if stepsF ss = 0 then (if 400 < n then 3 else if 0 ≤ i ∧ i ≤ n then 0 else 1) else stepsF ss
theorem simE_zero (ss : List St) (n : Nat) (i : Int) : simE ss n i = 0 ↔ stepsF ss = 0 ∧ n ≤ 400 ∧ 0 ≤ i ∧ i ≤ n := by
  unfold simE
  by_cases h : stepsF ss = 0
  · rw [if_pos h]
    by_cases h4 : 400 < n
    · rw [if_pos h4]; simp; omega
    · rw [if_neg h4]
      by_cases h3 : 0 ≤ i ∧ i ≤ (n : Int)
      · rw [if_pos h3]; simp [h, h3]; omega
      · rw [if_neg h3]; simp [h]; omega
  · rw [if_neg h]; simp [h]
/-- The greatest end, or -1. -/
def lastI (l : List Nat) : Int := match l.getLast? with
  | none => -1
  | some x => (x : Int)
/-- Of each program all ends are a list. -/
theorem run_total (ss : List St) (s : List UInt8) (i : Nat) : ∃ l, RunR ss s i l := by
  have hm : ∀ j, (∃ q, Rch ss s i q ∧ dn ss s q = true ∧ q % (s.length + 1) = j) → j < s.length + 1 := by
    rintro j ⟨q, _, _, rfl⟩
    exact Nat.mod_lt _ (by omega)
  refine ⟨(List.range (s.length + 1)).filter (fun j => @decide (∃ q, Rch ss s i q ∧ dn ss s q = true ∧ q % (s.length + 1) = j) (Classical.propDecidable _)), ?_, ?_⟩
  · exact List.Pairwise.filter _ List.pairwise_lt_range
  · intro j
    rw [List.mem_filter, List.mem_range]
    constructor
    · rintro ⟨_, h⟩
      exact @of_decide_eq_true _ (Classical.propDecidable _) h
    · intro h
      exact ⟨hm j h, @decide_eq_true _ (Classical.propDecidable _) h⟩
theorem lastI_snoc (l : List Nat) (x : Nat) : lastI (l ++ [x]) = (x : Int) := by
  unfold lastI
  simp
end Go.Proofs.YtgnmlnfddcnkbaaDoor
namespace Go.Proofs.YtgnmlnfddcnkbaaDoor
set_option linter.unusedSimpArgs false
set_option linter.unusedVariables false
set_option maxRecDepth 100000
open Go.RowKit
/-- What the document asks of package sim (X: what the library's tables hold). -/
structure SimC (X : World → Prop) : Prop where
  bad : ∀ ss v (s : ByteArray) (i : Int) w, SsIn w v ss → (∀ n ∈ ss, n.wf) → s.size ≤ maxLen → ¬ simE ss s.size i = 0 → Calls Tryd.prog 9 #[v, .string s, .int .i64 i] w fun e w' => ∃ u, e = .returned (.tuple #[u, errV (simE ss s.size i)]) ∧ Below w.heap.size w w' ∧ IsIn w' u []
  ends : ∀ ss v (s : ByteArray) (i : Nat) l w, X w → SsIn w v ss → (∀ n ∈ ss, n.wf) → simE ss s.size i = 0 → RunR ss s.data.toList i l → Calls Tryd.prog 9 #[v, .string s, .int .i64 (i : Int)] w fun e w' => ∃ u, e = .returned (.tuple #[u, .nilIface]) ∧ Below w.heap.size w w' ∧ IsIn w' u l
end Go.Proofs.YtgnmlnfddcnkbaaDoor
namespace Go.Proofs.YtgnmlnfddcnkbaaDoor
set_option linter.unusedSimpArgs false
set_option linter.unusedVariables false
set_option maxRecDepth 100000
open Go.RowKit
/-- Of Longest. -/
structure SimL (X : World → Prop) : Prop where
  bad : ∀ ss v (s : ByteArray) (i : Int) w, SsIn w v ss → (∀ n ∈ ss, n.wf) → s.size ≤ maxLen → ¬ simE ss s.size i = 0 → Calls Tryd.prog 13 #[v, .string s, .int .i64 i] w fun e w' => e = .returned (.tuple #[.int .i64 0, errV (simE ss s.size i)]) ∧ Below w.heap.size w w'
  long : ∀ ss v (s : ByteArray) (i : Nat) l w, X w → SsIn w v ss → (∀ n ∈ ss, n.wf) → simE ss s.size i = 0 → RunR ss s.data.toList i l → Calls Tryd.prog 13 #[v, .string s, .int .i64 (i : Int)] w fun e w' => e = .returned (.tuple #[.int .i64 (lastI l), .nilIface]) ∧ Below w.heap.size w w'
end Go.Proofs.YtgnmlnfddcnkbaaDoor
namespace Go.Proofs.YtgnmlnfddcnkbaaDoor
set_option linter.unusedSimpArgs false
set_option linter.unusedVariables false
set_option maxRecDepth 100000
open Go.RowKit
theorem nsIn_one (w : World) (n : Nd) : NsIn (w.alloc (.cells #[.int .i64 n.op, .int .u64 n.c.a, .int .u64 n.c.b, .int .u64 n.c.c, .int .u64 n.c.d] 33)) (.slice (some ⟨w.heap.size, 0, none⟩) 1 1) [n] := by
  refine ⟨_, 1, rfl, by simp [maxLen], Or.inr ⟨w.heap.size, 0, rfl, by simp, ?_⟩⟩
  intro i m hm
  cases i with
  | zero =>
    simp at hm
    subst hm
    refine ⟨?_, ?_, ?_, ?_, ?_⟩ <;> simp
  | succ i => simp at hm
theorem isIn_one (w : World) (x : Nat) : IsIn (w.alloc (.cells #[.int .i64 (x : Int)] 3)) (.slice (some ⟨w.heap.size, 0, none⟩) 1 1) [x] := by
  refine ⟨_, 1, rfl, by simp [maxLen], Or.inr ⟨w.heap.size, 0, rfl, by simp, ?_⟩⟩
  intro i m hm
  cases i with
  | zero =>
    simp at hm
    subst hm
    simp
  | succ i => simp at hm
/-- The program of the letter a, run. -/
theorem tA_run {X : World → Prop} (P : SimC X) (s : ByteArray) (hs : s.size ≤ 400) (hl : EndsR s.data.toList tA 0 [1]) (v : Value) (w : World) (hX : X w) (h : SsIn w v tA.prog) :
    Calls Tryd.prog 9 #[v, .string s, .int .i64 0] w fun e w' => ∃ u, e = .returned (.tuple #[u, .nilIface]) ∧ Below w.heap.size w w' ∧ IsIn w' u [1] := by
  have hz : simE tA.prog s.size (0 : Nat) = 0 := (simE_zero _ _ _).2 ⟨prog_fault tA (by simp [Rx.flat]), hs, by simp, by simp⟩
  exact P.ends tA.prog v s 0 [1] w hX h (prog_wf tA (by simp [Rx.flat]) tA_wf) hz ((run_ends tA tA_ok (fun n hn => by simp [Rx.flat] at hn; subst hn; simp) s.data.toList 0 (Nat.zero_le _) [1]).2 hl)
/-- Its greatest end. -/
theorem tA_long {X : World → Prop} (L : SimL X) (s : ByteArray) (hs : s.size ≤ 400) (hl : EndsR s.data.toList tA 0 [1]) (v : Value) (w : World) (hX : X w) (h : SsIn w v tA.prog) :
    Calls Tryd.prog 13 #[v, .string s, .int .i64 0] w fun e w' => e = .returned (.tuple #[.int .i64 1, .nilIface]) ∧ Below w.heap.size w w' := by
  have hz : simE tA.prog s.size (0 : Nat) = 0 := (simE_zero _ _ _).2 ⟨prog_fault tA (by simp [Rx.flat]), hs, by simp, by simp⟩
  exact L.long tA.prog v s 0 [1] w hX h (prog_wf tA (by simp [Rx.flat]) tA_wf) hz ((run_ends tA tA_ok (fun n hn => by simp [Rx.flat] at hn; subst hn; simp) s.data.toList 0 (Nat.zero_le _) [1]).2 hl)
end Go.Proofs.YtgnmlnfddcnkbaaDoor
namespace Go.Proofs.YtgnmlnfddcnkbaaDoor
set_option linter.unusedSimpArgs false
set_option linter.unusedVariables false
set_option maxRecDepth 100000
open Go.RowKit
/-- What is wrong with a pattern or a text of n bytes. -/
def meanF (ns : List Nd) (n : Nat) : Int := if faultL ns = 0 then (if 400 < n then 3 else 0) else faultL ns
/-- What is wrong with them or a place. -/
def meanE (ns : List Nd) (n : Nat) (i : Int) : Int := if meanF ns n = 0 then (if 0 ≤ i ∧ i ≤ n then 0 else 1) else meanF ns n
theorem meanF_zero (ns : List Nd) (n : Nat) : meanF ns n = 0 ↔ faultL ns = 0 ∧ n ≤ 400 := by
  unfold meanF
  by_cases h : faultL ns = 0
  · rw [if_pos h]
    by_cases h4 : 400 < n
    · rw [if_pos h4]; simp; omega
    · rw [if_neg h4]; simp [h]; omega
  · rw [if_neg h]; simp [h]
theorem meanE_zero (ns : List Nd) (n : Nat) (i : Int) : meanE ns n i = 0 ↔ faultL ns = 0 ∧ n ≤ 400 ∧ 0 ≤ i ∧ i ≤ n := by
  unfold meanE
  by_cases h : meanF ns n = 0
  · rw [if_pos h]
    obtain ⟨h1, h2⟩ := (meanF_zero ns n).1 h
    by_cases h3 : 0 ≤ i ∧ i ≤ n
    · rw [if_pos h3]; simp [h1, h2, h3]
    · rw [if_neg h3]; simp [h1, h2]; omega
  · rw [if_neg h]
    constructor
    · intro h'; exact absurd h' h
    · rintro ⟨h1, h2, _⟩; exact absurd ((meanF_zero ns n).2 ⟨h1, h2⟩) h
end Go.Proofs.YtgnmlnfddcnkbaaDoor
namespace Go.Proofs.YtgnmlnfddcnkbaaDoor
set_option linter.unusedSimpArgs false
set_option linter.unusedVariables false
set_option maxRecDepth 100000
open Go.RowKit

theorem nsIn_nil (w : World) : NsIn w (.slice none 0 0) [] := ⟨none, 0, rfl, by simp, Or.inl rfl⟩
theorem nsIn_form {w : World} {v : Value} {ns : List Nd} (h : NsIn w v ns) : ∃ a cap, v = .slice a ns.length cap ∧ ns.length ≤ maxLen := by
  obtain ⟨a, cap, h1, h2, _⟩ := h
  exact ⟨a, cap, h1, h2⟩
theorem nsEq_refl (x : List Nd) : nsEq x x = true := (nsEq_iff x x).2 rfl
end Go.Proofs.YtgnmlnfddcnkbaaDoor
namespace Go.Proofs.YtgnmlnfddcnkbaaDoor
set_option linter.unusedSimpArgs false
set_option linter.unusedVariables false
set_option maxRecDepth 100000
open Go.RowKit
/-- What the document asks of Ends. -/
structure MeanN : Prop where
  bad : ∀ ns v (s : ByteArray) (i : Int) w, NsIn w v ns → (∀ n ∈ ns, n.wf) → s.size ≤ maxLen → ¬ meanE ns s.size i = 0 → Calls Tryd.prog 12 #[v, .string s, .int .i64 i] w fun e w' => ∃ u, e = .returned (.tuple #[u, errV (meanE ns s.size i)]) ∧ Below w.heap.size w w' ∧ IsIn w' u []
  ends : ∀ (t : Rx) v (s : ByteArray) (i : Nat) l w, Tab w → t.Ok → NsIn w v t.flat → (∀ n ∈ t.flat, n.wf) → meanE t.flat s.size i = 0 → EndsR s.data.toList t i l → Calls Tryd.prog 12 #[v, .string s, .int .i64 (i : Int)] w fun e w' => ∃ u, e = .returned (.tuple #[u, .nilIface]) ∧ Below w.heap.size w w' ∧ IsIn w' u l
end Go.Proofs.YtgnmlnfddcnkbaaDoor
namespace Go.Proofs.YtgnmlnfddcnkbaaDoor
set_option linter.unusedSimpArgs false
set_option linter.unusedVariables false
set_option maxRecDepth 100000
open Go.RowKit

theorem grown_cells {w4 w5 : World} {r : Nat} {xs : List Value} (h : w4.grownBy w5 (some r)) {g : Nat} (hg : g < w4.heap.size) (hne : g ≠ r) (hc : ∀ (j : Nat) u, xs[j]? = some u → w4.cell? ⟨g, j, none⟩ = some u) : ∀ (j : Nat) u, xs[j]? = some u → w5.cell? ⟨g, j, none⟩ = some u := by
  intro j u hj
  rw [World.cell?_of_block (a := ⟨g, j, none⟩) (h.block g hg (by intro e; injection e with e; exact hne e))]
  exact hc j u hj
/-- append, of nodes of the call's own to nodes of the call's own. -/
theorem wpList_append_ns {ops : Array Oper} {rest : List Oper} {o : Oper} {a : Act} {Q : Exit → Act → World → Prop} {w : World} (hgd : o.guard = none) (s x : Operand)
    (ho : o.op = .call { callee := .builtin .append, args := #[s, x], argTypes := #[22, 22] })
    (B : Nat) (v : Value) (hs : a.eval s = v) (ns : List Nd) (hown : NsOwn w B v ns) (g2 m2 c2 : Nat) (ms : List Nd) (hx : a.eval x = .slice (some ⟨g2, 0, none⟩) m2 c2) (hm2 : m2 = ms.length)
    (hnews : ∀ j u, (nsCells ms)[j]? = some u → w.cell? ⟨g2, j, none⟩ = some u) (hm : 0 < ms.length) (hbytes : (ns.length + ms.length) * 40 ≤ 140737488355328) (hbase : B ≤ w.heap.size)
    (h : ∀ g cap w', NsOwn w' B (.slice (some ⟨g, 0, none⟩) (ns.length + ms.length) cap) (ns ++ ms) → w.grownBy w' v.ownBlock → B ≤ g → g < w'.heap.size → wpList Tryd.prog ops Q rest (a.put o.dst (.slice (some ⟨g, 0, none⟩) (ns.length + ms.length) cap)) w') : wpList Tryd.prog ops Q (o :: rest) a w := by
  subst hm2
  have hinfo : (Tryd.prog.info? 33).map (fun i => (i.zero, i.size, i.bytes)) = some (some (.agg #[.int .i64 0, .int .u64 0, .int .u64 0, .int .u64 0, .int .u64 0]), 5, 40) := by kernel_rfl
  obtain ⟨i0, hi, hz0, hz1, hz2⟩ := info_parts hinfo
  refine wpList_append_lies w hgd s x 22 ho B 33 i0 _ 5 40 Tryd.underlying22 hi hz0 hz1 hz2 rfl (by decide) v ns.length (nsCells ns) hs hown ⟨g2, 0, none⟩ ms.length c2 (nsCells ms) hx (nsCells_len ms) ?_ (nsCells_one ms) hm (by unfold maxLen; omega) hbytes hbase w.heap.size rfl ?_
  · intro j u hj
    have e : (⟨g2, 0, none⟩ : Addr).add j = ⟨g2, j, none⟩ := by
      rcases j with _ | j <;> simp [Addr.add]
    rw [e]
    exact hnews j u hj
  · intro g cap w' h1 h2 h3 h4
    have e : NsOwn w' B (.slice (some ⟨g, 0, none⟩) (ns.length + ms.length) cap) (ns ++ ms) := by
      unfold NsOwn
      rw [nsCells_append, List.length_append]
      exact h1
    have hg : B ≤ g := by
      rcases h3 with h3 | h3
      · rcases hown.2 with ⟨hv, _⟩ | ⟨g', cap', cur, hv, hb, _⟩
        · rw [hv] at h3; cases h3
        · rw [hv] at h3
          injection h3 with h3
          simp at h3
          omega
      · omega
    exact h g cap w' e h2 hg h4
theorem NsOwn.keptG {w w' : World} {B g : Nat} {v : Value} {ns : List Nd} (h : NsOwn w B v ns) (hg : w.grownBy w' (some g)) (hlt : g < B) : NsOwn w' B v ns := by
  refine World.ownsRow.kept h hg ?_
  rcases h.2 with ⟨hv, _⟩ | ⟨b, cap, cur, hv, hb, _⟩
  · rw [hv]; exact Or.inl rfl
  · rw [hv]
    refine Or.inr ?_
    intro e
    injection e with e
    simp only at e
    omega
end Go.Proofs.YtgnmlnfddcnkbaaDoor
namespace Go.Proofs.YtgnmlnfddcnkbaaDoor
set_option linter.unusedSimpArgs false
set_option linter.unusedVariables false
set_option maxRecDepth 100000
open Go.RowKit

/-- A step's cells. -/
def stCells (n : St) : List Value := [.int .i64 n.op, .int .u64 n.c.a, .int .u64 n.c.b, .int .u64 n.c.c, .int .u64 n.c.d, .int .i64 n.x, .int .i64 n.y]
def ssCells : List St → List Value
  | [] => []
  | n :: r => stCells n ++ ssCells r
theorem ssCells_append : ∀ (x y : List St), ssCells (x ++ y) = ssCells x ++ ssCells y
  | [], y => rfl
  | n :: r, y => by simp [ssCells, ssCells_append r y]
theorem ssCells_len : ∀ (x : List St), (ssCells x).length = x.length * 7
  | [] => rfl
  | n :: r => by simp [ssCells, stCells, ssCells_len r]; omega
theorem ssCells_one : ∀ (x : List St), ∀ u ∈ ssCells x, u.oneCell' = true
  | [], u, h => by simp [ssCells] at h
  | n :: r, u, h => by
    rw [ssCells, List.mem_append] at h
    rcases h with h | h
    · simp [stCells] at h
      rcases h with rfl | rfl | rfl | rfl | rfl | rfl | rfl <;> rfl
    · exact ssCells_one r u h
theorem ssCells_at : ∀ (x : List St) (i : Nat) (n : St), x[i]? = some n → ∀ t, t < 7 → (ssCells x)[i * 7 + t]? = (stCells n)[t]?
  | [], i, n, h => by simp at h
  | m :: r, 0, n, h => by
    simp at h
    subst h
    intro t ht
    rw [ssCells, List.getElem?_append_left (by simp [stCells]; omega), Nat.zero_mul, Nat.zero_add]
  | m :: r, i + 1, n, h => by
    intro t ht
    rw [ssCells, List.getElem?_append_right (by simp [stCells]; omega), ← ssCells_at r i n (by simpa using h) t ht]
    congr 1
    simp [stCells]
    omega
/-- A slice of the call's own that holds the steps ss. -/
def SsOwn (w : World) (base : Nat) (v : Value) (ss : List St) : Prop := w.ownsRow base 52 7 v ss.length (ssCells ss)
theorem SsOwn.below {w w' : World} {base : Nat} {v : Value} {ss : List St} (h : SsOwn w base v ss) (hb : Below w.heap.size w w') : SsOwn w' base v ss := by
  refine World.ownsRow.kept (row := none) h ⟨hb.os, hb.tape, hb.output, hb.size, fun k hk _ => hb.block k hk⟩ ?_
  cases hv : v.ownBlock with
  | none => exact Or.inl rfl
  | some x => exact Or.inr (by simp)
theorem SsOwn.form {w : World} {base : Nat} {v : Value} {ss : List St} (h : SsOwn w base v ss) (h0 : 0 < ss.length) : ∃ g cap, v = .slice (some ⟨g, 0, none⟩) ss.length cap ∧ base ≤ g ∧ g < w.heap.size ∧ ss.length ≤ cap ∧ ∃ cur, w.heap[g]? = some (.cells cur 52 (0, 0)) ∧ cur.size = cap * 7 ∧ cur.toList.take (ss.length * 7) = ssCells ss := by
  rcases h.2 with ⟨hv, hn⟩ | ⟨g, cap, cur, hv, hb, hh, hnc, hcm, hcs, htk⟩
  · omega
  · refine ⟨g, cap, hv, hb, ?_, hnc, cur, hh, hcs, htk⟩
    rcases Nat.lt_or_ge g w.heap.size with hlt | hge
    · exact hlt
    · rw [Array.getElem?_eq_none hge] at hh; cases hh
theorem SsOwn.len {w : World} {base : Nat} {v : Value} {ss : List St} (h : SsOwn w base v ss) : ∃ a cap, v = .slice a ss.length cap := by
  rcases h.2 with ⟨hv, hn⟩ | ⟨g, cap, cur, hv, _⟩
  · exact ⟨none, 0, by rw [hv, hn]⟩
  · exact ⟨_, cap, hv⟩
theorem SsOwn.ne {w : World} {B : Nat} {v : Value} {ss : List St} (h : SsOwn w B v ss) (k : Nat) (hk : v.ownBlock = some k) : B ≤ k ∧ k < w.heap.size := by
  rcases h.2 with ⟨hv, _⟩ | ⟨b, cap, cur, hv, hb, hh, _⟩
  · rw [hv] at hk; cases hk
  · rw [hv] at hk
    injection hk with hk
    simp only at hk
    subst hk
    refine ⟨hb, ?_⟩
    rcases Nat.lt_or_ge b w.heap.size with hlt | hge
    · exact hlt
    · rw [Array.getElem?_eq_none hge] at hh; cases hh
theorem SsOwn.keptG {w w' : World} {B g : Nat} {v : Value} {ss : List St} (h : SsOwn w B v ss) (hg : w.grownBy w' (some g)) (hlt : g < B) : SsOwn w' B v ss := by
  refine World.ownsRow.kept h hg ?_
  rcases h.2 with ⟨hv, _⟩ | ⟨b, cap, cur, hv, hb, _⟩
  · rw [hv]; exact Or.inl rfl
  · rw [hv]
    refine Or.inr ?_
    intro e
    injection e with e
    simp only at e
    omega
theorem SsOwn.isIn {w : World} {base : Nat} {v : Value} {ss : List St} (h : SsOwn w base v ss) (hm : ss.length ≤ maxLen) : SsIn w v ss := by
  obtain ⟨a, cap, hv⟩ := h.len
  refine ⟨a, cap, hv, hm, ?_⟩
  by_cases h0 : ss.length = 0
  · exact Or.inl (List.length_eq_zero_iff.1 h0)
  · obtain ⟨g, cap', hv', _, hg, hlc, cur, hh, hcs, htk⟩ := h.form (by omega)
    rw [hv] at hv'
    injection hv' with hv' _ _
    subst hv'
    refine Or.inr ⟨g, 0, rfl, hg, ?_⟩
    intro i n hn
    have hi : i < ss.length := by
      rcases Nat.lt_or_ge i ss.length with h' | h'
      · exact h'
      · rw [List.getElem?_eq_none h'] at hn; cases hn
    have hc : ∀ t, t < 7 → ∀ u, (stCells n)[t]? = some u → w.cell? ⟨g, 0 + i * 7 + t, none⟩ = some u := by
      intro t ht u hu
      rw [Lib.cell_of_heap hh, Nat.zero_add]
      have e := ssCells_at ss i n hn t ht
      rw [hu, ← htk, List.getElem?_take_of_lt (by omega)] at e
      simpa using e
    exact ⟨hc 0 (by omega) _ rfl, hc 1 (by omega) _ rfl, hc 2 (by omega) _ rfl, hc 3 (by omega) _ rfl, hc 4 (by omega) _ rfl, hc 5 (by omega) _ rfl, hc 6 (by omega) _ rfl⟩
theorem info_step : ∃ i0, Tryd.prog.info? 52 = some i0 ∧ i0.zero = some (.agg #[.int .i64 0, .int .u64 0, .int .u64 0, .int .u64 0, .int .u64 0, .int .i64 0, .int .i64 0]) ∧ i0.size = 7 ∧ i0.bytes = 56 := by
  have hinfo : (Tryd.prog.info? 52).map (fun i => (i.zero, i.size, i.bytes)) = some (some (.agg #[.int .i64 0, .int .u64 0, .int .u64 0, .int .u64 0, .int .u64 0, .int .i64 0, .int .i64 0]), 7, 56) := by kernel_rfl
  exact info_parts hinfo
/-- append, of a step, at a step of a region that draws. -/
theorem step_append_ss {ops : Array Oper} {o : Oper} {a : Act} {K : Act → World → Prop} {Q : Exit → Act → World → Prop} {E : Prop} {w : World} (hgd : o.guard = none) (s x : Operand)
    (ho : o.op = .call { callee := .builtin .append, args := #[s, x], argTypes := #[23, 23] })
    (B : Nat) (v : Value) (hs : a.eval s = v) (ss : List St) (hown : SsOwn w B v ss) (g2 c2 : Nat) (n : St) (hx : a.eval x = .slice (some ⟨g2, 0, none⟩) 1 c2)
    (hnews : ∀ j u, (ssCells [n])[j]? = some u → w.cell? ⟨g2, j, none⟩ = some u) (hbytes : (ss.length + 1) * 56 ≤ 140737488355328) (hbase : B ≤ w.heap.size)
    (h : ∀ g cap w', SsOwn w' B (.slice (some ⟨g, 0, none⟩) (ss.length + 1) cap) (ss ++ [n]) → w.grownBy w' v.ownBlock → B ≤ g → g < w'.heap.size → K (a.put o.dst (.slice (some ⟨g, 0, none⟩) (ss.length + 1) cap)) w') :
    if Region.wanted o (yielded ops a.tmps) = true then Oper.wp Tryd.prog o a w K Q else E := by
  obtain ⟨i0, hi, hz0, hz1, hz2⟩ := info_step
  refine step_append_lies w hgd s x 23 ho B 52 i0 _ 7 56 Tryd.underlying23 hi hz0 hz1 hz2 rfl (by decide) v ss.length (ssCells ss) hs hown ⟨g2, 0, none⟩ 1 c2 (ssCells [n]) hx (ssCells_len [n]) ?_ (ssCells_one [n]) (by omega) (by unfold maxLen; omega) hbytes hbase w.heap.size rfl ?_
  · intro j u hj
    rw [Addr.add_lit, Nat.zero_add]
    exact hnews j u hj
  · intro g cap w' h1 h2 h3 h4
    have e : SsOwn w' B (.slice (some ⟨g, 0, none⟩) (ss.length + 1) cap) (ss ++ [n]) := by
      unfold SsOwn
      rw [ssCells_append, List.length_append]
      exact h1
    have hg : B ≤ g := by
      rcases h3 with h3 | h3
      · rcases hown.2 with ⟨hv, _⟩ | ⟨g', cap', cur, hv, hb, _⟩
        · rw [hv] at h3; cases h3
        · rw [hv] at h3
          injection h3 with h3
          simp at h3
          omega
      · omega
    exact h g cap w' e h2 hg h4

/-- Block g holds a builder. -/
def Bld (w : World) (g : Nat) (nv sv : Value) : Prop := w.heap[g]? = some (.cells #[nv, sv] 61 (0, 0))
theorem Bld.all {w : World} {g : Nat} {nv sv : Value} (h : Bld w g nv sv) : w.cell? ⟨g, 0, none⟩ = some nv ∧ w.cell? ⟨g, 1, none⟩ = some sv ∧ w.frozen? ⟨g, 1, none⟩ = false := by
  refine ⟨?_, ?_, Lib.frozen_of_heap h 1⟩ <;> (rw [Lib.cell_of_heap h]; rfl)
theorem Bld.lt {w : World} {g : Nat} {nv sv : Value} (h : Bld w g nv sv) : g < w.heap.size := by
  rcases Nat.lt_or_ge g w.heap.size with h' | h'
  · exact h'
  · simp [Bld, Array.getElem?_eq_none h'] at h
theorem Bld.setSteps {w : World} {g : Nat} {nv sv : Value} (h : Bld w g nv sv) (u : Value) : Bld (w.setCell ⟨g, 1, none⟩ u) g nv u := by
  simp only [Bld] at h ⊢
  simp [World.setCell, Array.getElem?_modify, h]
theorem Bld.below {w w' : World} {g : Nat} {nv sv : Value} (h : Bld w g nv sv) (hb : Below w.heap.size w w') : Bld w' g nv sv := (hb.block g h.lt).trans h
theorem Bld.alloc {w : World} {g : Nat} {nv sv : Value} (h : Bld w g nv sv) (o : Obj) : Bld (w.alloc o) g nv sv := (Below.heap_alloc w o g h.lt).trans h
theorem bgrown_cell (w : World) (g : Nat) (i : Nat) (v : Value) : w.grownBy (w.setCell ⟨g, i, none⟩ v) (some g) := Lib.grownBy_setB (World.grownBy.refl w _) i v
end Go.Proofs.YtgnmlnfddcnkbaaDoor
namespace Go.Proofs.YtgnmlnfddcnkbaaDoor
set_option linter.unusedSimpArgs false
set_option linter.unusedVariables false
set_option maxRecDepth 100000
open Go.RowKit
/-- A step as a value. -/
abbrev St.v (n : St) : Value := .agg #[.int .i64 n.op, .int .u64 n.c.a, .int .u64 n.c.b, .int .u64 n.c.c, .int .u64 n.c.d, .int .i64 n.x, .int .i64 n.y]
abbrev St.arr (n : St) : Array Value := #[.int .i64 n.op, .int .u64 n.c.a, .int .u64 n.c.b, .int .u64 n.c.c, .int .u64 n.c.d, .int .i64 n.x, .int .i64 n.y]
def St.eqb (a b : St) : Bool := a.op == b.op && (a.c.eqb b.c && (a.x == b.x && a.y == b.y))
theorem list4st {α : Type} (l : List α) (h : l.length = 4) : ∃ a b c d, l = [a, b, c, d] := by
  match l, h with
  | [a, b, c, d], _ => exact ⟨a, b, c, d, rfl⟩
theorem eq7d (d : Nat) (x y : St) (w : World) : (Op.equalIn (d + 1 + 1 + 1) 52 x.v y.v).run Tryd.prog w = .ok (x.eqb y) w := by
  have hs : Tryd.prog.underlying 52 = some (.struct (Tryd.prog.fieldsOf 52)) := by kernel_rfl
  have hp : Tryd.prog.stoodInHeld 52 = false := by kernel_rfl
  rw [run_equalIn_struct w (d + 1 + 1) _ _ _ hs hp]
  have hf : (Tryd.prog.fieldsOf 52).toList.map (fun f => (f.type, f.offset, f.name == "_")) = [(3, 0, false), (30, 1, false), (3, 5, false), (3, 6, false)] := by kernel_rfl
  generalize (Tryd.prog.fieldsOf 52).toList = fs at hf
  obtain ⟨f0, f1, f2, f3, rfl⟩ := list4st fs (by have := congrArg List.length hf; simpa using this)
  · simp only [List.map_cons, List.map_nil, List.cons.injEq, Prod.mk.injEq, and_true] at hf
    obtain ⟨⟨t0, o0, n0⟩, ⟨t1, o1, n1⟩, ⟨t2, o2, n2⟩, ⟨t3, o3, n3⟩⟩ := hf
    have n0' : f0.name ≠ "_" := by simpa using n0
    have n1' : f1.name ≠ "_" := by simpa using n1
    have n2' : f2.name ≠ "_" := by simpa using n2
    have n3' : f3.name ≠ "_" := by simpa using n3
    have hi : ∀ (a b : Int) (w : World), (Op.equalIn (d + 1 + 1) 3 (.int .i64 a) (.int .i64 b)).run Tryd.prog w = .ok (a == b) w := fun a b w => run_equalIn_int w (d + 1) 3 .i64 .i64 a b Tryd.underlying3
    have hc : ∀ (x y : C4) (w : World), (Op.equalIn (d + 1 + 1) 30 x.v y.v).run Tryd.prog w = .ok (x.eqb y) w := fun x y w => eq4d d x y w
    have q0 : ∀ (z : St) (w : World), (part 3 z.arr 0).run Tryd.prog w = .ok (.int .i64 z.op) w := fun _ _ => by kernel_rfl
    have q1 : ∀ (z : St) (w : World), (part 30 z.arr 1).run Tryd.prog w = .ok z.c.v w := fun _ _ => by kernel_rfl
    have q2 : ∀ (z : St) (w : World), (part 3 z.arr 5).run Tryd.prog w = .ok (.int .i64 z.x) w := fun _ _ => by kernel_rfl
    have q3 : ∀ (z : St) (w : World), (part 3 z.arr 6).run Tryd.prog w = .ok (.int .i64 z.y) w := fun _ _ => by kernel_rfl
    simp only [Op.eqFields, t0, o0, t1, o1, t2, o2, t3, o3, ne_eq, n0', n1', n2', n3', not_false_eq_true, if_true, Sem.run_bind, q0, q1, q2, q3, Result.andThen_ok, hi, hc, Sem.run_ite, Sem.run_pure]
    unfold St.eqb
    cases h1 : x.op == y.op <;> cases h2 : x.c.eqb y.c <;> cases h3 : x.x == y.x <;> cases h4 : x.y == y.y <;> simp [q1, q2, q3, hc, hi, h2, h3, h4]
theorem eqS (x y : St) (w : World) : (Op.equalIn 10000 52 x.v y.v).run Tryd.prog w = .ok (x.eqb y) w := eq7d 9997 x y w
end Go.Proofs.YtgnmlnfddcnkbaaDoor
namespace Go.Proofs.YtgnmlnfddcnkbaaDoor
set_option linter.unusedSimpArgs false
set_option linter.unusedVariables false
set_option maxRecDepth 100000
open Go.RowKit
/-- The builder at g has the nodes nv, and the steps ss so far. -/
structure BB (w : World) (g : Nat) (nv : Value) (ss : List St) : Prop where
  of : ∃ sv, Bld w g nv sv ∧ SsOwn w (g + 1) sv ss
theorem Bld.grownS {w w' : World} {g B : Nat} {nv sv u : Value} {ss : List St} (h : Bld w g nv sv) (hO : SsOwn w B u ss) (hB : g < B) (hg : w.grownBy w' u.ownBlock) : Bld w' g nv sv := by
  refine (hg.block g h.lt ?_).trans h
  intro e
  have := (hO.ne g e.symm).1
  omega
theorem below_grownS {w w' : World} {g B : Nat} {u : Value} {ss : List St} (hO : SsOwn w B u ss) (hB : g ≤ B) (hgs : g ≤ w.heap.size) (hg : w.grownBy w' u.ownBlock) : Below g w w' :=
  ⟨hg.os, hg.tape, hg.output, hg.size, fun k hk => hg.block k (by omega) (by
    intro e
    have := (hO.ne k e.symm).1
    omega)⟩
set_option maxHeartbeats 2000000 in
theorem add_any (g : Nat) (nv : Value) (ss : List St) (n : St) (w : World) (h : BB w g nv ss) (hm : ss.length ≤ 1000) :
    Calls Tryd.prog 23 #[.pointer (some ⟨g, 0, none⟩), n.v] w fun e w' => e = .returned (.tuple #[]) ∧ BB w' g nv (ss ++ [n]) ∧ Below g w w' := by
  obtain ⟨sv, hb, hO⟩ := h.of
  have hg := hb.lt
  obtain ⟨a0, cap0, hsv⟩ := hO.len
  have n0 : ¬ g = w.heap.size := by omega
  have n1 : ¬ w.heap.size = g := by omega
  have n2 : ¬ w.heap.size + 1 = g := by omega
  have n3 : ¬ g = w.heap.size + 1 := by omega
  obtain ⟨c0, c1, f1⟩ := hb.all
  have k1 : ∀ o, (w.alloc o).cell? ⟨g, 1, none⟩ = some sv := fun o => (hb.alloc o).all.2.1
  have k2 : ∀ o o', ((w.alloc o).alloc o').cell? ⟨g, 1, none⟩ = some sv := fun o o' => ((hb.alloc o).alloc o').all.2.1
  have AO : Hid (∀ W : World, W = ((w.alloc (.cells #[.int .i64 n.op, .int .u64 n.c.a, .int .u64 n.c.b, .int .u64 n.c.c, .int .u64 n.c.d, .int .i64 n.x, .int .i64 n.y] 52)).alloc (.cells #[.int .i64 n.op, .int .u64 n.c.a, .int .u64 n.c.b, .int .u64 n.c.c, .int .u64 n.c.d, .int .i64 n.x, .int .i64 n.y] 52)).drew → SsOwn W (g + 1) sv ss ∧ (∀ j u, (ssCells [n])[j]? = some u → W.cell? ⟨w.heap.size + 1, j, none⟩ = some u) ∧ g + 1 ≤ W.heap.size ∧ Bld W g nv sv ∧ Below g w W) := by
    rintro _ rfl
    have hB2 : Below w.heap.size w ((w.alloc (.cells #[.int .i64 n.op, .int .u64 n.c.a, .int .u64 n.c.b, .int .u64 n.c.c, .int .u64 n.c.d, .int .i64 n.x, .int .i64 n.y] 52)).alloc (.cells #[.int .i64 n.op, .int .u64 n.c.a, .int .u64 n.c.b, .int .u64 n.c.c, .int .u64 n.c.d, .int .i64 n.x, .int .i64 n.y] 52)).drew := (((Below.refl _ _).alloc (Nat.le_refl _) _).alloc (by simp) _).drew
    refine ⟨hO.below hB2, ?_, ?_, hb.below hB2, hB2.mono (by omega)⟩
    · intro j u hj
      show ((w.alloc _).alloc _).cell? _ = _
      rw [World.cell?_alloc_at (w := w.alloc (.cells #[.int .i64 n.op, .int .u64 n.c.a, .int .u64 n.c.b, .int .u64 n.c.c, .int .u64 n.c.d, .int .i64 n.x, .int .i64 n.y] 52)) _ _ (w.heap.size + 1) j (by simp)]
      simpa [ssCells, stCells] using hj
    · have := hB2.size
      omega
  clear h hO hsv hb
  go_enter Tryd.func23, Tryd.ntmps23
  go_wp2_with fail
  go_region_law (first | (refine step_append_ss (by rfl) _ _ (by rfl) (g + 1) sv (by rfl) ss (AO.out _ rfl).1 (w.heap.size + 1) 1 n (by rfl) (AO.out _ rfl).2.1 (by omega) (AO.out _ rfl).2.2.1 ?_; intro g3 cap3 w3 ho3 hg3 hb3 hl3; have HO3 := hid ho3; have hp3 := (AO.out _ rfl).2.2.2.1.grownS (AO.out _ rfl).1 (by omega) hg3; have HB3 := hid ((AO.out _ rfl).2.2.2.2.trans (below_grownS (AO.out _ rfl).1 (by omega) (by have := (AO.out _ rfl).2.2.1; omega) hg3)); have HP3 := hid hp3; obtain ⟨d0, d1, e1⟩ := hp3.all; clear ho3 hg3 hb3 hl3 hp3))
  all_goals go_wp2
  all_goals go_end0
  all_goals exact ⟨rfl, ⟨_, HP3.out.setSteps _, HO3.out.keptG (bgrown_cell _ _ _ _) (by omega)⟩, HB3.out.setCell (Nat.le_refl _) _⟩
theorem BB.below {w w' : World} {g : Nat} {nv : Value} {ss : List St} (h : BB w g nv ss) (hb : Below w.heap.size w w') : BB w' g nv ss := by
  obtain ⟨sv, h1, h2⟩ := h.of
  exact ⟨sv, h1.below hb, h2.below hb⟩
theorem BB.lt {w : World} {g : Nat} {nv : Value} {ss : List St} (h : BB w g nv ss) : g < w.heap.size := by
  obtain ⟨sv, h1, _⟩ := h.of
  exact h1.lt
/-- What lies in memory of a builder, and the length of its steps. -/
theorem BB.read {w : World} {g : Nat} {nv : Value} {ss : List St} (h : BB w g nv ss) : ∃ a cap, w.cell? ⟨g, 0, none⟩ = some nv ∧ w.cell? ⟨g, 1, none⟩ = some (.slice a ss.length cap) := by
  obtain ⟨sv, h1, h2⟩ := h.of
  obtain ⟨a, cap, rfl⟩ := h2.len
  exact ⟨a, cap, h1.all.1, h1.all.2.1⟩
set_option maxHeartbeats 1000000 in
theorem hold_any (g : Nat) (nv : Value) (ss : List St) (w : World) (h : BB w g nv ss) (hm : ss.length ≤ 1000) :
    Calls Tryd.prog 64 #[.pointer (some ⟨g, 0, none⟩)] w fun e w' => e = .returned (.int .i64 (ss.length : Int)) ∧ BB w' g nv (ss ++ [stZ]) ∧ Below g w w' := by
  have HA := hid (add_any g nv ss stZ w h hm)
  clear h
  go_enter Tryd.func64, Tryd.ntmps64
  go_wp2_with fail
  refine Calls.mono HA.out ?_
  rintro e w1 ⟨rfl, h1, hb⟩
  obtain ⟨a, cap, d0, d1⟩ := h1.read
  have HB := hid h1
  have HL := hid hb
  rw [List.length_append] at d1
  have hl : (((ss.length + [stZ].length : Nat) : Int)) - 1 = (ss.length : Int) := by simp
  clear h1 hb
  go_wp2
  go_ret
  exact ⟨by first | rfl | (simp; done), HB.out, HL.out⟩
/-- A step is put in the place of another one. -/
def putSt (w : World) (g o : Nat) (s : St) : World := ((((((w.setCell ⟨g, o, none⟩ (.int .i64 s.op)).setCell ⟨g, o + 1, none⟩ (.int .u64 s.c.a)).setCell ⟨g, o + 2, none⟩ (.int .u64 s.c.b)).setCell ⟨g, o + 3, none⟩ (.int .u64 s.c.c)).setCell ⟨g, o + 4, none⟩ (.int .u64 s.c.d)).setCell ⟨g, o + 5, none⟩ (.int .i64 s.x)).setCell ⟨g, o + 6, none⟩ (.int .i64 s.y)
theorem heap_set {w : World} {r : Nat} {cur : Array Value} {t : TypeId} {fz : Nat × Nat} (h : w.heap[r]? = some (.cells cur t fz)) (o : Nat) (v : Value) : (w.setCell ⟨r, o, none⟩ v).heap[r]? = some (.cells (cur.setIfInBounds o v) t fz) := by
  simp [World.setCell, Array.getElem?_modify, h]
theorem stCells_set (m : St) (R : List Value) (k t : Nat) (v : Value) : (stCells m ++ R).set ((k + 1) * 7 + t) v = stCells m ++ R.set (k * 7 + t) v := by
  rw [List.set_append_right _ _ (by simp [stCells]; omega)]
  congr 2
  simp [stCells]
  omega
theorem ssCells_set (s : St) : ∀ (ss : List St) (k : Nat), k < ss.length → ssCells (ss.set k s) = ((((((((ssCells ss).set (k * 7 + 0) (.int .i64 s.op)).set (k * 7 + 1) (.int .u64 s.c.a)).set (k * 7 + 2) (.int .u64 s.c.b)).set (k * 7 + 3) (.int .u64 s.c.c)).set (k * 7 + 4) (.int .u64 s.c.d)).set (k * 7 + 5) (.int .i64 s.x)).set (k * 7 + 6) (.int .i64 s.y))
  | [], k, h => by simp at h
  | m :: r, 0, h => by simp [ssCells, stCells]
  | m :: r, k + 1, h => by
    rw [List.set_cons_succ, ssCells, ssCells, ssCells_set s r k (by simpa using h)]
    rw [stCells_set, stCells_set, stCells_set, stCells_set, stCells_set, stCells_set, stCells_set]
theorem SsOwn.put {w : World} {base r cap : Nat} {ss : List St} (h : SsOwn w base (.slice (some ⟨r, 0, none⟩) ss.length cap) ss) (k : Nat) (hk : k < ss.length) (s : St) :
    SsOwn (putSt w r (k * 7) s) base (.slice (some ⟨r, 0, none⟩) ss.length cap) (ss.set k s) := by
  refine ⟨by rw [ssCells_len], Or.inr ?_⟩
  rcases h.2 with ⟨hv, hn⟩ | ⟨g, cap', cur, hv, hb, hh, hnc, hcm, hcs, htk⟩
  · omega
  · injection hv with e1 e2 e3
    injection e1 with e1
    injection e1 with e1
    subst e1
    subst e3
    have hh' := heap_set (heap_set (heap_set (heap_set (heap_set (heap_set (heap_set hh (k * 7) (.int .i64 s.op)) (k * 7 + 1) (.int .u64 s.c.a)) (k * 7 + 2) (.int .u64 s.c.b)) (k * 7 + 3) (.int .u64 s.c.c)) (k * 7 + 4) (.int .u64 s.c.d)) (k * 7 + 5) (.int .i64 s.x)) (k * 7 + 6) (.int .i64 s.y)
    refine ⟨r, cap, _, by rw [List.length_set], hb, hh', by rw [List.length_set]; exact hnc, hcm, by simp only [Array.size_setIfInBounds]; exact hcs, ?_⟩
    rw [List.length_set, ssCells_set s ss k hk]
    simp only [Array.toList_setIfInBounds, List.take_set, htk, Nat.add_zero]
theorem grown_putSt (w : World) (r o : Nat) (s : St) : w.grownBy (putSt w r o s) (some r) :=
  Lib.grownBy_setB (Lib.grownBy_setB (Lib.grownBy_setB (Lib.grownBy_setB (Lib.grownBy_setB (Lib.grownBy_setB (Lib.grownBy_setB (World.grownBy.refl w _) _ _) _ _) _ _) _ _) _ _) _ _) _ _
set_option maxHeartbeats 1000000 in
theorem fork_any (g : Nat) (nv : Value) (ss : List St) (k x y : Nat) (w : World) (h : BB w g nv ss) (hk : k < ss.length) :
    Calls Tryd.prog 65 #[.pointer (some ⟨g, 0, none⟩), .int .i64 (k : Int), .int .i64 (x : Int), .int .i64 (y : Int)] w fun e w' => e = .returned (.tuple #[]) ∧ BB w' g nv (ss.set k (stF x y)) ∧ Below g w w' := by
  obtain ⟨sv, hb, hO⟩ := h.of
  obtain ⟨c0, c1, f1⟩ := hb.all
  obtain ⟨r, cap, rfl, hr, hrl, hlc, cur, hh, hcs, htk⟩ := hO.form (by omega)
  have k0 : (0 : Int) ≤ (k : Int) := by omega
  have k1 : (k : Int) < (ss.length : Int) := by omega
  have z0 : w.frozen? ⟨r, k * 7, none⟩ = false := Lib.frozen_of_heap hh _
  have z1 : w.frozen? ⟨r, k * 7 + 1, none⟩ = false := Lib.frozen_of_heap hh _
  have z2 : w.frozen? ⟨r, k * 7 + 2, none⟩ = false := Lib.frozen_of_heap hh _
  have z3 : w.frozen? ⟨r, k * 7 + 3, none⟩ = false := Lib.frozen_of_heap hh _
  have z4' : w.frozen? ⟨r, k * 7 + 4, none⟩ = false := Lib.frozen_of_heap hh _
  have z5 : w.frozen? ⟨r, k * 7 + 5, none⟩ = false := Lib.frozen_of_heap hh _
  have z6 : w.frozen? ⟨r, k * 7 + 6, none⟩ = false := Lib.frozen_of_heap hh _
  have HC : Hid (∃ c : Nat → Value, ∀ t, t < 7 → w.cell? ⟨r, k * 7 + t, none⟩ = some (c t)) := by
    refine ⟨fun t => cur.toList.getD (k * 7 + t) .nilIface, fun t ht => ?_⟩
    have : k * 7 + t < cur.size := by rw [hcs]; omega
    rw [Lib.cell_of_heap hh, Array.getElem?_eq_getElem this]
    simp [List.getD, Array.getElem?_toList, Array.getElem?_eq_getElem this]
  obtain ⟨c, hc⟩ := HC.out
  have y0 := hc 0 (by omega)
  have y1 := hc 1 (by omega)
  have y2 := hc 2 (by omega)
  have y3 := hc 3 (by omega)
  have y4 := hc 4 (by omega)
  have y5 := hc 5 (by omega)
  have y6 := hc 6 (by omega)
  rw [Nat.add_zero] at y0
  have HP : Hid (BB (putSt w r (k * 7) (stF x y)) g nv (ss.set k (stF x y)) ∧ Below g w (putSt w r (k * 7) (stF x y))) := by
    refine ⟨⟨.slice (some ⟨r, 0, none⟩) ss.length cap, ?_, hO.put k hk _⟩, ?_⟩
    · exact ((grown_putSt w r (k * 7) (stF x y)).block g hb.lt (by intro e; injection e with e; omega)).trans hb
    · have hgr := grown_putSt w r (k * 7) (stF x y)
      exact ⟨hgr.os, hgr.tape, hgr.output, hgr.size, fun i hi => hgr.block i (by omega) (by intro e; injection e with e; omega)⟩
  clear hc h hb hO hh htk hcs HC
  go_enter Tryd.func65, Tryd.ntmps65
  go_wp2
  go_end0
  exact ⟨rfl, HP.out⟩
end Go.Proofs.YtgnmlnfddcnkbaaDoor
namespace Go.Proofs.YtgnmlnfddcnkbaaDoor
set_option linter.unusedSimpArgs false
set_option linter.unusedVariables false
set_option maxRecDepth 100000
open Go.RowKit
/-- The part at i is built as the tree t says. -/
def BPart (ns : List Nd) (b off cap : Nat) (t : Rx) (i : Nat) : Prop := ∀ (g : Nat) (ss : List St) (w : World), BB w g (.slice (some ⟨b, off, none⟩) ns.length cap) ss → b < g → NsAt w b off ns → ss.length + 2 * t.flat.length ≤ 500 →
  Calls Tryd.prog 22 #[.pointer (some ⟨g, 0, none⟩), .int .i64 (i : Int)] w fun e w' => e = .returned (.int .i64 ((i + t.flat.length : Nat) : Int)) ∧ BB w' g (.slice (some ⟨b, off, none⟩) ns.length cap) (ss ++ t.cod ss.length) ∧ Below g w w'
set_option maxHeartbeats 2000000 in
theorem part_leaf (ns : List Nd) (hl : ns.length ≤ 60) (b off cap i : Nat) (n : Nd) (hn : ns[i]? = some n) (hi : i < ns.length) (hop : n.op = 1 ∨ n.op = 2 ∨ n.op = 8 ∨ n.op = 9) : BPart ns b off cap (.leaf n) i := by
  intro g ss w hB hbg hN hm
  have hml : ss.length ≤ 500 := by omega
  obtain ⟨c0, c1, c2, c3, c4⟩ := hN i n hn
  obtain ⟨a, cap', d0, d1⟩ := hB.read
  have i0 : (0 : Int) ≤ (i : Int) := by omega
  have i1 : (i : Int) < (ns.length : Int) := by omega
  have HL : Hid (((i + (Rx.leaf n).flat.length : Nat) : Int) = (i : Int) + 1) := by show _ = _; simp [Rx.flat]
  rw [HL.out]
  rcases hop with hop | hop | hop | hop
  · have HC : Hid ((Rx.leaf n).cod ss.length = [⟨1, n.c, ((ss.length + 1 : Nat) : Int), 0⟩]) := by show _ = _; simp [Rx.cod, hop]
    rw [hop] at c0
    have HA := hid (add_any g _ ss ⟨1, n.c, ((ss.length + 1 : Nat) : Int), 0⟩ w hB (by omega))
    have hx : Hid ((ss.length : Int) + 1 = ((ss.length + 1 : Nat) : Int)) := by show _ = _; omega
    rw [HC.out]
    clear hN hB
    go_enter Tryd.func22, Tryd.ntmps22
    go_wp2_with fail
    rw [hx.out]
    refine Calls.mono HA.out ?_
    rintro e w1 ⟨rfl, h1, hb1⟩
    go_wp2
    go_ret
    exact ⟨rfl, h1, hb1⟩
  · have HC : Hid ((Rx.leaf n).cod ss.length = []) := by show _ = _; simp [Rx.cod, hop]
    rw [hop] at c0
    rw [HC.out, List.append_nil]
    have HB := hid hB
    clear hN hB
    go_enter Tryd.func22, Tryd.ntmps22
    go_wp2
    go_ret
    exact ⟨rfl, HB.out, Below.refl _ _⟩
  · have HC : Hid ((Rx.leaf n).cod ss.length = [⟨3, z4, ((ss.length + 1 : Nat) : Int), 0⟩]) := by show _ = _; simp [Rx.cod, hop]
    rw [hop] at c0
    have HA := hid (add_any g _ ss ⟨3, z4, ((ss.length + 1 : Nat) : Int), 0⟩ w hB (by omega))
    have hx : Hid ((ss.length : Int) + 1 = ((ss.length + 1 : Nat) : Int)) := by show _ = _; omega
    rw [HC.out]
    clear hN hB
    go_enter Tryd.func22, Tryd.ntmps22
    go_wp2_with fail
    rw [hx.out]
    refine Calls.mono HA.out ?_
    rintro e w1 ⟨rfl, h1, hb1⟩
    go_wp2
    go_ret
    exact ⟨rfl, h1, hb1⟩
  · have HC : Hid ((Rx.leaf n).cod ss.length = [⟨4, z4, ((ss.length + 1 : Nat) : Int), 0⟩]) := by show _ = _; simp [Rx.cod, hop]
    rw [hop] at c0
    have HA := hid (add_any g _ ss ⟨4, z4, ((ss.length + 1 : Nat) : Int), 0⟩ w hB (by omega))
    have hx : Hid ((ss.length : Int) + 1 = ((ss.length + 1 : Nat) : Int)) := by show _ = _; omega
    rw [HC.out]
    clear hN hB
    go_enter Tryd.func22, Tryd.ntmps22
    go_wp2_with fail
    rw [hx.out]
    refine Calls.mono HA.out ?_
    rintro e w1 ⟨rfl, h1, hb1⟩
    go_wp2
    go_ret
    exact ⟨rfl, h1, hb1⟩
end Go.Proofs.YtgnmlnfddcnkbaaDoor
