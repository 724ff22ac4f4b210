/- The place behind a part, by counting the parts that are missing. No function of the program. -/
import Derived.Test.YtldiaokjgfoomaaDoorNdR
set_option linter.unusedSimpArgs false
set_option linter.unusedVariables false
set_option maxRecDepth 100000
namespace Go.Proofs.YtldiaokjgfoomaaDoor
open Go.RowKit

/-- So many parts are missing: how many nodes they are, and whether all are there. -/
def beh : List Nd → Nat → Nat × Bool
  | _, 0 => (0, true)
  | [], _ + 1 => (0, false)
  | n :: r, m + 1 => ((beh r (m + prt n.op)).1 + 1, (beh r (m + prt n.op)).2)
theorem beh_zero (l : List Nd) : beh l 0 = (0, true) := by cases l <;> rfl
theorem beh_flat : ∀ (t : Rx), t.Ok → ∀ (q : List Nd) (m : Nat), beh (t.flat ++ q) (m + 1) = ((beh q m).1 + t.flat.length, (beh q m).2)
  | .leaf n, h, q, m => by
    have h0 : prt n.op = 0 := h
    simp [Rx.flat, beh, h0]
  | .one n a, h, q, m => by
    have ih := beh_flat a h.2 q m
    simp [Rx.flat, beh, h.1, ih]; omega
  | .two n a b, h, q, m => by
    have ih := beh_flat a h.2.1 (b.flat ++ q) (m + 1)
    have ih2 := beh_flat b h.2.2 q m
    rw [ih2] at ih
    simp only [Rx.flat, List.cons_append, List.append_assoc, beh, h.1, ih, List.length_cons, List.length_append]
    refine Prod.ext ?_ rfl
    simp only
    omega
theorem beh_le : ∀ (l : List Nd) (m : Nat), (beh l m).1 ≤ l.length
  | l, 0 => by rw [beh_zero]; simp
  | [], m + 1 => by simp [beh]
  | n :: r, m + 1 => by
    have := beh_le r (m + prt n.op)
    simp [beh]; omega
theorem beh_trees : ∀ (l : List Nd) (m : Nat), (beh l m).2 = true → ∃ (ts : List Rx) (q : List Nd), ts.length = m ∧ (∀ t ∈ ts, t.Ok) ∧ l = (ts.map Rx.flat).flatten ++ q ∧ (beh l m).1 = (ts.map Rx.flat).flatten.length
  | l, 0, h => ⟨[], l, rfl, by simp, by simp, by rw [beh_zero]; rfl⟩
  | [], m + 1, h => by simp [beh] at h
  | n :: r, m + 1, h => by
    simp only [beh] at h
    obtain ⟨ts, q, hl, hok, he, hk⟩ := beh_trees r (m + prt n.op) h
    have hp := prt_le n.op
    have h3 : prt n.op = 0 ∨ prt n.op = 1 ∨ prt n.op = 2 := by omega
    rcases h3 with h0 | h0 | h0
    · refine ⟨.leaf n :: ts, q, by simp; omega, ?_, by simp [he, Rx.flat], by simp [beh, hk, Rx.flat]⟩
      intro t ht
      rcases List.mem_cons.1 ht with rfl | ht
      · exact h0
      · exact hok t ht
    · match ts, hl, hok, he, hk with
      | [], hl, _, _, _ => simp at hl; omega
      | a :: ts, hl, hok, he, hk =>
        refine ⟨.one n a :: ts, q, by simp at hl ⊢; omega, ?_, by simp [he, Rx.flat], by simp [beh, hk, Rx.flat]⟩
        intro t ht
        rcases List.mem_cons.1 ht with rfl | ht
        · exact ⟨h0, hok a (by simp)⟩
        · exact hok t (by simp [ht])
    · match ts, hl, hok, he, hk with
      | [], hl, _, _, _ => simp at hl; omega
      | [a], hl, _, _, _ => simp at hl; omega
      | a :: b :: ts, hl, hok, he, hk =>
        refine ⟨.two n a b :: ts, q, by simp at hl ⊢; omega, ?_, by simp [he, Rx.flat], by simp [beh, hk, Rx.flat]⟩
        intro t ht
        rcases List.mem_cons.1 ht with rfl | ht
        · exact ⟨h0, hok a (by simp), hok b (by simp)⟩
        · exact hok t (by simp [ht])
theorem beh_end (ns : List Nd) (h : (beh ns 1).2 = true) : endE ns 0 = some (beh ns 1).1 := by
  obtain ⟨ts, q, hl, hok, he, hk⟩ := beh_trees ns 1 h
  match ts, hl, hok, he, hk with
  | [t], hl, hok, he, hk =>
    have e : ns = t.flat ++ q := by simpa using he
    have e2 : (beh ns 1).1 = t.flat.length := by simpa using hk
    have := endE_mid t (hok t (by simp)) [] q
    rw [e2, e]
    simpa using this
theorem end_beh (ns : List Nd) (f i j : Nat) (h : endF ns f i = some j) : (beh (ns.drop i) 1).2 = true ∧ i + (beh (ns.drop i) 1).1 = j := by
  obtain ⟨t, ht, q, e, ej⟩ := part_tree ns f i j h
  have := beh_flat t ht q 0
  rw [e, this, beh_zero]
  refine ⟨rfl, ?_⟩
  simp only
  omega
/-- The fault of nodes that are fine one by one. -/
theorem fault_beh (ns : List Nd) (h60 : ¬ 60 < ns.length) (h0 : scanL ns = 0) : faultL ns = if (beh ns 1).2 = true ∧ ns.length ≤ (beh ns 1).1 then 0 else 2 := by
  rw [faultL, if_neg h60, h0, if_neg (by simp)]
  by_cases h : (beh ns 1).2 = true ∧ ns.length ≤ (beh ns 1).1
  · have e := beh_end ns h.1
    have hl := beh_le ns 1
    have e2 : (beh ns 1).1 = ns.length := by omega
    rw [e2] at e
    have hne : ns ≠ [] := by rintro rfl; rw [endE_nil] at e; cases e
    rw [if_pos h, if_neg (by simp [e, hne])]
  · rw [if_neg h, if_pos]
    refine Or.inr fun e => h ?_
    have := end_beh ns _ 0 _ e
    rw [List.drop_zero] at this
    exact ⟨this.1, by omega⟩
/-- Each node of a valid pattern begins a part. -/
theorem tree_sub : ∀ (t : Rx), t.Ok → ∀ i, i < t.flat.length → ∃ s : Rx, s.Ok ∧ ∃ q, t.flat.drop i = s.flat ++ q
  | t, ht, 0, _ => ⟨t, ht, [], by simp⟩
  | .leaf n, ht, i + 1, h => by simp [Rx.flat] at h
  | .one n a, ht, i + 1, h => by
    obtain ⟨s, hs, q, e⟩ := tree_sub a ht.2 i (by simp [Rx.flat] at h; omega)
    exact ⟨s, hs, q, by simpa [Rx.flat] using e⟩
  | .two n a b, ht, i + 1, h => by
    by_cases hi : i < a.flat.length
    · obtain ⟨s, hs, q, e⟩ := tree_sub a ht.2.1 i hi
      refine ⟨s, hs, q ++ b.flat, ?_⟩
      simp only [Rx.flat, List.drop_succ_cons]
      rw [List.drop_append_of_le_length (by omega), e, List.append_assoc]
    · obtain ⟨s, hs, q, e⟩ := tree_sub b ht.2.2 (i - a.flat.length) (by simp [Rx.flat] at h; omega)
      refine ⟨s, hs, q, ?_⟩
      simp only [Rx.flat, List.drop_succ_cons]
      rw [List.drop_append, List.drop_eq_nil_of_le (by omega), List.nil_append, e]
theorem part_at (ns : List Nd) (hv : endE ns 0 = some ns.length) (i : Nat) (hi : i < ns.length) : ∃ j, endE ns i = some j := by
  obtain ⟨t, ht, rfl⟩ := tree_of ns hv
  obtain ⟨s, hs, q, e⟩ := tree_sub t ht i hi
  have h := endE_mid s hs (t.flat.take i) q
  have e1 : (t.flat.take i).length = i := by simp; omega
  have e2 : t.flat.take i ++ s.flat ++ q = t.flat := by rw [List.append_assoc, ← e, List.take_append_drop]
  rw [e1, e2] at h
  exact ⟨_, h⟩
theorem beh_step (ns : List Nd) (i m : Nat) (n : Nd) (hn : ns[i]? = some n) : beh (ns.drop i) (m + 1) = ((beh (ns.drop (i + 1)) (m + prt n.op)).1 + 1, (beh (ns.drop (i + 1)) (m + prt n.op)).2) := by
  have hi : i < ns.length := by
    rcases Nat.lt_or_ge i ns.length with h | h
    · exact h
    · rw [List.getElem?_eq_none h] at hn; cases hn
  rw [List.drop_eq_getElem_cons hi]
  rw [List.getElem?_eq_getElem hi] at hn
  rw [Option.some.inj hn, beh]
end Go.Proofs.YtldiaokjgfoomaaDoor
