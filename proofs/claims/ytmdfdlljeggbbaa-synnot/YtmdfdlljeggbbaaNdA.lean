/- append, of nodes. -/
import Derived.Test.YtmdfdlljeggbbaaNdP
import Derived.OwnWalk
import Derived.KernelRfl
set_option linter.unusedSimpArgs false
set_option linter.unusedVariables false
set_option maxRecDepth 100000
namespace Go.Proofs.Ytmdfdlljeggbbaa
open Go.RowKit

theorem grown_cells {w4 w5 : World} {r : Nat} {xs : List Value} (h : w4.grownBy w5 (some r)) {g : Nat} (hg : g < w4.heap.size) (hne : g ≠ r) (hc : ∀ (j : Nat) u, xs[j]? = some u → w4.cell? ⟨g, j, none⟩ = some u) : ∀ (j : Nat) u, xs[j]? = some u → w5.cell? ⟨g, j, none⟩ = some u := by
  intro j u hj
  rw [World.cell?_of_block (a := ⟨g, j, none⟩) (h.block g hg (by intro e; injection e with e; exact hne e))]
  exact hc j u hj
/-- append, of nodes of the call's own to nodes of the call's own. -/
theorem wpList_append_ns {ops : Array Oper} {rest : List Oper} {o : Oper} {a : Act} {Q : Exit → Act → World → Prop} {w : World} (hgd : o.guard = none) (s x : Operand)
    (ho : o.op = .call { callee := .builtin .append, args := #[s, x], argTypes := #[31, 31] })
    (B : Nat) (v : Value) (hs : a.eval s = v) (ns : List Nd) (hown : NsOwn w B v ns) (g2 m2 c2 : Nat) (ms : List Nd) (hx : a.eval x = .slice (some ⟨g2, 0, none⟩) m2 c2) (hm2 : m2 = ms.length)
    (hnews : ∀ j u, (nsCells ms)[j]? = some u → w.cell? ⟨g2, j, none⟩ = some u) (hm : 0 < ms.length) (hbytes : (ns.length + ms.length) * 40 ≤ 140737488355328) (hbase : B ≤ w.heap.size)
    (h : ∀ g cap w', NsOwn w' B (.slice (some ⟨g, 0, none⟩) (ns.length + ms.length) cap) (ns ++ ms) → w.grownBy w' v.ownBlock → B ≤ g → g < w'.heap.size → wpList Try.prog ops Q rest (a.put o.dst (.slice (some ⟨g, 0, none⟩) (ns.length + ms.length) cap)) w') : wpList Try.prog ops Q (o :: rest) a w := by
  subst hm2
  have hinfo : (Try.prog.info? 37).map (fun i => (i.zero, i.size, i.bytes)) = some (some (.agg #[.int .i64 0, .int .u64 0, .int .u64 0, .int .u64 0, .int .u64 0]), 5, 40) := by kernel_rfl
  obtain ⟨i0, hi, hz0, hz1, hz2⟩ := info_parts hinfo
  refine wpList_append_lies w hgd s x 31 ho B 37 i0 _ 5 40 Try.underlying31 hi hz0 hz1 hz2 rfl (by decide) v ns.length (nsCells ns) hs hown ⟨g2, 0, none⟩ ms.length c2 (nsCells ms) hx (nsCells_len ms) ?_ (nsCells_one ms) hm (by unfold maxLen; omega) hbytes hbase w.heap.size rfl ?_
  · intro j u hj
    have e : (⟨g2, 0, none⟩ : Addr).add j = ⟨g2, j, none⟩ := by
      rcases j with _ | j <;> simp [Addr.add]
    rw [e]
    exact hnews j u hj
  · intro g cap w' h1 h2 h3 h4
    have e : NsOwn w' B (.slice (some ⟨g, 0, none⟩) (ns.length + ms.length) cap) (ns ++ ms) := by
      unfold NsOwn
      rw [nsCells_append, List.length_append]
      exact h1
    have hg : B ≤ g := by
      rcases h3 with h3 | h3
      · rcases hown.2 with ⟨hv, _⟩ | ⟨g', cap', cur, hv, hb, _⟩
        · rw [hv] at h3; cases h3
        · rw [hv] at h3
          injection h3 with h3
          simp at h3
          omega
      · omega
    exact h g cap w' e h2 hg h4
end Go.Proofs.Ytmdfdlljeggbbaa
