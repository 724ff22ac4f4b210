/- The landed reader: put, wrap. -/
import Derived.Test.YtmdfdlljeggbbaaRa2
import Derived.Test.YtmdfdlljeggbbaaIn2
set_option linter.unusedSimpArgs false
set_option linter.unusedVariables false
set_option maxRecDepth 100000
namespace Go.Proofs.Ytmdfdlljeggbbaa
open Go.RowKit
/-- append, of nodes, at a step of a region that draws. -/
theorem step_append_ns {ops : Array Oper} {o : Oper} {a : Act} {K : Act → World → Prop} {Q : Exit → Act → World → Prop} {E : Prop} {w : World} (hgd : o.guard = none) (s x : Operand)
    (ho : o.op = .call { callee := .builtin .append, args := #[s, x], argTypes := #[31, 31] })
    (B : Nat) (v : Value) (hs : a.eval s = v) (ns : List Nd) (hown : NsOwn w B v ns) (g2 c2 : Nat) (n : Nd) (hx : a.eval x = .slice (some ⟨g2, 0, none⟩) 1 c2)
    (hnews : ∀ j u, (nsCells [n])[j]? = some u → w.cell? ⟨g2, j, none⟩ = some u) (hbytes : (ns.length + 1) * 40 ≤ 140737488355328) (hbase : B ≤ w.heap.size)
    (h : ∀ g cap w', NsOwn w' B (.slice (some ⟨g, 0, none⟩) (ns.length + 1) cap) (ns ++ [n]) → w.grownBy w' v.ownBlock → B ≤ g → g < w'.heap.size → K (a.put o.dst (.slice (some ⟨g, 0, none⟩) (ns.length + 1) cap)) w') :
    if Region.wanted o (yielded ops a.tmps) = true then Oper.wp Try.prog o a w K Q else E := by
  obtain ⟨i0, hi, hz0, hz1, hz2⟩ := info_node
  refine step_append_lies w hgd s x 31 ho B 37 i0 _ 5 40 Try.underlying31 hi hz0 hz1 hz2 rfl (by decide) v ns.length (nsCells ns) hs hown ⟨g2, 0, none⟩ 1 c2 (nsCells [n]) hx (nsCells_len [n]) ?_ (nsCells_one [n]) (by omega) (by unfold maxLen; omega) hbytes hbase w.heap.size rfl ?_
  · intro j u hj
    rw [Addr.add_lit, Nat.zero_add]
    exact hnews j u hj
  · intro g cap w' h1 h2 h3 h4
    have e : NsOwn w' B (.slice (some ⟨g, 0, none⟩) (ns.length + 1) cap) (ns ++ [n]) := by
      unfold NsOwn
      rw [nsCells_append, List.length_append]
      exact h1
    have hg : B ≤ g := by
      rcases h3 with h3 | h3
      · rcases hown.2 with ⟨hv, _⟩ | ⟨g', cap', cur, hv, hb, _⟩
        · rw [hv] at h3; cases h3
        · rw [hv] at h3
          injection h3 with h3
          simp at h3
          omega
      · omega
    exact h g cap w' e h2 hg h4
theorem NsOwn.keptG {w w' : World} {B g : Nat} {v : Value} {ns : List Nd} (h : NsOwn w B v ns) (hg : w.grownBy w' (some g)) (hlt : g < B) : NsOwn w' B v ns := by
  refine World.ownsRow.kept h hg ?_
  rcases h.2 with ⟨hv, _⟩ | ⟨b, cap, cur, hv, hb, _⟩
  · rw [hv]; exact Or.inl rfl
  · rw [hv]
    refine Or.inr ?_
    intro e
    injection e with e
    simp only at e
    omega
theorem NsOwn.ne {w : World} {B : Nat} {v : Value} {ns : List Nd} (h : NsOwn w B v ns) (k : Nat) (hk : v.ownBlock = some k) : B ≤ k ∧ k < w.heap.size := by
  rcases h.2 with ⟨hv, _⟩ | ⟨b, cap, cur, hv, hb, hh, _⟩
  · rw [hv] at hk; cases hk
  · rw [hv] at hk
    injection hk with hk
    simp only at hk
    subst hk
    refine ⟨hb, ?_⟩
    rcases Nat.lt_or_ge b w.heap.size with hlt | hge
    · exact hlt
    · rw [Array.getElem?_eq_none hge] at hh; cases hh
/-- Behind a call that turned only the nodes' block: the reader is as it was. -/
theorem PA.grownN {w w' : World} {g B : Nat} {s : ByteArray} {a : Nat} {v u : Value} {l : List UInt8} {ns : List Nd} (h : PA w g s a v l) (hO : NsOwn w B u ns) (hB : g < B) (hg : w.grownBy w' u.ownBlock) : PA w' g s a v l := by
  refine ⟨(hg.block g h.lt ?_).trans h.rd, h.at', h.le, h.small⟩
  intro e
  have := (hO.ne g e.symm).1
  omega
theorem PA.setN {w : World} {g : Nat} {s : ByteArray} {a : Nat} {v : Value} {l : List UInt8} (h : PA w g s a v l) (u : Value) : PA (w.setCell ⟨g, 2, none⟩ u) g s a u l := ⟨h.rd.setNodes u, h.at', h.le, h.small⟩
theorem below_grownN {w w' : World} {g B : Nat} {u : Value} {ns : List Nd} (hO : NsOwn w B u ns) (hB : g ≤ B) (hgs : g ≤ w.heap.size) (hg : w.grownBy w' u.ownBlock) : Below g w w' :=
  ⟨hg.os, hg.tape, hg.output, hg.size, fun k hk => hg.block k (by omega) (by
    intro e
    have := (hO.ne k e.symm).1
    omega)⟩
set_option maxHeartbeats 1000000 in
theorem wrap_any (g : Nat) (s : ByteArray) (a : Nat) (v : Value) (l : List UInt8) (ns : List Nd) (i : Nat) (op : Int) (w : World) (h : PA w g s a v l) (hO : NsOwn w (g + 1) v ns) (hm : ns.length ≤ 1000) (hi : i < ns.length) :
    Calls Try.prog 44 #[.pointer (some ⟨g, 0, none⟩), .int .i64 i, .int .i64 op] w fun e w' => e = .returned (.tuple #[]) ∧ (∃ u, PA w' g s a u l ∧ NsOwn w' (g + 1) u (ns.take i ++ ⟨op, z4⟩ :: ns.drop i)) ∧ Below g w w' := by
  obtain ⟨c0, c1, c2, c3, f1, f2, f3⟩ := h.rd.all
  have hg := h.lt
  have HP := hid h
  have HI : Hid (∃ o : Obj, o = .cells #[.int .i64 op, .int .u64 0, .int .u64 0, .int .u64 0, .int .u64 0] 37 ∧ PA (w.alloc o) g s a v l ∧ NsOwn (w.alloc o) (g + 1) v ns ∧ Calls Try.prog 51 #[v, .int .i64 i, .slice (some ⟨w.heap.size, 0, none⟩) 1 1] (w.alloc o) fun e w' => ∃ u, e = .returned u ∧ NsOwn w' (g + 1) u (ns.take i ++ ⟨op, z4⟩ :: ns.drop i) ∧ (w.alloc o).grownBy w' v.ownBlock) := by
    refine ⟨_, rfl, h.below ((Below.refl _ _).alloc (Nat.le_refl _) _), hO.below ((Below.refl _ _).alloc (Nat.le_refl _) _), ?_⟩
    refine insert_any (g + 1) v ns i w.heap.size 37 _ ⟨op, z4⟩ _ (hO.below ((Below.refl _ _).alloc (Nat.le_refl _) _)) hi (by omega) (by simp; omega) (heap_alloc_new w _) ?_ ?_
    · intro j u hj
      rw [World.cell?_alloc_at (w := w) _ _ w.heap.size j rfl]
      simpa [nsCells, z4] using hj
    · intro e
      have := (hO.ne _ e.symm).2
      omega
  clear h hO hi
  go_enter Try.func44, Try.ntmps44
  go_wp2_with fail
  obtain ⟨o, ho, hpo, hOo, hcall⟩ := HI.out
  have HPO := hid hpo
  have HOO := hid hOo
  have HC := hid hcall
  clear hpo hOo hcall HI
  rw [← ho]
  refine Calls.mono HC.out ?_
  rintro e w1 ⟨u, rfl, hO1, hg1⟩
  obtain ⟨g3, cap3, hu, _, _, _⟩ := hO1.form (by simp; omega)
  obtain ⟨L, hL⟩ : ∃ L, L = (ns.take i ++ ⟨op, z4⟩ :: ns.drop i).length := ⟨_, rfl⟩
  rw [← hL] at hu
  clear hL
  subst hu
  have hp1 := HPO.out.grownN HOO.out (by omega) hg1
  have HB1 := hid (((Below.refl g w).alloc (by omega) o).trans (below_grownN HOO.out (by omega) (by simp; omega) hg1))
  have HP1 := hid hp1
  have HO1 := hid hO1
  clear c0 c1 c2 c3 f1 f2 f3
  obtain ⟨c0, c1, c2, c3, f1, f2, f3⟩ := hp1.rd.all
  clear hp1 hO1 hg1 HC ho
  go_wp2
  go_end0
  exact ⟨rfl, ⟨_, HP1.out.setN _, HO1.out.keptG (grown_cell w1 g 2 _) (Nat.lt_succ_self g)⟩, HB1.out.setCell (Nat.le_refl _) _⟩
set_option maxHeartbeats 2000000 in
theorem put_any (g : Nat) (s : ByteArray) (a : Nat) (v : Value) (l : List UInt8) (ns : List Nd) (n : Nd) (w : World) (h : PA w g s a v l) (hO : NsOwn w (g + 1) v ns) (hm : ns.length ≤ 1000) :
    Calls Try.prog 48 #[.pointer (some ⟨g, 0, none⟩), .int .i64 n.op, n.c.v] w fun e w' => e = .returned (.tuple #[]) ∧ (∃ u, PA w' g s a u l ∧ NsOwn w' (g + 1) u (ns ++ [n])) ∧ Below g w w' := by
  have hg := h.lt
  obtain ⟨c0, c1, c2, c3, f1, f2, f3⟩ := h.rd.ca
  have n0 : ¬ g = w.heap.size := by omega
  have n1 : ¬ w.heap.size = g := by omega
  have n2 : ¬ w.heap.size + 1 = g := by omega
  have n3 : ¬ g = w.heap.size + 1 := by omega
  have k2 : ∀ o o', ((w.alloc o).alloc o').cell? ⟨g, 2, none⟩ = some v := fun o o' => ((h.rd.alloc o).alloc o').all.2.2.1
  have AO : Hid (∀ W : World, W = ((w.alloc (.cells n.c.cells 24)).alloc (.cells #[.int .i64 n.op, .int .u64 n.c.a, .int .u64 n.c.b, .int .u64 n.c.c, .int .u64 n.c.d] 37)).drew → NsOwn W (g + 1) v ns ∧ (∀ j u, (nsCells [n])[j]? = some u → W.cell? ⟨w.heap.size + 1, j, none⟩ = some u) ∧ g + 1 ≤ W.heap.size ∧ PA W g s a v l ∧ Below g w W) := by
    rintro _ rfl
    have hB2 : Below w.heap.size w ((w.alloc (.cells n.c.cells 24)).alloc (.cells #[.int .i64 n.op, .int .u64 n.c.a, .int .u64 n.c.b, .int .u64 n.c.c, .int .u64 n.c.d] 37)).drew := (((Below.refl _ _).alloc (Nat.le_refl _) _).alloc (by simp) _).drew
    refine ⟨hO.below hB2, ?_, ?_, h.below hB2, hB2.mono (by omega)⟩
    · intro j u hj
      show ((w.alloc (.cells n.c.cells 24)).alloc _).cell? _ = _
      rw [World.cell?_alloc_at (w := w.alloc (.cells n.c.cells 24)) _ _ (w.heap.size + 1) j (by simp)]
      simpa [nsCells] using hj
    · have := hB2.size
      omega
  clear h hO
  go_enter Try.func48, Try.ntmps48
  go_wp2_with fail
  go_region_law (first | (refine step_append_ns (by rfl) _ _ (by rfl) (g + 1) v (by rfl) ns (AO.out _ rfl).1 (w.heap.size + 1) 1 n (by rfl) (AO.out _ rfl).2.1 (by omega) (AO.out _ rfl).2.2.1 ?_; intro g3 cap3 w3 ho3 hg3 hb3 hl3; have HO3 := hid ho3; have hp3 := (AO.out _ rfl).2.2.2.1.grownN (AO.out _ rfl).1 (by omega) hg3; have HB3 := hid ((AO.out _ rfl).2.2.2.2.trans (below_grownN (AO.out _ rfl).1 (by omega) (by have := (AO.out _ rfl).2.2.1; omega) hg3)); have HP3 := hid hp3; obtain ⟨d0, d1, d2, d3, e1, e2, e3⟩ := hp3.rd.all; clear ho3 hg3 hb3 hl3 hp3))
  all_goals go_wp2
  all_goals go_end0
  all_goals exact ⟨rfl, ⟨_, HP3.out.setN _, HO3.out.keptG (grown_cell _ _ _ _) (by omega)⟩, HB3.out.setCell (Nat.le_refl _) _⟩
end Go.Proofs.Ytmdfdlljeggbbaa
