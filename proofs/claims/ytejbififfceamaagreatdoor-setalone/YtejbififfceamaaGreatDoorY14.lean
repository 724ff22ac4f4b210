/- slices.Insert, of one node, into nodes of the call's own. The landed reader: put, wrap. The landed reader: single, but for brackets. -/
import Derived.Test.YtejbififfceamaaGreatDoorY13
import Derived.Test.YtejbififfceamaaGreatDoorY09
namespace Go.Proofs.YtejbififfceamaaGreatDoor
set_option linter.unusedSimpArgs false
set_option linter.unusedVariables false
set_option maxRecDepth 100000
open Go.RowKit
theorem over_room (cur : Array Value) (os ds xs : List Value) (p m n : Nat) (h1 : cur.toList.take p = os) (hp : os.length = p) (hx : xs.length = m) (hn : p + m + ds.length = n) (hc : n ≤ cur.size) :
    (over (over cur (p + m) ds) p xs).toList.take n = os ++ xs ++ ds := by
  have e1 := over_list ds (p + m) cur (by omega)
  have hs : (over cur (p + m) ds).size = cur.size := over_size _ _ _
  have e2 := over_list xs p (over cur (p + m) ds) (by rw [hs]; omega)
  rw [e2, e1]
  have a1 : (cur.toList.take (p + m) ++ ds ++ cur.toList.drop (p + m + ds.length)).take p = os := by
    rw [List.append_assoc, List.take_append_of_le_length (by simp; omega), List.take_take, Nat.min_eq_left (by omega), h1]
  have a2 : (cur.toList.take (p + m) ++ ds ++ cur.toList.drop (p + m + ds.length)).drop (p + xs.length) = ds ++ cur.toList.drop (p + m + ds.length) := by
    rw [List.append_assoc, hx, List.drop_append_of_le_length (by simp; omega), List.drop_eq_nil_of_le (by simp; omega)]
    rfl
  rw [a1, a2, ← List.append_assoc, List.take_append_of_le_length (by simp; omega), List.take_of_length_le (by simp; omega)]
theorem over_grow (row : Array Value) (os ds xs : List Value) (p m n : Nat) (h1 : row.toList.take p = os) (hp : os.length = p) (hx : xs.length = m) (hn : p + m + ds.length = n) (hc : n ≤ row.size) :
    (over (over row p xs) (p + m) ds).toList.take n = os ++ xs ++ ds := by
  have e1 := over_list xs p row (by omega)
  have hs : (over row p xs).size = row.size := over_size _ _ _
  have e2 := over_list ds (p + m) (over row p xs) (by rw [hs]; omega)
  rw [e2, e1, h1]
  have a1 : (os ++ xs ++ row.toList.drop (p + xs.length)).take (p + m) = os ++ xs := by
    rw [List.take_append_of_le_length (by simp; omega), List.take_of_length_le (by simp; omega)]
  rw [a1, List.take_append_of_le_length (by simp; omega), List.take_of_length_le (by simp; omega)]
set_option maxHeartbeats 1000000 in
/-- Insert, of one node. -/
theorem insert_any (B : Nat) (v : Value) (ns : List Nd) (i vb : Nat) (T : TypeId) (xo : Array Value) (x : Nd) (w : World) (hown : NsOwn w B v ns) (hi : i < ns.length) (hbig : (ns.length + 1) * 40 ≤ 140737488355328) (hBw : B ≤ w.heap.size)
    (hv : w.heap[vb]? = some (.cells xo T (0, 0))) (hxc : ∀ j u, (nsCells [x])[j]? = some u → w.cell? ⟨vb, j, none⟩ = some u) (hvb : some vb ≠ v.ownBlock) :
    Calls Tryz.prog 95 #[v, .int .i64 i, .slice (some ⟨vb, 0, none⟩) 1 1] w fun e w' => ∃ u, e = .returned u ∧ NsOwn w' B u (ns.take i ++ x :: ns.drop i) ∧ w.grownBy w' v.ownBlock := by
  rcases hown.2 with ⟨_, h0⟩ | ⟨b, c, cur, rfl, hB, hb, hnc, hcm, hcur, htk⟩
  · omega
  · have hlen := hown.1
    have e0 : nsCells ns = nsCells (ns.take i) ++ nsCells (ns.drop i) := by rw [← nsCells_append, List.take_append_drop]
    have hos : (nsCells (ns.take i)).length = i * 5 := by rw [nsCells_len, List.length_take, Nat.min_eq_left (by omega)]
    have hds : (nsCells (ns.drop i)).length = (ns.length - i) * 5 := by rw [nsCells_len, List.length_drop]
    have hxs : (nsCells [x]).length = 1 * 5 := nsCells_len [x]
    have hcm' : c ≤ 9223372036854775807 := by unfold maxLen at hcm; omega
    have hcell : ∀ j u, (nsCells ns)[j]? = some u → w.cell? ⟨b, j, none⟩ = some u := by
      intro j u hj
      rw [Lib.cell_of_heap hb]
      rw [← htk, List.getElem?_take] at hj
      split at hj
      · simpa using hj
      · cases hj
    have hoc : ∀ j u, (nsCells (ns.take i))[j]? = some u → w.cell? ⟨b, j, none⟩ = some u := by
      intro j u hj
      apply hcell
      have : j < (nsCells (ns.take i)).length := by
        rcases Nat.lt_or_ge j (nsCells (ns.take i)).length with h | h
        · exact h
        · rw [List.getElem?_eq_none h] at hj; cases hj
      rw [e0, List.getElem?_append_left this]; exact hj
    have hdc : ∀ j u, (nsCells (ns.drop i))[j]? = some u → w.cell? ⟨b, i * 5 + j, none⟩ = some u := by
      intro j u hj
      apply hcell
      rw [e0, List.getElem?_append_right (by omega), hos, Nat.add_sub_cancel_left]; exact hj
    have hbx : vb ≠ b := by intro e; exact hvb (by rw [e]; rfl)
    have htk0 : cur.toList.take (i * 5) = nsCells (ns.take i) := by
      have h : cur.toList.take (i * 5) = (cur.toList.take (ns.length * 5)).take (i * 5) := by rw [List.take_take, Nat.min_eq_left (by omega)]
      rw [h, htk, e0, List.take_append_of_le_length (by omega), List.take_of_length_le (by omega)]
    have ecells : nsCells (ns.take i ++ x :: ns.drop i) = nsCells (ns.take i) ++ nsCells [x] ++ nsCells (ns.drop i) := by
      rw [nsCells_append, List.append_assoc, ← nsCells_append [x]]; rfl
    have elen : (ns.take i ++ x :: ns.drop i).length = ns.length + 1 := by simp; omega
    have h15 : (i + 1) * 5 = i * 5 + 1 * 5 := by omega
    by_cases hroom : ns.length + 1 ≤ c
    · refine (insert_room b ns.length c i vb cur T xo (nsCells (ns.drop i)) (nsCells [x]) w hi hroom hcm' hbx hb hcur hv hds hxs (nsCells_one _) (nsCells_one _) hdc hxc).mono ?_
      rintro e w' ⟨rfl, rfl⟩
      refine ⟨_, rfl, ⟨?_, Or.inr ⟨b, c, over (over cur ((i + 1) * 5) (nsCells (ns.drop i))) (i * 5) (nsCells [x]), ?_, hB, ?_, ?_, hcm, ?_, ?_⟩⟩, ?_⟩
      · rw [nsCells_len]
      · rw [elen]
      · exact heap_over b _ _ _ _ _ _ (heap_over b _ _ _ _ _ _ hb)
      · rw [elen]; exact hroom
      · rw [over_size, over_size]; exact hcur
      · rw [elen, ecells, h15]
        exact over_room cur _ _ _ (i * 5) (1 * 5) _ htk0 hos hxs (by rw [hds]; omega) (by omega)
      · have m1 := meta_over b (nsCells [x]) (i * 5) (w.drew.setCells b ((i + 1) * 5) (nsCells (ns.drop i)))
        have m2 := meta_over b (nsCells (ns.drop i)) ((i + 1) * 5) w.drew
        refine ⟨m1.1.trans m2.1, m1.2.1.trans m2.2.1, m1.2.2.trans m2.2.2, ?_, ?_⟩
        · rw [size_over, size_over]; exact Nat.le_refl _
        · intro k hk hne
          have hkb : k ≠ b := by rintro rfl; exact hne rfl
          rw [other_over b _ _ _ k hkb, other_over b _ _ _ k hkb]
          rfl
    · refine (insert_grow b ns.length c i vb (nsCells (ns.take i)) (nsCells (ns.drop i)) (nsCells [x]) w hi hnc (by omega) hbig hos hds hxs (nsCells_one _) (nsCells_one _) hoc hdc hxc).mono ?_
      rintro e w' ⟨G, ROW, hG1, hG2, hR1, hR2, rfl, rfl⟩
      have hA : (w.alloc (.cells ROW 106)).drew.heap[w.heap.size]? = some (.cells ROW 106 (0, 0)) := heap_alloc_new w _
      obtain ⟨W0, hW0⟩ : ∃ W0, W0 = (w.alloc (.cells ROW 106)).drew := ⟨_, rfl⟩
      rw [← hW0] at hA ⊢
      have hA2 := heap_over w.heap.size 106 (0, 0) (nsCells [x]) (i * 5) ROW W0 hA
      have hA3 : (W0.setCells w.heap.size (i * 5) (nsCells [x])).drew.heap[w.heap.size]? = _ := hA2
      have hA4 := heap_over w.heap.size 106 (0, 0) (nsCells (ns.drop i)) ((i + 1) * 5) _ _ hA3
      refine ⟨_, rfl, ⟨?_, Or.inr ⟨w.heap.size, G, over (over ROW (i * 5) (nsCells [x])) ((i + 1) * 5) (nsCells (ns.drop i)), ?_, hBw, ?_, ?_, hG2, ?_, ?_⟩⟩, ?_⟩
      · rw [nsCells_len]
      · rw [elen]
      · exact hA4
      · rw [elen]; exact hG1
      · rw [over_size, over_size]; exact hR1
      · rw [elen, ecells, h15]
        exact over_grow ROW _ _ _ (i * 5) (1 * 5) _ hR2 hos hxs (by rw [hds]; omega) (by omega)
      · have m1 := meta_over w.heap.size (nsCells (ns.drop i)) ((i + 1) * 5) (W0.setCells w.heap.size (i * 5) (nsCells [x])).drew
        have m2 := meta_over w.heap.size (nsCells [x]) (i * 5) W0
        have s1 := size_over w.heap.size (nsCells (ns.drop i)) ((i + 1) * 5) (W0.setCells w.heap.size (i * 5) (nsCells [x])).drew
        have s2 := size_over w.heap.size (nsCells [x]) (i * 5) W0
        have m3 : W0.os = w.os ∧ W0.tape = w.tape ∧ W0.output = w.output ∧ W0.heap.size = w.heap.size + 1 := by subst hW0; exact ⟨rfl, rfl, rfl, by show (w.alloc _).heap.size = _; simp⟩
        have m4 : ∀ k, k < w.heap.size → W0.heap[k]? = w.heap[k]? := fun k hk => by subst hW0; exact Below.heap_alloc w _ k hk
        refine ⟨(m1.1.trans m2.1).trans m3.1, (m1.2.1.trans m2.2.1).trans m3.2.1, (m1.2.2.trans m2.2.2).trans m3.2.2.1, ?_, ?_⟩
        · have s3 : (W0.setCells w.heap.size (i * 5) (nsCells [x])).drew.heap.size = (W0.setCells w.heap.size (i * 5) (nsCells [x])).heap.size := rfl
          omega
        · intro k hk hne
          have hkb : k ≠ w.heap.size := by omega
          have o1 := other_over w.heap.size (nsCells (ns.drop i)) ((i + 1) * 5) (W0.setCells w.heap.size (i * 5) (nsCells [x])).drew k hkb
          have o2 := other_over w.heap.size (nsCells [x]) (i * 5) W0 k hkb
          exact (o1.trans o2).trans (m4 k hk)
end Go.Proofs.YtejbififfceamaaGreatDoor
namespace Go.Proofs.YtejbififfceamaaGreatDoor
set_option linter.unusedSimpArgs false
set_option linter.unusedVariables false
set_option maxRecDepth 100000
open Go.RowKit
/-- append, of nodes, at a step of a region that draws. -/
theorem step_append_ns {ops : Array Oper} {o : Oper} {a : Act} {K : Act → World → Prop} {Q : Exit → Act → World → Prop} {E : Prop} {w : World} (hgd : o.guard = none) (s x : Operand)
    (ho : o.op = .call { callee := .builtin .append, args := #[s, x], argTypes := #[60, 60] })
    (B : Nat) (v : Value) (hs : a.eval s = v) (ns : List Nd) (hown : NsOwn w B v ns) (g2 c2 : Nat) (n : Nd) (hx : a.eval x = .slice (some ⟨g2, 0, none⟩) 1 c2)
    (hnews : ∀ j u, (nsCells [n])[j]? = some u → w.cell? ⟨g2, j, none⟩ = some u) (hbytes : (ns.length + 1) * 40 ≤ 140737488355328) (hbase : B ≤ w.heap.size)
    (h : ∀ g cap w', NsOwn w' B (.slice (some ⟨g, 0, none⟩) (ns.length + 1) cap) (ns ++ [n]) → w.grownBy w' v.ownBlock → B ≤ g → g < w'.heap.size → K (a.put o.dst (.slice (some ⟨g, 0, none⟩) (ns.length + 1) cap)) w') :
    if Region.wanted o (yielded ops a.tmps) = true then Oper.wp Tryz.prog o a w K Q else E := by
  obtain ⟨i0, hi, hz0, hz1, hz2⟩ := info_node
  refine step_append_lies w hgd s x 60 ho B 106 i0 _ 5 40 Tryz.underlying60 hi hz0 hz1 hz2 rfl (by decide) v ns.length (nsCells ns) hs hown ⟨g2, 0, none⟩ 1 c2 (nsCells [n]) hx (nsCells_len [n]) ?_ (nsCells_one [n]) (by omega) (by unfold maxLen; omega) hbytes hbase w.heap.size rfl ?_
  · intro j u hj
    rw [Addr.add_lit, Nat.zero_add]
    exact hnews j u hj
  · intro g cap w' h1 h2 h3 h4
    have e : NsOwn w' B (.slice (some ⟨g, 0, none⟩) (ns.length + 1) cap) (ns ++ [n]) := by
      unfold NsOwn
      rw [nsCells_append, List.length_append]
      exact h1
    have hg : B ≤ g := by
      rcases h3 with h3 | h3
      · rcases hown.2 with ⟨hv, _⟩ | ⟨g', cap', cur, hv, hb, _⟩
        · rw [hv] at h3; cases h3
        · rw [hv] at h3
          injection h3 with h3
          simp at h3
          omega
      · omega
    exact h g cap w' e h2 hg h4
theorem NsOwn.ne {w : World} {B : Nat} {v : Value} {ns : List Nd} (h : NsOwn w B v ns) (k : Nat) (hk : v.ownBlock = some k) : B ≤ k ∧ k < w.heap.size := by
  rcases h.2 with ⟨hv, _⟩ | ⟨b, cap, cur, hv, hb, hh, _⟩
  · rw [hv] at hk; cases hk
  · rw [hv] at hk
    injection hk with hk
    simp only at hk
    subst hk
    refine ⟨hb, ?_⟩
    rcases Nat.lt_or_ge b w.heap.size with hlt | hge
    · exact hlt
    · rw [Array.getElem?_eq_none hge] at hh; cases hh
/-- Behind a call that turned only the nodes' block: the reader is as it was. -/
theorem PA.grownN {w w' : World} {g B : Nat} {s : ByteArray} {a : Nat} {v u : Value} {l : List UInt8} {ns : List Nd} (h : PA w g s a v l) (hO : NsOwn w B u ns) (hB : g < B) (hg : w.grownBy w' u.ownBlock) : PA w' g s a v l := by
  refine ⟨(hg.block g h.lt ?_).trans h.rd, h.at', h.le, h.small⟩
  intro e
  have := (hO.ne g e.symm).1
  omega
theorem PA.setN {w : World} {g : Nat} {s : ByteArray} {a : Nat} {v : Value} {l : List UInt8} (h : PA w g s a v l) (u : Value) : PA (w.setCell ⟨g, 2, none⟩ u) g s a u l := ⟨h.rd.setNodes u, h.at', h.le, h.small⟩
theorem below_grownN {w w' : World} {g B : Nat} {u : Value} {ns : List Nd} (hO : NsOwn w B u ns) (hB : g ≤ B) (hgs : g ≤ w.heap.size) (hg : w.grownBy w' u.ownBlock) : Below g w w' :=
  ⟨hg.os, hg.tape, hg.output, hg.size, fun k hk => hg.block k (by omega) (by
    intro e
    have := (hO.ne k e.symm).1
    omega)⟩
set_option maxHeartbeats 1000000 in
theorem wrap_any (g : Nat) (s : ByteArray) (a : Nat) (v : Value) (l : List UInt8) (ns : List Nd) (i : Nat) (op : Int) (w : World) (h : PA w g s a v l) (hO : NsOwn w (g + 1) v ns) (hm : ns.length ≤ 1000) (hi : i < ns.length) :
    Calls Tryz.prog 69 #[.pointer (some ⟨g, 0, none⟩), .int .i64 i, .int .i64 op] w fun e w' => e = .returned (.tuple #[]) ∧ (∃ u, PA w' g s a u l ∧ NsOwn w' (g + 1) u (ns.take i ++ ⟨op, z4⟩ :: ns.drop i)) ∧ Below g w w' := by
  obtain ⟨c0, c1, c2, c3, f1, f2, f3⟩ := h.rd.all
  have hg := h.lt
  have HP := hid h
  have HI : Hid (∃ o : Obj, o = .cells #[.int .i64 op, .int .u64 0, .int .u64 0, .int .u64 0, .int .u64 0] 106 ∧ PA (w.alloc o) g s a v l ∧ NsOwn (w.alloc o) (g + 1) v ns ∧ Calls Tryz.prog 95 #[v, .int .i64 i, .slice (some ⟨w.heap.size, 0, none⟩) 1 1] (w.alloc o) fun e w' => ∃ u, e = .returned u ∧ NsOwn w' (g + 1) u (ns.take i ++ ⟨op, z4⟩ :: ns.drop i) ∧ (w.alloc o).grownBy w' v.ownBlock) := by
    refine ⟨_, rfl, h.below ((Below.refl _ _).alloc (Nat.le_refl _) _), hO.below ((Below.refl _ _).alloc (Nat.le_refl _) _), ?_⟩
    refine insert_any (g + 1) v ns i w.heap.size 106 _ ⟨op, z4⟩ _ (hO.below ((Below.refl _ _).alloc (Nat.le_refl _) _)) hi (by omega) (by simp; omega) (heap_alloc_new w _) ?_ ?_
    · intro j u hj
      rw [World.cell?_alloc_at (w := w) _ _ w.heap.size j rfl]
      simpa [nsCells, z4] using hj
    · intro e
      have := (hO.ne _ e.symm).2
      omega
  clear h hO hi
  go_enter Tryz.func69, Tryz.ntmps69
  go_wp2_with fail
  obtain ⟨o, ho, hpo, hOo, hcall⟩ := HI.out
  have HPO := hid hpo
  have HOO := hid hOo
  have HC := hid hcall
  clear hpo hOo hcall HI
  rw [← ho]
  refine Calls.mono HC.out ?_
  rintro e w1 ⟨u, rfl, hO1, hg1⟩
  obtain ⟨g3, cap3, hu, _, _, _⟩ := hO1.form (by simp; omega)
  obtain ⟨L, hL⟩ : ∃ L, L = (ns.take i ++ ⟨op, z4⟩ :: ns.drop i).length := ⟨_, rfl⟩
  rw [← hL] at hu
  clear hL
  subst hu
  have hp1 := HPO.out.grownN HOO.out (by omega) hg1
  have HB1 := hid (((Below.refl g w).alloc (by omega) o).trans (below_grownN HOO.out (by omega) (by simp; omega) hg1))
  have HP1 := hid hp1
  have HO1 := hid hO1
  clear c0 c1 c2 c3 f1 f2 f3
  obtain ⟨c0, c1, c2, c3, f1, f2, f3⟩ := hp1.rd.all
  clear hp1 hO1 hg1 HC ho
  go_wp2
  go_end0
  exact ⟨rfl, ⟨_, HP1.out.setN _, HO1.out.keptG (grown_cell w1 g 2 _) (Nat.lt_succ_self g)⟩, HB1.out.setCell (Nat.le_refl _) _⟩
set_option maxHeartbeats 2000000 in
theorem put_any (g : Nat) (s : ByteArray) (a : Nat) (v : Value) (l : List UInt8) (ns : List Nd) (n : Nd) (w : World) (h : PA w g s a v l) (hO : NsOwn w (g + 1) v ns) (hm : ns.length ≤ 1000) :
    Calls Tryz.prog 92 #[.pointer (some ⟨g, 0, none⟩), .int .i64 n.op, n.c.v] w fun e w' => e = .returned (.tuple #[]) ∧ (∃ u, PA w' g s a u l ∧ NsOwn w' (g + 1) u (ns ++ [n])) ∧ Below g w w' := by
  have hg := h.lt
  obtain ⟨c0, c1, c2, c3, f1, f2, f3⟩ := h.rd.ca
  have n0 : ¬ g = w.heap.size := by omega
  have n1 : ¬ w.heap.size = g := by omega
  have n2 : ¬ w.heap.size + 1 = g := by omega
  have n3 : ¬ g = w.heap.size + 1 := by omega
  have k2 : ∀ o o', ((w.alloc o).alloc o').cell? ⟨g, 2, none⟩ = some v := fun o o' => ((h.rd.alloc o).alloc o').all.2.2.1
  have AO : Hid (∀ W : World, W = ((w.alloc (.cells n.c.cells 104)).alloc (.cells #[.int .i64 n.op, .int .u64 n.c.a, .int .u64 n.c.b, .int .u64 n.c.c, .int .u64 n.c.d] 106)).drew → NsOwn W (g + 1) v ns ∧ (∀ j u, (nsCells [n])[j]? = some u → W.cell? ⟨w.heap.size + 1, j, none⟩ = some u) ∧ g + 1 ≤ W.heap.size ∧ PA W g s a v l ∧ Below g w W) := by
    rintro _ rfl
    have hB2 : Below w.heap.size w ((w.alloc (.cells n.c.cells 104)).alloc (.cells #[.int .i64 n.op, .int .u64 n.c.a, .int .u64 n.c.b, .int .u64 n.c.c, .int .u64 n.c.d] 106)).drew := (((Below.refl _ _).alloc (Nat.le_refl _) _).alloc (by simp) _).drew
    refine ⟨hO.below hB2, ?_, ?_, h.below hB2, hB2.mono (by omega)⟩
    · intro j u hj
      show ((w.alloc (.cells n.c.cells 104)).alloc _).cell? _ = _
      rw [World.cell?_alloc_at (w := w.alloc (.cells n.c.cells 104)) _ _ (w.heap.size + 1) j (by simp)]
      simpa [nsCells] using hj
    · have := hB2.size
      omega
  clear h hO
  go_enter Tryz.func92, Tryz.ntmps92
  go_wp2_with fail
  go_region_law (first | (refine step_append_ns (by rfl) _ _ (by rfl) (g + 1) v (by rfl) ns (AO.out _ rfl).1 (w.heap.size + 1) 1 n (by rfl) (AO.out _ rfl).2.1 (by omega) (AO.out _ rfl).2.2.1 ?_; intro g3 cap3 w3 ho3 hg3 hb3 hl3; have HO3 := hid ho3; have hp3 := (AO.out _ rfl).2.2.2.1.grownN (AO.out _ rfl).1 (by omega) hg3; have HB3 := hid ((AO.out _ rfl).2.2.2.2.trans (below_grownN (AO.out _ rfl).1 (by omega) (by have := (AO.out _ rfl).2.2.1; omega) hg3)); have HP3 := hid hp3; obtain ⟨d0, d1, d2, d3, e1, e2, e3⟩ := hp3.rd.all; clear ho3 hg3 hb3 hl3 hp3))
  all_goals go_wp2
  all_goals go_end0
  all_goals exact ⟨rfl, ⟨_, HP3.out.setN _, HO3.out.keptG (grown_cell _ _ _ _) (by omega)⟩, HB3.out.setCell (Nat.le_refl _) _⟩
end Go.Proofs.YtejbififfceamaaGreatDoor
namespace Go.Proofs.YtejbififfceamaaGreatDoor
set_option linter.unusedSimpArgs false
set_option linter.unusedVariables false
set_option maxRecDepth 100000
open Go.RowKit
/-- The reader at g stands ahead of l, and has laid down ns. -/
def PAt (w : World) (g : Nat) (s : ByteArray) (l : List UInt8) (ns : List Nd) : Prop := ∃ a v, PA w g s a v l ∧ NsOwn w (g + 1) v ns
theorem PAt.lt {w : World} {g : Nat} {s : ByteArray} {l : List UInt8} {ns : List Nd} (h : PAt w g s l ns) : g < w.heap.size := by
  obtain ⟨a, v, h, _⟩ := h
  exact h.lt
theorem PAt.below {w w' : World} {g : Nat} {s : ByteArray} {l : List UInt8} {ns : List Nd} (h : PAt w g s l ns) (hb : Below w.heap.size w w') : PAt w' g s l ns := by
  obtain ⟨a, v, h, hO⟩ := h
  exact ⟨a, v, h.below hb, hO.below hb⟩
theorem conv_plain (c : UInt8) (w : World) : (convert 147 9 (.slice (some ⟨w.heap.size, 0, none⟩) 1 1)).run Tryz.prog (w.alloc (.cells #[.int .u8 (c.toNat : Int)] 5)) = .ok (.string ⟨#[c]⟩) (w.alloc (.cells #[.int .u8 (c.toNat : Int)] 5)) := by
  have h := run_convert_bytes_arg (P := Tryz.prog) (w.alloc (.cells #[.int .u8 (c.toNat : Int)] 5)) 147 5 Tryz.underlying147 Tryz.underlying5 w.heap.size 0 1 1 [(c.toNat : Int)] rfl (by
    intro i hi
    have : i = 0 := by omega
    subst this
    simp) 9 Tryz.underlying9
  rw [h]
  congr 2
  simp [strOfNums]
def SgP (w : World) (g : Nat) (s : ByteArray) (ns : List Nd) (R : Except Nat (Nd × List UInt8)) (e : Ending) (w' : World) : Prop :=
  match R with
  | .ok (n, r) => e = .returned (.tuple #[]) ∧ PAt w' g s r (ns ++ [n]) ∧ Below g w w'
  | .error k => e = .panicked (mis ((s.size : Int) - (k : Int))) ∧ Stk w' g ∧ Below g w w'
theorem skipN (g : Nat) (s : ByteArray) (l : List UInt8) (ns : List Nd) (b : UInt8) (z : Int) (hz : z = (b.toNat : Int)) (w : World) (h : PAt w g s l ns) (hl : l.head? ≠ some b) :
    Calls Tryz.prog 68 #[.pointer (some ⟨g, 0, none⟩), .int .u8 z] w fun e w' => e = .returned (.bool false) ∧ PAt w' g s l ns ∧ Below w.heap.size w w' := by
  obtain ⟨a, v, h1, hO⟩ := h
  exact (skip_no g s a v l b z hz w h1 hl).mono fun _ _ x => ⟨x.1, ⟨a, v, h1.below x.2, hO.below x.2⟩, x.2⟩
theorem skipY (g : Nat) (s : ByteArray) (r : List UInt8) (ns : List Nd) (b : UInt8) (z : Int) (hz : z = (b.toNat : Int)) (w : World) (h : PAt w g s (b :: r) ns) :
    Calls Tryz.prog 68 #[.pointer (some ⟨g, 0, none⟩), .int .u8 z] w fun e w' => e = .returned (.bool true) ∧ PAt w' g s r ns ∧ Below g w w' := by
  obtain ⟨a, v, h1, hO⟩ := h
  exact (skip_yes g s a v r b z hz w h1).mono fun _ _ x => ⟨x.1, ⟨_, v, x.2.1, hO.keptG x.2.2 (Nat.lt_succ_self g)⟩, below_of_grown x.2.2 (Nat.le_refl _) (Nat.le_of_lt h1.lt)⟩
theorem putA (g : Nat) (s : ByteArray) (l : List UInt8) (ns : List Nd) (n : Nd) (w : World) (h : PAt w g s l ns) (hm : ns.length ≤ 1000) :
    Calls Tryz.prog 92 #[.pointer (some ⟨g, 0, none⟩), .int .i64 n.op, n.c.v] w fun e w' => e = .returned (.tuple #[]) ∧ PAt w' g s l (ns ++ [n]) ∧ Below g w w' := by
  obtain ⟨a, v, h1, hO⟩ := h
  exact (put_any g s a v l ns n w h1 hO hm).mono fun _ _ x => ⟨x.1, by obtain ⟨u, hu, ho⟩ := x.2.1; exact ⟨a, u, hu, ho⟩, x.2.2⟩
theorem wrapA (g : Nat) (s : ByteArray) (l : List UInt8) (p q : List Nd) (op : Int) (w : World) (h : PAt w g s l (p ++ q)) (hm : (p ++ q).length ≤ 1000) (hq : 0 < q.length) :
    Calls Tryz.prog 69 #[.pointer (some ⟨g, 0, none⟩), .int .i64 (p.length : Int), .int .i64 op] w fun e w' => e = .returned (.tuple #[]) ∧ PAt w' g s l (p ++ ⟨op, z4⟩ :: q) ∧ Below g w w' := by
  obtain ⟨a, v, h1, hO⟩ := h
  have e1 : (p ++ q).take p.length = p := by simp
  have e2 : (p ++ q).drop p.length = q := by simp
  have hc := wrap_any g s a v l (p ++ q) p.length op w h1 hO hm (by simp; omega)
  rw [e1, e2] at hc
  exact hc.mono fun _ _ x => ⟨x.1, by obtain ⟨u, hu, ho⟩ := x.2.1; exact ⟨a, u, hu, ho⟩, x.2.2⟩
theorem itemsA (g : Nat) (s : ByteArray) (l : List UInt8) (ns : List Nd) (w : World) (h : PAt w g s l ns) (c : C4) (r : List UInt8) (hr : bracket l = .ok (c, r)) :
    Calls Tryz.prog 132 #[.pointer (some ⟨g, 0, none⟩)] w fun e w' => e = .returned c.v ∧ PAt w' g s r ns ∧ Below g w w' := by
  obtain ⟨a, v, h1, hO⟩ := h
  have hc := items_any g s a v l w h1
  rw [hr] at hc
  exact hc.mono fun _ _ x => ⟨x.1, by obtain ⟨a', ha⟩ := x.2.1; exact ⟨a', v, ha, hO.keptG x.2.2 (Nat.lt_succ_self g)⟩, below_of_grown x.2.2 (Nat.le_refl _) (Nat.le_of_lt h1.lt)⟩
theorem itemsB (g : Nat) (s : ByteArray) (l : List UInt8) (ns : List Nd) (w : World) (h : PAt w g s l ns) (k : Nat) (hr : bracket l = .error k) :
    Calls Tryz.prog 132 #[.pointer (some ⟨g, 0, none⟩)] w fun e w' => e = .panicked (mis ((s.size : Int) - (k : Int))) ∧ Stk w' g ∧ Below g w w' := by
  obtain ⟨a, v, h1, hO⟩ := h
  have hc := items_any g s a v l w h1
  rw [hr] at hc
  exact hc.mono fun _ _ x => ⟨x.1, x.2.1, below_of_grown x.2.2 (Nat.le_refl _) (Nat.le_of_lt h1.lt)⟩
theorem symbolA (g : Nat) (s : ByteArray) (l : List UInt8) (ns : List Nd) (w : World) (h : PAt w g s l ns) (b : Nat) (r : List UInt8) (hr : rd1 l = .ok (b, r)) :
    Calls Tryz.prog 134 #[.pointer (some ⟨g, 0, none⟩)] w fun e w' => e = .returned (.int .u8 (b : Int)) ∧ PAt w' g s r ns ∧ Below g w w' := by
  obtain ⟨a, v, h1, hO⟩ := h
  exact (symbol_ok g s a v l b r hr w h1).mono fun _ _ x => ⟨x.1, by obtain ⟨a', ha⟩ := x.2.1; exact ⟨a', v, ha, hO.keptG x.2.2 (Nat.lt_succ_self g)⟩, below_of_grown x.2.2 (Nat.le_refl _) (Nat.le_of_lt h1.lt)⟩
theorem symbolB (g : Nat) (s : ByteArray) (l : List UInt8) (ns : List Nd) (w : World) (h : PAt w g s l ns) (k : Nat) (hr : rd1 l = .error k) :
    Calls Tryz.prog 134 #[.pointer (some ⟨g, 0, none⟩)] w fun e w' => e = .panicked (mis ((s.size : Int) - (k : Int))) ∧ Stk w' g ∧ Below g w w' := by
  obtain ⟨a, v, h1, hO⟩ := h
  exact (symbol_bad g s a v l k hr w h1).mono fun _ _ x => ⟨x.1, x.2.1, below_of_grown x.2.2 (Nat.le_refl _) (Nat.le_of_lt h1.lt)⟩
set_option maxHeartbeats 1000000 in
theorem single_begin (g : Nat) (s : ByteArray) (r : List UInt8) (ns : List Nd)  (hm : ns.length ≤ 1000) (w : World) (h : PAt w g s (94 :: r) ns) :
    Calls Tryz.prog 117 #[.pointer (some ⟨g, 0, none⟩)] w fun e w' => e = .returned (.tuple #[]) ∧ PAt w' g s r (ns ++ [⟨8, z4⟩]) ∧ Below g w w' := by
  have hlt := h.lt
  have HP := hid h
  have HB := hid (Below.refl g w)
  clear h
  go_enter Tryz.func117, Tryz.ntmps117
  go_wp2_with fail
  refine Calls.mono (skipY g s r ns 94 _ rfl _ HP.out) ?_
  rintro e w1 ⟨rfl, hp, hb⟩
  replace HP := hid hp
  replace HB := hid (HB.out.trans hb)
  clear hp hb
  go_wp2_with fail
  refine Calls.mono (putA g s _ ns ⟨8, z4⟩ _ HP.out hm) ?_
  rintro e w9 ⟨rfl, hp, hb⟩
  replace HP := hid hp
  replace HB := hid (HB.out.trans hb)
  clear hp hb
  go_wp2
  go_end0
  exact ⟨rfl, HP.out, HB.out⟩
set_option maxHeartbeats 1000000 in
theorem single_end (g : Nat) (s : ByteArray) (r : List UInt8) (ns : List Nd)  (hm : ns.length ≤ 1000) (w : World) (h : PAt w g s (36 :: r) ns) :
    Calls Tryz.prog 117 #[.pointer (some ⟨g, 0, none⟩)] w fun e w' => e = .returned (.tuple #[]) ∧ PAt w' g s r (ns ++ [⟨9, z4⟩]) ∧ Below g w w' := by
  have hlt := h.lt
  have HP := hid h
  have HB := hid (Below.refl g w)
  clear h
  go_enter Tryz.func117, Tryz.ntmps117
  go_wp2_with fail
  refine Calls.mono (skipN g s _ ns 94 _ rfl _ HP.out (by simp)) ?_
  rintro e w1 ⟨rfl, hp, hb⟩
  replace HP := hid hp
  replace HB := hid (HB.out.trans (hb.mono (Nat.le_trans (Nat.le_of_lt hlt) HB.out.size)))
  clear hp hb
  go_wp2_with fail
  refine Calls.mono (skipY g s r ns 36 _ rfl _ HP.out) ?_
  rintro e w2 ⟨rfl, hp, hb⟩
  replace HP := hid hp
  replace HB := hid (HB.out.trans hb)
  clear hp hb
  go_wp2_with fail
  refine Calls.mono (putA g s _ ns ⟨9, z4⟩ _ HP.out hm) ?_
  rintro e w9 ⟨rfl, hp, hb⟩
  replace HP := hid hp
  replace HB := hid (HB.out.trans hb)
  clear hp hb
  go_wp2
  go_end0
  exact ⟨rfl, HP.out, HB.out⟩
set_option maxHeartbeats 1000000 in
theorem single_dot (g : Nat) (s : ByteArray) (r : List UInt8) (ns : List Nd)  (hm : ns.length ≤ 1000) (w : World) (h : PAt w g s (46 :: r) ns) :
    Calls Tryz.prog 117 #[.pointer (some ⟨g, 0, none⟩)] w fun e w' => e = .returned (.tuple #[]) ∧ PAt w' g s r (ns ++ [⟨1, dotC⟩]) ∧ Below g w w' := by
  have hlt := h.lt
  have HP := hid h
  have HB := hid (Below.refl g w)
  clear h
  go_enter Tryz.func117, Tryz.ntmps117
  go_wp2_with fail
  refine Calls.mono (skipN g s _ ns 94 _ rfl _ HP.out (by simp)) ?_
  rintro e w1 ⟨rfl, hp, hb⟩
  replace HP := hid hp
  replace HB := hid (HB.out.trans (hb.mono (Nat.le_trans (Nat.le_of_lt hlt) HB.out.size)))
  clear hp hb
  go_wp2_with fail
  refine Calls.mono (skipN g s _ ns 36 _ rfl _ HP.out (by simp)) ?_
  rintro e w2 ⟨rfl, hp, hb⟩
  replace HP := hid hp
  replace HB := hid (HB.out.trans (hb.mono (Nat.le_trans (Nat.le_of_lt hlt) HB.out.size)))
  clear hp hb
  go_wp2_with fail
  refine Calls.mono (skipY g s r ns 46 _ rfl _ HP.out) ?_
  rintro e w3 ⟨rfl, hp, hb⟩
  replace HP := hid hp
  replace HB := hid (HB.out.trans hb)
  clear hp hb
  go_wp2_with fail
  refine Calls.mono (of_any ⟨#[10]⟩ _ (by show 1 ≤ _; decide)) ?_
  rintro e w4 ⟨rfl, hb⟩
  replace HP := hid (HP.out.below hb)
  replace HB := hid (HB.out.trans (hb.mono (Nat.le_trans (Nat.le_of_lt hlt) HB.out.size)))
  clear hb
  go_wp2_with fail
  refine Calls.mono (not_any (C4.ofL [10]) _) ?_
  rintro e w5 ⟨rfl, hb⟩
  replace HP := hid (HP.out.below hb)
  replace HB := hid (HB.out.trans (hb.mono (Nat.le_trans (Nat.le_of_lt hlt) HB.out.size)))
  clear hb
  go_wp2_with fail
  refine Calls.mono (putA g s _ ns ⟨1, dotC⟩ _ HP.out hm) ?_
  rintro e w9 ⟨rfl, hp, hb⟩
  replace HP := hid hp
  replace HB := hid (HB.out.trans hb)
  clear hp hb
  go_wp2
  go_end0
  exact ⟨rfl, HP.out, HB.out⟩
set_option maxHeartbeats 1000000 in
theorem single_list (g : Nat) (s : ByteArray) (r : List UInt8) (ns : List Nd) (c : C4) (r2 : List UInt8) (hr : bracket r = .ok (c, r2)) (hm : ns.length ≤ 1000) (w : World) (h : PAt w g s (91 :: r) ns) :
    Calls Tryz.prog 117 #[.pointer (some ⟨g, 0, none⟩)] w fun e w' => e = .returned (.tuple #[]) ∧ PAt w' g s r2 (ns ++ [⟨1, c⟩]) ∧ Below g w w' := by
  have hlt := h.lt
  have HP := hid h
  have HB := hid (Below.refl g w)
  clear h
  go_enter Tryz.func117, Tryz.ntmps117
  go_wp2_with fail
  refine Calls.mono (skipN g s _ ns 94 _ rfl _ HP.out (by simp)) ?_
  rintro e w1 ⟨rfl, hp, hb⟩
  replace HP := hid hp
  replace HB := hid (HB.out.trans (hb.mono (Nat.le_trans (Nat.le_of_lt hlt) HB.out.size)))
  clear hp hb
  go_wp2_with fail
  refine Calls.mono (skipN g s _ ns 36 _ rfl _ HP.out (by simp)) ?_
  rintro e w2 ⟨rfl, hp, hb⟩
  replace HP := hid hp
  replace HB := hid (HB.out.trans (hb.mono (Nat.le_trans (Nat.le_of_lt hlt) HB.out.size)))
  clear hp hb
  go_wp2_with fail
  refine Calls.mono (skipN g s _ ns 46 _ rfl _ HP.out (by simp)) ?_
  rintro e w3 ⟨rfl, hp, hb⟩
  replace HP := hid hp
  replace HB := hid (HB.out.trans (hb.mono (Nat.le_trans (Nat.le_of_lt hlt) HB.out.size)))
  clear hp hb
  go_wp2_with fail
  refine Calls.mono (skipY g s r ns 91 _ rfl _ HP.out) ?_
  rintro e w4 ⟨rfl, hp, hb⟩
  replace HP := hid hp
  replace HB := hid (HB.out.trans hb)
  clear hp hb
  go_wp2_with fail
  refine Calls.mono (itemsA g s r ns _ HP.out c r2 hr) ?_
  rintro e w5 ⟨rfl, hp, hb⟩
  replace HP := hid hp
  replace HB := hid (HB.out.trans hb)
  clear hp hb
  go_wp2_with fail
  refine Calls.mono (putA g s _ ns ⟨1, c⟩ _ HP.out hm) ?_
  rintro e w9 ⟨rfl, hp, hb⟩
  replace HP := hid hp
  replace HB := hid (HB.out.trans hb)
  clear hp hb
  go_wp2
  go_end0
  exact ⟨rfl, HP.out, HB.out⟩
set_option maxHeartbeats 1000000 in
theorem single_classBad (g : Nat) (s : ByteArray) (r : List UInt8) (ns : List Nd) (k : Nat) (hr : bracket r = .error k) (hm : ns.length ≤ 1000) (w : World) (h : PAt w g s (91 :: r) ns) :
    Calls Tryz.prog 117 #[.pointer (some ⟨g, 0, none⟩)] w fun e w' => e = .panicked (mis ((s.size : Int) - (k : Int))) ∧ Stk w' g ∧ Below g w w' := by
  have hlt := h.lt
  have HP := hid h
  have HB := hid (Below.refl g w)
  clear h
  go_enter Tryz.func117, Tryz.ntmps117
  go_wp2_with fail
  refine Calls.mono (skipN g s _ ns 94 _ rfl _ HP.out (by simp)) ?_
  rintro e w1 ⟨rfl, hp, hb⟩
  replace HP := hid hp
  replace HB := hid (HB.out.trans (hb.mono (Nat.le_trans (Nat.le_of_lt hlt) HB.out.size)))
  clear hp hb
  go_wp2_with fail
  refine Calls.mono (skipN g s _ ns 36 _ rfl _ HP.out (by simp)) ?_
  rintro e w2 ⟨rfl, hp, hb⟩
  replace HP := hid hp
  replace HB := hid (HB.out.trans (hb.mono (Nat.le_trans (Nat.le_of_lt hlt) HB.out.size)))
  clear hp hb
  go_wp2_with fail
  refine Calls.mono (skipN g s _ ns 46 _ rfl _ HP.out (by simp)) ?_
  rintro e w3 ⟨rfl, hp, hb⟩
  replace HP := hid hp
  replace HB := hid (HB.out.trans (hb.mono (Nat.le_trans (Nat.le_of_lt hlt) HB.out.size)))
  clear hp hb
  go_wp2_with fail
  refine Calls.mono (skipY g s r ns 91 _ rfl _ HP.out) ?_
  rintro e w4 ⟨rfl, hp, hb⟩
  replace HP := hid hp
  replace HB := hid (HB.out.trans hb)
  clear hp hb
  go_wp2_with fail
  refine Calls.mono (itemsB g s r ns _ HP.out k hr) ?_
  rintro e w5 ⟨rfl, hs, hb⟩
  exact ⟨rfl, rfl, hs, HB.out.trans hb⟩
set_option maxHeartbeats 1000000 in
theorem single_byteBad (g : Nat) (s : ByteArray) (l : List UInt8) (ns : List Nd) (hn94 : l.head? ≠ some 94) (hn36 : l.head? ≠ some 36) (hn46 : l.head? ≠ some 46) (hn91 : l.head? ≠ some 91) (hn40 : l.head? ≠ some 40) (k : Nat) (hr : rd1 l = .error k) (hm : ns.length ≤ 1000) (w : World) (h : PAt w g s l ns) :
    Calls Tryz.prog 117 #[.pointer (some ⟨g, 0, none⟩)] w fun e w' => e = .panicked (mis ((s.size : Int) - (k : Int))) ∧ Stk w' g ∧ Below g w w' := by
  have hlt := h.lt
  have HP := hid h
  have HB := hid (Below.refl g w)
  clear h
  go_enter Tryz.func117, Tryz.ntmps117
  go_wp2_with fail
  refine Calls.mono (skipN g s _ ns 94 _ rfl _ HP.out hn94) ?_
  rintro e w1 ⟨rfl, hp, hb⟩
  replace HP := hid hp
  replace HB := hid (HB.out.trans (hb.mono (Nat.le_trans (Nat.le_of_lt hlt) HB.out.size)))
  clear hp hb
  go_wp2_with fail
  refine Calls.mono (skipN g s _ ns 36 _ rfl _ HP.out hn36) ?_
  rintro e w2 ⟨rfl, hp, hb⟩
  replace HP := hid hp
  replace HB := hid (HB.out.trans (hb.mono (Nat.le_trans (Nat.le_of_lt hlt) HB.out.size)))
  clear hp hb
  go_wp2_with fail
  refine Calls.mono (skipN g s _ ns 46 _ rfl _ HP.out hn46) ?_
  rintro e w3 ⟨rfl, hp, hb⟩
  replace HP := hid hp
  replace HB := hid (HB.out.trans (hb.mono (Nat.le_trans (Nat.le_of_lt hlt) HB.out.size)))
  clear hp hb
  go_wp2_with fail
  refine Calls.mono (skipN g s _ ns 91 _ rfl _ HP.out hn91) ?_
  rintro e w4 ⟨rfl, hp, hb⟩
  replace HP := hid hp
  replace HB := hid (HB.out.trans (hb.mono (Nat.le_trans (Nat.le_of_lt hlt) HB.out.size)))
  clear hp hb
  go_wp2_with fail
  refine Calls.mono (skipN g s _ ns 40 _ rfl _ HP.out hn40) ?_
  rintro e w5 ⟨rfl, hp, hb⟩
  replace HP := hid hp
  replace HB := hid (HB.out.trans (hb.mono (Nat.le_trans (Nat.le_of_lt hlt) HB.out.size)))
  clear hp hb
  go_wp2_with fail
  refine Calls.mono (symbolB g s l ns _ HP.out k hr) ?_
  rintro e w6 ⟨rfl, hs, hb⟩
  exact ⟨rfl, rfl, hs, HB.out.trans hb⟩
set_option maxHeartbeats 1000000 in
theorem single_byte (g : Nat) (s : ByteArray) (l : List UInt8) (ns : List Nd) (hn94 : l.head? ≠ some 94) (hn36 : l.head? ≠ some 36) (hn46 : l.head? ≠ some 46) (hn91 : l.head? ≠ some 91) (hn40 : l.head? ≠ some 40) (b : Nat) (r : List UInt8) (hr : rd1 l = .ok (b, r)) (hm : ns.length ≤ 1000) (w : World) (h : PAt w g s l ns) :
    Calls Tryz.prog 117 #[.pointer (some ⟨g, 0, none⟩)] w fun e w' => e = .returned (.tuple #[]) ∧ PAt w' g s r (ns ++ [⟨1, z4.add ((b : Nat) : Int)⟩]) ∧ Below g w w' := by
  have hlt := h.lt
  have HP := hid h
  have HB := hid (Below.refl g w)
  clear h
  go_enter Tryz.func117, Tryz.ntmps117
  go_wp2_with fail
  refine Calls.mono (skipN g s _ ns 94 _ rfl _ HP.out hn94) ?_
  rintro e w1 ⟨rfl, hp, hb⟩
  replace HP := hid hp
  replace HB := hid (HB.out.trans (hb.mono (Nat.le_trans (Nat.le_of_lt hlt) HB.out.size)))
  clear hp hb
  go_wp2_with fail
  refine Calls.mono (skipN g s _ ns 36 _ rfl _ HP.out hn36) ?_
  rintro e w2 ⟨rfl, hp, hb⟩
  replace HP := hid hp
  replace HB := hid (HB.out.trans (hb.mono (Nat.le_trans (Nat.le_of_lt hlt) HB.out.size)))
  clear hp hb
  go_wp2_with fail
  refine Calls.mono (skipN g s _ ns 46 _ rfl _ HP.out hn46) ?_
  rintro e w3 ⟨rfl, hp, hb⟩
  replace HP := hid hp
  replace HB := hid (HB.out.trans (hb.mono (Nat.le_trans (Nat.le_of_lt hlt) HB.out.size)))
  clear hp hb
  go_wp2_with fail
  refine Calls.mono (skipN g s _ ns 91 _ rfl _ HP.out hn91) ?_
  rintro e w4 ⟨rfl, hp, hb⟩
  replace HP := hid hp
  replace HB := hid (HB.out.trans (hb.mono (Nat.le_trans (Nat.le_of_lt hlt) HB.out.size)))
  clear hp hb
  go_wp2_with fail
  refine Calls.mono (skipN g s _ ns 40 _ rfl _ HP.out hn40) ?_
  rintro e w5 ⟨rfl, hp, hb⟩
  replace HP := hid hp
  replace HB := hid (HB.out.trans (hb.mono (Nat.le_trans (Nat.le_of_lt hlt) HB.out.size)))
  clear hp hb
  go_wp2_with fail
  have HL : Hid (b < 256) := (rd1_len l b r hr).2
  refine Calls.mono (symbolA g s l ns _ HP.out b r hr) ?_
  rintro e w6 ⟨rfl, hp, hb⟩
  replace HP := hid hp
  replace HB := hid (HB.out.trans hb)
  clear hp hb
  obtain ⟨c, hc⟩ : ∃ c : UInt8, c.toNat = b := ⟨b.toUInt8, by have := HL.out; simp; omega⟩
  subst hc
  have hcv := conv_plain c w6
  go_wp2_with fail
  refine Calls.mono (of_any ⟨#[c]⟩ _ (by show 1 ≤ _; decide)) ?_
  rintro e w7 ⟨rfl, hb⟩
  have hb7 := (new_block w6 (.cells #[.int .u8 (c.toNat : Int)] 5)).trans (hb.mono (by simp))
  replace HP := hid (HP.out.below hb7)
  replace HB := hid (HB.out.trans (hb7.mono (Nat.le_trans (Nat.le_of_lt hlt) HB.out.size)))
  clear hb hb7 hcv
  go_wp2_with fail
  refine Calls.mono (putA g s _ ns ⟨1, C4.ofL [c]⟩ _ HP.out hm) ?_
  rintro e w9 ⟨rfl, hp, hb⟩
  replace HP := hid hp
  replace HB := hid (HB.out.trans hb)
  clear hp hb
  go_wp2
  go_end0
  exact ⟨rfl, HP.out, HB.out⟩
/-- What is read where no bracket opens. -/
theorem single_any (g : Nat) (s : ByteArray) (l : List UInt8) (ns : List Nd) (hm : ns.length ≤ 1000) (h40 : l.head? ≠ some 40) (w : World) (h : PAt w g s l ns) :
    Calls Tryz.prog 117 #[.pointer (some ⟨g, 0, none⟩)] w (SgP w g s ns (base l)) := by
  unfold base
  by_cases h91 : l.head? = some 91
  · rw [if_pos h91]
    rw [(tail_len l _ h91).1] at h
    cases hb : bracket l.tail with
    | error k => exact single_classBad g s l.tail ns k hb hm w h
    | ok p => obtain ⟨c, r⟩ := p; exact single_list g s l.tail ns c r hb hm w h
  · rw [if_neg h91]
    by_cases h46 : l.head? = some 46
    · rw [if_pos h46]
      rw [(tail_len l _ h46).1] at h
      exact single_dot g s l.tail ns hm w h
    · rw [if_neg h46]
      by_cases h94 : l.head? = some 94
      · rw [if_pos h94]
        rw [(tail_len l _ h94).1] at h
        exact single_begin g s l.tail ns hm w h
      · rw [if_neg h94]
        by_cases h36 : l.head? = some 36
        · rw [if_pos h36]
          rw [(tail_len l _ h36).1] at h
          exact single_end g s l.tail ns hm w h
        · rw [if_neg h36]
          cases hb : rd1 l with
          | error k => exact single_byteBad g s l ns h94 h36 h46 h91 h40 k hb hm w h
          | ok p => obtain ⟨b, r⟩ := p; exact single_byte g s l ns h94 h36 h46 h91 h40 b r hb hm w h
end Go.Proofs.YtejbififfceamaaGreatDoor
