/- slices.Insert, of one node, into nodes of the call's own. -/
import Derived.Test.YtmdfdlljeggbbaaIns
set_option linter.unusedSimpArgs false
set_option linter.unusedVariables false
set_option maxRecDepth 100000
namespace Go.Proofs.Ytmdfdlljeggbbaa
open Go.RowKit
theorem over_room (cur : Array Value) (os ds xs : List Value) (p m n : Nat) (h1 : cur.toList.take p = os) (hp : os.length = p) (hx : xs.length = m) (hn : p + m + ds.length = n) (hc : n ≤ cur.size) :
    (over (over cur (p + m) ds) p xs).toList.take n = os ++ xs ++ ds := by
  have e1 := over_list ds (p + m) cur (by omega)
  have hs : (over cur (p + m) ds).size = cur.size := over_size _ _ _
  have e2 := over_list xs p (over cur (p + m) ds) (by rw [hs]; omega)
  rw [e2, e1]
  have a1 : (cur.toList.take (p + m) ++ ds ++ cur.toList.drop (p + m + ds.length)).take p = os := by
    rw [List.append_assoc, List.take_append_of_le_length (by simp; omega), List.take_take, Nat.min_eq_left (by omega), h1]
  have a2 : (cur.toList.take (p + m) ++ ds ++ cur.toList.drop (p + m + ds.length)).drop (p + xs.length) = ds ++ cur.toList.drop (p + m + ds.length) := by
    rw [List.append_assoc, hx, List.drop_append_of_le_length (by simp; omega), List.drop_eq_nil_of_le (by simp; omega)]
    rfl
  rw [a1, a2, ← List.append_assoc, List.take_append_of_le_length (by simp; omega), List.take_of_length_le (by simp; omega)]
theorem over_grow (row : Array Value) (os ds xs : List Value) (p m n : Nat) (h1 : row.toList.take p = os) (hp : os.length = p) (hx : xs.length = m) (hn : p + m + ds.length = n) (hc : n ≤ row.size) :
    (over (over row p xs) (p + m) ds).toList.take n = os ++ xs ++ ds := by
  have e1 := over_list xs p row (by omega)
  have hs : (over row p xs).size = row.size := over_size _ _ _
  have e2 := over_list ds (p + m) (over row p xs) (by rw [hs]; omega)
  rw [e2, e1, h1]
  have a1 : (os ++ xs ++ row.toList.drop (p + xs.length)).take (p + m) = os ++ xs := by
    rw [List.take_append_of_le_length (by simp; omega), List.take_of_length_le (by simp; omega)]
  rw [a1, List.take_append_of_le_length (by simp; omega), List.take_of_length_le (by simp; omega)]
set_option maxHeartbeats 1000000 in
/-- Insert, of one node. -/
theorem insert_any (B : Nat) (v : Value) (ns : List Nd) (i vb : Nat) (T : TypeId) (xo : Array Value) (x : Nd) (w : World) (hown : NsOwn w B v ns) (hi : i < ns.length) (hbig : (ns.length + 1) * 40 ≤ 140737488355328) (hBw : B ≤ w.heap.size)
    (hv : w.heap[vb]? = some (.cells xo T (0, 0))) (hxc : ∀ j u, (nsCells [x])[j]? = some u → w.cell? ⟨vb, j, none⟩ = some u) (hvb : some vb ≠ v.ownBlock) :
    Calls Try.prog 51 #[v, .int .i64 i, .slice (some ⟨vb, 0, none⟩) 1 1] w fun e w' => ∃ u, e = .returned u ∧ NsOwn w' B u (ns.take i ++ x :: ns.drop i) ∧ w.grownBy w' v.ownBlock := by
  rcases hown.2 with ⟨_, h0⟩ | ⟨b, c, cur, rfl, hB, hb, hnc, hcm, hcur, htk⟩
  · omega
  · have hlen := hown.1
    have e0 : nsCells ns = nsCells (ns.take i) ++ nsCells (ns.drop i) := by rw [← nsCells_append, List.take_append_drop]
    have hos : (nsCells (ns.take i)).length = i * 5 := by rw [nsCells_len, List.length_take, Nat.min_eq_left (by omega)]
    have hds : (nsCells (ns.drop i)).length = (ns.length - i) * 5 := by rw [nsCells_len, List.length_drop]
    have hxs : (nsCells [x]).length = 1 * 5 := nsCells_len [x]
    have hcm' : c ≤ 9223372036854775807 := by unfold maxLen at hcm; omega
    have hcell : ∀ j u, (nsCells ns)[j]? = some u → w.cell? ⟨b, j, none⟩ = some u := by
      intro j u hj
      rw [Lib.cell_of_heap hb]
      rw [← htk, List.getElem?_take] at hj
      split at hj
      · simpa using hj
      · cases hj
    have hoc : ∀ j u, (nsCells (ns.take i))[j]? = some u → w.cell? ⟨b, j, none⟩ = some u := by
      intro j u hj
      apply hcell
      have : j < (nsCells (ns.take i)).length := by
        rcases Nat.lt_or_ge j (nsCells (ns.take i)).length with h | h
        · exact h
        · rw [List.getElem?_eq_none h] at hj; cases hj
      rw [e0, List.getElem?_append_left this]; exact hj
    have hdc : ∀ j u, (nsCells (ns.drop i))[j]? = some u → w.cell? ⟨b, i * 5 + j, none⟩ = some u := by
      intro j u hj
      apply hcell
      rw [e0, List.getElem?_append_right (by omega), hos, Nat.add_sub_cancel_left]; exact hj
    have hbx : vb ≠ b := by intro e; exact hvb (by rw [e]; rfl)
    have htk0 : cur.toList.take (i * 5) = nsCells (ns.take i) := by
      have h : cur.toList.take (i * 5) = (cur.toList.take (ns.length * 5)).take (i * 5) := by rw [List.take_take, Nat.min_eq_left (by omega)]
      rw [h, htk, e0, List.take_append_of_le_length (by omega), List.take_of_length_le (by omega)]
    have ecells : nsCells (ns.take i ++ x :: ns.drop i) = nsCells (ns.take i) ++ nsCells [x] ++ nsCells (ns.drop i) := by
      rw [nsCells_append, List.append_assoc, ← nsCells_append [x]]; rfl
    have elen : (ns.take i ++ x :: ns.drop i).length = ns.length + 1 := by simp; omega
    have h15 : (i + 1) * 5 = i * 5 + 1 * 5 := by omega
    by_cases hroom : ns.length + 1 ≤ c
    · refine (insert_room b ns.length c i vb cur T xo (nsCells (ns.drop i)) (nsCells [x]) w hi hroom hcm' hbx hb hcur hv hds hxs (nsCells_one _) (nsCells_one _) hdc hxc).mono ?_
      rintro e w' ⟨rfl, rfl⟩
      refine ⟨_, rfl, ⟨?_, Or.inr ⟨b, c, over (over cur ((i + 1) * 5) (nsCells (ns.drop i))) (i * 5) (nsCells [x]), ?_, hB, ?_, ?_, hcm, ?_, ?_⟩⟩, ?_⟩
      · rw [nsCells_len]
      · rw [elen]
      · exact heap_over b _ _ _ _ _ _ (heap_over b _ _ _ _ _ _ hb)
      · rw [elen]; exact hroom
      · rw [over_size, over_size]; exact hcur
      · rw [elen, ecells, h15]
        exact over_room cur _ _ _ (i * 5) (1 * 5) _ htk0 hos hxs (by rw [hds]; omega) (by omega)
      · have m1 := meta_over b (nsCells [x]) (i * 5) (w.drew.setCells b ((i + 1) * 5) (nsCells (ns.drop i)))
        have m2 := meta_over b (nsCells (ns.drop i)) ((i + 1) * 5) w.drew
        refine ⟨m1.1.trans m2.1, m1.2.1.trans m2.2.1, m1.2.2.trans m2.2.2, ?_, ?_⟩
        · rw [size_over, size_over]; exact Nat.le_refl _
        · intro k hk hne
          have hkb : k ≠ b := by rintro rfl; exact hne rfl
          rw [other_over b _ _ _ k hkb, other_over b _ _ _ k hkb]
          rfl
    · refine (insert_grow b ns.length c i vb (nsCells (ns.take i)) (nsCells (ns.drop i)) (nsCells [x]) w hi hnc (by omega) hbig hos hds hxs (nsCells_one _) (nsCells_one _) hoc hdc hxc).mono ?_
      rintro e w' ⟨G, ROW, hG1, hG2, hR1, hR2, rfl, rfl⟩
      have hA : (w.alloc (.cells ROW 37)).drew.heap[w.heap.size]? = some (.cells ROW 37 (0, 0)) := heap_alloc_new w _
      obtain ⟨W0, hW0⟩ : ∃ W0, W0 = (w.alloc (.cells ROW 37)).drew := ⟨_, rfl⟩
      rw [← hW0] at hA ⊢
      have hA2 := heap_over w.heap.size 37 (0, 0) (nsCells [x]) (i * 5) ROW W0 hA
      have hA3 : (W0.setCells w.heap.size (i * 5) (nsCells [x])).drew.heap[w.heap.size]? = _ := hA2
      have hA4 := heap_over w.heap.size 37 (0, 0) (nsCells (ns.drop i)) ((i + 1) * 5) _ _ hA3
      refine ⟨_, rfl, ⟨?_, Or.inr ⟨w.heap.size, G, over (over ROW (i * 5) (nsCells [x])) ((i + 1) * 5) (nsCells (ns.drop i)), ?_, hBw, ?_, ?_, hG2, ?_, ?_⟩⟩, ?_⟩
      · rw [nsCells_len]
      · rw [elen]
      · exact hA4
      · rw [elen]; exact hG1
      · rw [over_size, over_size]; exact hR1
      · rw [elen, ecells, h15]
        exact over_grow ROW _ _ _ (i * 5) (1 * 5) _ hR2 hos hxs (by rw [hds]; omega) (by omega)
      · have m1 := meta_over w.heap.size (nsCells (ns.drop i)) ((i + 1) * 5) (W0.setCells w.heap.size (i * 5) (nsCells [x])).drew
        have m2 := meta_over w.heap.size (nsCells [x]) (i * 5) W0
        have s1 := size_over w.heap.size (nsCells (ns.drop i)) ((i + 1) * 5) (W0.setCells w.heap.size (i * 5) (nsCells [x])).drew
        have s2 := size_over w.heap.size (nsCells [x]) (i * 5) W0
        have m3 : W0.os = w.os ∧ W0.tape = w.tape ∧ W0.output = w.output ∧ W0.heap.size = w.heap.size + 1 := by subst hW0; exact ⟨rfl, rfl, rfl, by show (w.alloc _).heap.size = _; simp⟩
        have m4 : ∀ k, k < w.heap.size → W0.heap[k]? = w.heap[k]? := fun k hk => by subst hW0; exact Below.heap_alloc w _ k hk
        refine ⟨(m1.1.trans m2.1).trans m3.1, (m1.2.1.trans m2.2.1).trans m3.2.1, (m1.2.2.trans m2.2.2).trans m3.2.2.1, ?_, ?_⟩
        · have s3 : (W0.setCells w.heap.size (i * 5) (nsCells [x])).drew.heap.size = (W0.setCells w.heap.size (i * 5) (nsCells [x])).heap.size := rfl
          omega
        · intro k hk hne
          have hkb : k ≠ w.heap.size := by omega
          have o1 := other_over w.heap.size (nsCells (ns.drop i)) ((i + 1) * 5) (W0.setCells w.heap.size (i * 5) (nsCells [x])).drew k hkb
          have o2 := other_over w.heap.size (nsCells [x]) (i * 5) W0 k hkb
          exact (o1.trans o2).trans (m4 k hk)
end Go.Proofs.Ytmdfdlljeggbbaa
