/- The law WordsAlone, walked from what the document asks of package words. (Made by wip/tools/genwda.py.) -/
import Derived.Test.YtciaagphclddjaaY05
import Derived.BigQuiet
namespace Go.Proofs.Ytciaagphclddjaa
set_option linter.unusedSimpArgs false
set_option linter.unusedVariables false
set_option maxRecDepth 100000
open Go.RowKit
set_option maxHeartbeats 1000000 in
theorem pick_any (c : Int) (hc : (Lit.int .i64 c).wf = true) (n : Nat) (hn : 0 < n) (hm : n ≤ maxLen) (w : World) :
    Calls Try.prog 10 #[.int .i64 c, .int .i64 (n : Int)] w fun e w' => ∃ i : Nat, e = .returned (.int .i64 (i : Int)) ∧ i < n ∧ w' = w := by
  obtain ⟨hw1, hw2⟩ := bounds_i64 hc
  unfold maxLen at hm
  have hn0 : ¬ (n : Int) = 0 := by omega
  by_cases h0 : c < 0
  · obtain ⟨d, hd⟩ : ∃ d : Nat, -(c + 1) = (d : Int) := ⟨(-(c + 1)).toNat, by omega⟩
    have e1 : IntKind.i64.wrap (c + 1) = c + 1 := by rw [IntKind.wrap_i64]; omega
    have e2 : IntKind.i64.wrap (-(c + 1)) = (d : Int) := by rw [hd, IntKind.wrap_i64]; omega
    have e3 : (d : Int).tmod (n : Int) = ((d % n : Nat) : Int) := by rw [Int.tmod_eq_emod_of_nonneg (by omega)]; rfl
    have hr := Nat.mod_lt d hn
    have HD := hid hd
    clear hd
    go_enter Try.func10, Try.ntmps10
    go_wp2
    go_ret
    exact ⟨d % n, by simp [e3], hr, rfl⟩
  · obtain ⟨d, rfl⟩ : ∃ d : Nat, c = (d : Int) := ⟨c.toNat, by omega⟩
    have e3 : (d : Int).tmod (n : Int) = ((d % n : Nat) : Int) := by rw [Int.tmod_eq_emod_of_nonneg (by omega)]; rfl
    have hr := Nat.mod_lt d hn
    go_enter Try.func10, Try.ntmps10
    go_wp2
    go_ret
    exact ⟨d % n, by simp [e3], hr, rfl⟩
theorem ba_ab : (ByteArray.mk #[97, 98]).size = 2 := rfl
theorem all_ab : allR [⟨#[97, 98]⟩, ⟨#[98]⟩] ⟨#[97, 98]⟩ = [(0, 0, 2), (1, 1, 2)] ∧ wE [⟨#[97, 98]⟩, ⟨#[98]⟩] (ByteArray.mk #[97, 98]).size = 0 := by
  have hf : wF [(⟨#[97, 98]⟩ : ByteArray), ⟨#[98]⟩] = 0 := by
    unfold wF
    rw [if_neg (by simp)]
    refine wFrom_of _ _ 0 fun k _ hk => ?_
    rcases (by simp at hk; omega : k = 0 ∨ k = 1) with rfl | rfl
    · exact wBad_ok (x := ⟨#[97, 98]⟩) rfl (by decide) (fun ⟨m, hm, _⟩ => by omega)
    · refine wBad_ok (x := ⟨#[98]⟩) rfl (by decide) (fun ⟨m, hm, h⟩ => ?_)
      obtain rfl : m = 0 := by omega
      have := congrArg (fun o : Option ByteArray => o.map ByteArray.size) h
      revert this
      decide
  have h : wE [⟨#[97, 98]⟩, ⟨#[98]⟩] (ByteArray.mk #[97, 98]).size = 0 := (wE_zero _ _).2 ⟨hf, by decide⟩
  exact ⟨(allR_ok h).trans (by decide), h⟩
/-- What a hit of All says, of texts. -/
theorem allR_one {l : List ByteArray} {s : ByteArray} {j n p q : Nat} (h : (allR l s)[j]? = some (n, p, q)) : n < l.length ∧ ∃ t, l[n]? = some t ∧ p + t.size = q ∧ q ≤ s.size ∧ s.extract p q = t := by
  by_cases hE : wE l s.size = 0
  · rw [allR_ok hE] at h
    obtain ⟨⟨x, hx, h1, h2, h3⟩, h4⟩ := hits_ok (wdL l) s.data.toList _ (List.mem_of_getElem? h)
    simp only at hx h1 h2 h3 h4
    rw [wdL_len] at h4
    have ht : l[n]? = some l[n] := List.getElem?_eq_getElem h4
    have hx2 : l[n].data.toList = x := by
      have := wdL_get ht
      rw [hx] at this
      exact (Option.some.inj this).symm
    have hs : s.data.toList.length = s.size := by simp
    have hl : l[n].data.toList.length = l[n].size := by simp
    refine ⟨h4, l[n], ht, by rw [← hx2, hl] at h1; exact h1, by omega, ba_ext ?_⟩
    rw [cut_extract, h3, hx2]
  · rw [allR_bad hE] at h; cases h
/-- How many of the first j are of word i. -/
def cntI (X : List Ht) (i j : Nat) : Nat := ((X.take j).filter fun h => h.1 == i).length
theorem cntI_yes {X : List Ht} {i j p q : Nat} (h : X[j]? = some (i, p, q)) : cntI X i (j + 1) = cntI X i j + 1 ∧ (X.filter fun h => h.1 == i)[cntI X i j]? = some (i, p, q) := by
  have e : X.take (j + 1) = X.take j ++ [(i, p, q)] := by rw [List.take_add_one, h]; rfl
  have hj : j < X.length := (List.getElem?_eq_some_iff.1 h).1
  have e2 : X = X.take j ++ (i, p, q) :: X.drop (j + 1) := by
    have h1 : X.drop j = (i, p, q) :: X.drop (j + 1) := by
      rw [List.drop_eq_getElem_cons hj]
      rw [List.getElem?_eq_getElem hj] at h
      rw [Option.some.inj h]
    rw [← h1, List.take_append_drop]
  constructor
  · unfold cntI
    rw [e, List.filter_append, List.length_append]
    simp
  · unfold cntI
    conv => lhs; arg 1; rw [e2]
    rw [List.filter_append, List.filter_cons_of_pos (by simp), List.getElem?_append_right (Nat.le_refl _), Nat.sub_self]
    rfl
theorem cntI_no {X : List Ht} {i j n p q : Nat} (h : X[j]? = some (n, p, q)) (hn : ¬ n = i) : cntI X i (j + 1) = cntI X i j := by
  have e : X.take (j + 1) = X.take j ++ [(n, p, q)] := by rw [List.take_add_one, h]; rfl
  unfold cntI
  rw [e, List.filter_append, show [(n, p, q)].filter (fun h => h.1 == i) = [] by simp [hn], List.append_nil]
theorem cntI_all (X : List Ht) (i : Nat) : cntI X i X.length = (X.filter fun h => h.1 == i).length := by unfold cntI; rw [List.take_length]
theorem cntI_le (X : List Ht) (i j : Nat) : cntI X i j ≤ X.length := by
  unfold cntI
  exact Nat.le_trans (List.length_filter_le _ _) (List.length_take_le' _ _)
/-- A word among others, and alone. -/
theorem allR_alone {l : List ByteArray} {s : ByteArray} {i : Nat} {x : ByteArray} (hx : l[i]? = some x) (h : wE l s.size = 0) (h1 : wE [x] s.size = 0) : ((allR l s).filter fun h => h.1 == i).map (fun h => h.2) = (allR [x] s).map (fun h => h.2) := by
  rw [allR_ok h, allR_ok h1]
  exact hits_alone (wdL l) s.data.toList i x.data.toList (wdL_get hx)
theorem wE_alone {l : List ByteArray} {i n : Nat} {x : ByteArray} (hx : l[i]? = some x) (h : wE l n = 0) : wE [x] n = 0 := by
  obtain ⟨h1, h2⟩ := (wE_zero _ _).1 h
  obtain ⟨_, h3⟩ := wF_zero h1
  obtain ⟨h4, h5⟩ := h3 x (List.mem_of_getElem? hx)
  exact (wE_zero _ _).2 ⟨wF_one h4 h5, h2⟩
theorem hits_zero {l : List ByteArray} (h : ∀ y ∈ l, ¬ (0 : UInt8) ∈ y.data.toList ∧ 1 ≤ y.size) (s t : ByteArray) : hits (wdL l) (s ++ ByteArray.mk #[0] ++ t).data.toList = hits (wdL l) s.data.toList ++ (hits (wdL l) t.data.toList).map (shift (s.size + 1)) := by
  have h5 := hits_between (wdL l) (fun x hx => by
    unfold wdL at hx
    obtain ⟨y, hy, rfl⟩ := List.mem_map.1 hx
    refine ⟨(h y hy).1, ?_⟩
    have h1 := (h y hy).2
    have h2 : y.data.toList.length = y.size := by simp
    omega) s.data.toList t.data.toList
  have e1 : (s ++ ByteArray.mk #[0] ++ t).data.toList = s.data.toList ++ 0 :: t.data.toList := by
    simp [ByteArray.data_append]
  have e2 : s.data.toList.length = s.size := by simp
  rw [e1, h5, e2]
/-- Between two rounds of the last loop. -/
def WaR (X Y : List Ht) (d B : Nat) (w : World) (j : Nat) (u : Value) (wr : World) : Prop := HtOwn wr B u (X ++ (Y.take j).map (shift d)) ∧ Below B w wr
theorem WaR.next {X Y : List Ht} {d B : Nat} {w w' : World} {j : Nat} {u' : Value} {x : Ht} (hx : Y[j]? = some x) (h : HtOwn w' B u' ((X ++ (Y.take j).map (shift d)) ++ [shift d x])) (hb : Below B w w') : WaR X Y d B w (j + 1) u' w' := by
  refine ⟨?_, hb⟩
  have e : Y.take (j + 1) = Y.take j ++ [x] := by rw [List.take_add_one, hx]; rfl
  rw [e, List.map_append, ← List.append_assoc]
  exact h
set_option maxHeartbeats 8000000 in
theorem wordsAlone_bad {X : World → Prop} (hXb : ∀ w w', X w → Below w.heap.size w w' → X w') (W : WordsL X) (l : List ByteArray) (v : Value) (s t : ByteArray) (k : Int) (hs : s.size ≤ maxLen) (ht : t.size + 401 ≤ maxLen) (hk : (Lit.int .i64 k).wf = true) (w : World) (hX : X w) (hN : TsIn w v l) (wN : ∀ x ∈ l, x.size ≤ maxLen) (h1 : ¬ wE l s.size = 0) :
    Calls Try.prog 4 #[v, .string s, .string t, .int .i64 k] w fun e w' => e = .returned (.bool true) ∧ Below w.heap.size w w' := by
  obtain ⟨W1, hW1⟩ : ∃ W1, w.alloc (.cells #[.string ⟨#[97, 98]⟩, .string ⟨#[98]⟩] 9) = W1 := ⟨_, rfl⟩
  have hB1 : Below w.heap.size w W1 := by rw [← hW1]; exact (Below.refl _ _).alloc (Nat.le_refl _) _
  have hb1 : TsIn W1 (.slice (some ⟨w.heap.size, 0, none⟩) 2 2) [⟨#[97, 98]⟩, ⟨#[98]⟩] := by
    refine ⟨_, 2, rfl, by unfold maxLen; simp, Or.inr ⟨w.heap.size, 0, rfl, by rw [← hW1]; simp, fun i t hi => ?_⟩⟩
    have hh : W1.heap[w.heap.size]? = some (.cells #[.string ⟨#[97, 98]⟩, .string ⟨#[98]⟩] 9 (0, 0)) := by rw [← hW1]; exact heap_alloc_new w _
    have : i = 0 ∨ i = 1 := by
      have := (List.getElem?_eq_some_iff.1 hi).1
      simp at this
      omega
    rcases this with rfl | rfl
    · simp at hi; subst hi; exact (Lib.cell_of_heap hh 0).trans rfl
    · simp at hi; subst hi; exact (Lib.cell_of_heap hh 1).trans rfl
  have HA0 := hid (W.any [⟨#[97, 98]⟩, ⟨#[98]⟩] _ ⟨#[97, 98]⟩ W1 (hXb _ _ hX hB1) hb1 (by intro x hx; simp at hx; rcases hx with rfl | rfl <;> (unfold maxLen; decide)) (by unfold maxLen; decide))
  rw [all_ab.1, all_ab.2, show errV 0 = .nilIface from rfl] at HA0
  have HA := hid (fun (m : List ByteArray) (u : Value) (t : ByteArray) w' (hb : Below w.heap.size w w') (hu : TsIn w' u m) (wm : ∀ x ∈ m, x.size ≤ maxLen) (ht : t.size ≤ maxLen) => W.any m u t w' (hXb w w' hX hb) hu wm ht)
  have HN := hid (fun w' (hb : Below w.heap.size w w') => hN.below hb)
  have HWN := hid wN
  have HAX := hid (fun w' (hb : Below w.heap.size w w') => HA.out l v s w' hb (HN.out w' hb) wN hs)
  rw [show errV (wE l s.size) = .iface 52 (.int .i64 (wE l s.size)) by unfold errV; rw [if_neg h1]] at HAX
  obtain ⟨va, vc, rfl, vm, hvv⟩ := hN
  have HVV := hid hvv
  have HB1 := hid hB1
  clear hB1 hb1 hvv hXb hX W wN
  go_enter Try.func4, Try.ntmps4
  go_wp2_with fail
  refine Calls.mono HA0.out ?_
  rintro e w2 ⟨a2, c2, rfl, hb2, h2⟩
  obtain ⟨a2', c2', hq2, _, h2 | ⟨b2, o2, rfl, hl2, h2⟩⟩ := h2
  · cases h2
  injection hq2 with q1 _ q2
  subst q1 q2
  obtain ⟨_, d1, _⟩ := h2 0 (0, 0, 2) rfl
  obtain ⟨_, d2, _⟩ := h2 1 (1, 1, 2) rfl
  simp only [Nat.zero_mul, Nat.add_zero, Nat.one_mul] at d1 d2
  have HB2 := hid (HB1.out.trans (hb2.mono HB1.out.size))
  clear hb2 hW1 HB1 HA0 h2
  go_wp2_with fail
  refine Calls.mono (HAX.out w2 HB2.out) ?_
  rintro e w5 ⟨a5, c5, rfl, hb5, hx5⟩
  have HB5 := hid (HB2.out.trans (hb5.mono HB2.out.size))
  clear hb5 hx5
  go_wp2
  go_ret
  exact ⟨rfl, HB5.out⟩

set_option maxHeartbeats 8000000 in
theorem wordsAlone_nil {X : World → Prop} (hXb : ∀ w w', X w → Below w.heap.size w w' → X w') (W : WordsL X) (l : List ByteArray) (v : Value) (s t : ByteArray) (k : Int) (hs : s.size ≤ maxLen) (ht : t.size + 401 ≤ maxLen) (hk : (Lit.int .i64 k).wf = true) (w : World) (hX : X w) (hN : TsIn w v l) (wN : ∀ x ∈ l, x.size ≤ maxLen) (h1 : wE l s.size = 0) (h0 : l = []) :
    Calls Try.prog 4 #[v, .string s, .string t, .int .i64 k] w fun e w' => e = .returned (.bool true) ∧ Below w.heap.size w w' := by
  obtain ⟨W1, hW1⟩ : ∃ W1, w.alloc (.cells #[.string ⟨#[97, 98]⟩, .string ⟨#[98]⟩] 9) = W1 := ⟨_, rfl⟩
  have hB1 : Below w.heap.size w W1 := by rw [← hW1]; exact (Below.refl _ _).alloc (Nat.le_refl _) _
  have hb1 : TsIn W1 (.slice (some ⟨w.heap.size, 0, none⟩) 2 2) [⟨#[97, 98]⟩, ⟨#[98]⟩] := by
    refine ⟨_, 2, rfl, by unfold maxLen; simp, Or.inr ⟨w.heap.size, 0, rfl, by rw [← hW1]; simp, fun i t hi => ?_⟩⟩
    have hh : W1.heap[w.heap.size]? = some (.cells #[.string ⟨#[97, 98]⟩, .string ⟨#[98]⟩] 9 (0, 0)) := by rw [← hW1]; exact heap_alloc_new w _
    have : i = 0 ∨ i = 1 := by
      have := (List.getElem?_eq_some_iff.1 hi).1
      simp at this
      omega
    rcases this with rfl | rfl
    · simp at hi; subst hi; exact (Lib.cell_of_heap hh 0).trans rfl
    · simp at hi; subst hi; exact (Lib.cell_of_heap hh 1).trans rfl
  have HA0 := hid (W.any [⟨#[97, 98]⟩, ⟨#[98]⟩] _ ⟨#[97, 98]⟩ W1 (hXb _ _ hX hB1) hb1 (by intro x hx; simp at hx; rcases hx with rfl | rfl <;> (unfold maxLen; decide)) (by unfold maxLen; decide))
  rw [all_ab.1, all_ab.2, show errV 0 = .nilIface from rfl] at HA0
  have HA := hid (fun (m : List ByteArray) (u : Value) (t : ByteArray) w' (hb : Below w.heap.size w w') (hu : TsIn w' u m) (wm : ∀ x ∈ m, x.size ≤ maxLen) (ht : t.size ≤ maxLen) => W.any m u t w' (hXb w w' hX hb) hu wm ht)
  have HN := hid (fun w' (hb : Below w.heap.size w w') => hN.below hb)
  have HWN := hid wN
  have HAX := hid (fun w' (hb : Below w.heap.size w w') => HA.out l v s w' hb (HN.out w' hb) wN hs)
  have hz : (allR l s).length = 0 := by
    rw [allR_ok h1, h0, show wdL [] = [] from rfl]
    have : ∀ m, hitsTo [] s.data.toList m = [] := fun m => by
      induction m with
      | zero => rfl
      | succ m ih => rw [hitsTo, ih]; rfl
    exact congrArg List.length (this _)
  rw [h1, show errV 0 = .nilIface from rfl, hz] at HAX
  subst h0
  clear hz
  obtain ⟨va, vc, rfl, vm, hvv⟩ := hN
  simp only [List.length_nil] at HAX ⊢
  have HVV := hid hvv
  have HB1 := hid hB1
  clear hB1 hb1 hvv hXb hX W wN
  go_enter Try.func4, Try.ntmps4
  go_wp2_with fail
  refine Calls.mono HA0.out ?_
  rintro e w2 ⟨a2, c2, rfl, hb2, h2⟩
  obtain ⟨a2', c2', hq2, _, h2 | ⟨b2, o2, rfl, hl2, h2⟩⟩ := h2
  · cases h2
  injection hq2 with q1 _ q2
  subst q1 q2
  obtain ⟨_, d1, _⟩ := h2 0 (0, 0, 2) rfl
  obtain ⟨_, d2, _⟩ := h2 1 (1, 1, 2) rfl
  simp only [Nat.zero_mul, Nat.add_zero, Nat.one_mul] at d1 d2
  have HB2 := hid (HB1.out.trans (hb2.mono HB1.out.size))
  clear hb2 hW1 HB1 HA0 h2
  go_wp2_with fail
  refine Calls.mono (HAX.out w2 HB2.out) ?_
  rintro e w5 ⟨a5, c5, rfl, hb5, hx5⟩
  have HB5 := hid (HB2.out.trans (hb5.mono HB2.out.size))
  clear hb5 hx5
  go_wp2
  go_ret
  exact ⟨rfl, HB5.out⟩
/-- Between two rounds of the first loop. -/
def AlR (X : List Ht) (i : Nat) (w : World) (j m : Nat) (wr : World) : Prop := m = cntI X i j ∧ Below w.heap.size w wr
set_option maxHeartbeats 16000000 in
theorem wordsAlone_ok {X : World → Prop} (hXb : ∀ w w', X w → Below w.heap.size w w' → X w') (W : WordsL X) (l : List ByteArray) (v : Value) (s t : ByteArray) (k : Int) (hs : s.size ≤ maxLen) (ht : t.size + 401 ≤ maxLen) (hk : (Lit.int .i64 k).wf = true) (w : World) (hX : X w) (hN : TsIn w v l) (wN : ∀ x ∈ l, x.size ≤ maxLen) (h1 : wE l s.size = 0) (h0 : ¬ l = []) :
    Calls Try.prog 4 #[v, .string s, .string t, .int .i64 k] w fun e w' => e = .returned (.bool true) ∧ Below w.heap.size w w' := by
  obtain ⟨W1, hW1⟩ : ∃ W1, w.alloc (.cells #[.string ⟨#[97, 98]⟩, .string ⟨#[98]⟩] 9) = W1 := ⟨_, rfl⟩
  have hB1 : Below w.heap.size w W1 := by rw [← hW1]; exact (Below.refl _ _).alloc (Nat.le_refl _) _
  have hb1 : TsIn W1 (.slice (some ⟨w.heap.size, 0, none⟩) 2 2) [⟨#[97, 98]⟩, ⟨#[98]⟩] := by
    refine ⟨_, 2, rfl, by unfold maxLen; simp, Or.inr ⟨w.heap.size, 0, rfl, by rw [← hW1]; simp, fun i t hi => ?_⟩⟩
    have hh : W1.heap[w.heap.size]? = some (.cells #[.string ⟨#[97, 98]⟩, .string ⟨#[98]⟩] 9 (0, 0)) := by rw [← hW1]; exact heap_alloc_new w _
    have : i = 0 ∨ i = 1 := by
      have := (List.getElem?_eq_some_iff.1 hi).1
      simp at this
      omega
    rcases this with rfl | rfl
    · simp at hi; subst hi; exact (Lib.cell_of_heap hh 0).trans rfl
    · simp at hi; subst hi; exact (Lib.cell_of_heap hh 1).trans rfl
  have HA0 := hid (W.any [⟨#[97, 98]⟩, ⟨#[98]⟩] _ ⟨#[97, 98]⟩ W1 (hXb _ _ hX hB1) hb1 (by intro x hx; simp at hx; rcases hx with rfl | rfl <;> (unfold maxLen; decide)) (by unfold maxLen; decide))
  rw [all_ab.1, all_ab.2, show errV 0 = .nilIface from rfl] at HA0
  have HA := hid (fun (m : List ByteArray) (u : Value) (t : ByteArray) w' (hb : Below w.heap.size w w') (hu : TsIn w' u m) (wm : ∀ x ∈ m, x.size ≤ maxLen) (ht : t.size ≤ maxLen) => W.any m u t w' (hXb w w' hX hb) hu wm ht)
  have HN := hid (fun w' (hb : Below w.heap.size w w') => hN.below hb)
  have HWN := hid wN
  have HAX := hid (fun w' (hb : Below w.heap.size w w') => HA.out l v s w' hb (HN.out w' hb) wN hs)
  obtain ⟨hwf, hs4⟩ := (wE_zero _ _).1 h1
  obtain ⟨h20, hsz2⟩ := wF_zero hwf
  have hXl : (allR l s).length ≤ 8020 := by rw [allR_ok h1]; exact hits_long _ h20 _ (by simpa using hs4)
  have HAT := hid (fun w' (hb : Below w.heap.size w w') => HA.out l v t w' hb (HN.out w' hb) wN (by omega))
  have HAZ := hid (fun (z : ByteArray) (hz : z.size ≤ maxLen) w' (hb : Below w.heap.size w w') => HA.out l v z w' hb (HN.out w' hb) wN hz)
  rw [h1, show errV 0 = .nilIface from rfl] at HAX
  have hlp : 0 < l.length := List.length_pos_iff.2 h0
  have hl0 : ((l.length : Int) == 0) = false := by rw [beq_eq_false_iff_ne]; omega
  obtain ⟨va, vc, rfl, vm, hvv⟩ := hN
  have HVV := hid hvv
  have HB1 := hid hB1
  clear hB1 hb1 hvv hXb hX W wN
  go_enter Try.func4, Try.ntmps4
  go_wp2_with fail
  refine Calls.mono HA0.out ?_
  rintro e w2 ⟨a2, c2, rfl, hb2, h2⟩
  obtain ⟨a2', c2', hq2, _, h2 | ⟨b2, o2, rfl, hl2, h2⟩⟩ := h2
  · cases h2
  injection hq2 with q1 _ q2
  subst q1 q2
  obtain ⟨_, d1, _⟩ := h2 0 (0, 0, 2) rfl
  obtain ⟨_, d2, _⟩ := h2 1 (1, 1, 2) rfl
  simp only [Nat.zero_mul, Nat.add_zero, Nat.one_mul] at d1 d2
  have HB2 := hid (HB1.out.trans (hb2.mono HB1.out.size))
  clear hb2 hW1 HB1 HA0 h2
  go_wp2_with fail
  refine Calls.mono (HAX.out w2 HB2.out) ?_
  rintro e w3 ⟨a3, c3, rfl, hb3, hx3⟩
  have HB3 := hid (HB2.out.trans (hb3.mono HB2.out.size))
  have HX3 := hid hx3
  clear hb3 hx3 d1 d2 HB2
  go_wp2_with fail
  refine Calls.mono (pick_any k hk l.length hlp (by unfold maxLen; omega) w3) ?_
  rintro e w4 ⟨i, rfl, hil, rfl⟩
  obtain ⟨x, hx⟩ : ∃ x, l[i]? = some x := ⟨l[i], List.getElem?_eq_getElem hil⟩
  rcases HVV.out with hnil | ⟨bl, ol, rfl, hbl, hcl⟩
  · exact absurd hnil h0
  have hw1 : IntKind.i64.wrap ((i : Int) + 1) = (i : Int) + 1 := by rw [IntKind.wrap_i64]; omega
  obtain ⟨hc1, hc2⟩ := vm
  unfold maxLen at hc2
  have HAO := hid (fun w' (hb : Below w.heap.size w w') => HA.out [x] (.slice (some ⟨bl, ol + i, none⟩) 1 (vc - i)) s w' hb ⟨_, vc - i, rfl, ⟨by simp; omega, by unfold maxLen; omega⟩, Or.inr ⟨bl, ol + i, rfl, Nat.lt_of_lt_of_le hbl hb.size, fun j u hj => by
    have hj0 : j = 0 := by
      have := (List.getElem?_eq_some_iff.1 hj).1
      simp at this
      omega
    subst hj0
    simp at hj
    subst hj
    exact (hb.cell (p := ⟨bl, ol + i, none⟩) hbl).trans (hcl i x hx)⟩⟩ (by simpa using HWN.out x (List.mem_of_getElem? hx)) hs)
  have h3 := wE_alone hx h1
  rw [h3, show errV 0 = .nilIface from rfl] at HAO
  have g0 : (0 : Int) ≤ (i : Int) := by omega
  have g1 : (i : Int) + 1 ≤ (vc : Int) := by omega
  go_wp2_with fail
  refine Calls.mono (HAO.out w4 HB3.out) ?_
  rintro e w5 ⟨a5, c5, rfl, hb5, ho5⟩
  have HB5 := hid (HB3.out.trans (hb5.mono HB3.out.size))
  have HX5 := hid (HX3.out.below hb5)
  have HO5 := hid ho5
  have HONE := hid (fun j n p q (h : (allR l s)[j]? = some (n, p, q)) => allR_one h)
  have HALO := hid (allR_alone hx h1 h3)
  have hOl : (allR [x] s).length ≤ 8020 := by rw [allR_ok h3]; exact hits_long _ (by simp) _ (by simpa using hs4)
  have HXL := hid (allR_ok h1)
  have HX := hid hx
  clear hb5 ho5 HX3 HB3 HAO hx
  generalize allR l s = X at *
  generalize allR [x] s = O at *
  obtain ⟨a5', c5', hq5, _, hO5⟩ := HO5.out
  injection hq5 with q1 _ q2
  subst q1 q2
  obtain ⟨a3', c3', hq3, _, hX5⟩ := HX5.out
  injection hq3 with q1 _ q2
  subst q1 q2
  have HOO := hid hO5
  have HXX := hid hX5
  clear hO5 hX5
  have hLW : Hid (∀ j, j < l.length → ∀ w', Below w5.heap.size w5 w' → w'.cell? ⟨bl, ol + j, none⟩ = some (.string (l.getD j ByteArray.empty))) := fun j hj w' hb => by
    have h2 := (HB5.out.trans (hb.mono HB5.out.size)).cell (p := ⟨bl, ol + j, none⟩) hbl
    rw [h2, hcl j l[j] (List.getElem?_eq_getElem hj)]
    simp [List.getD, List.getElem?_eq_getElem hj]
  have H0 : Hid (AlR X i w5 0 0 w5) := ⟨rfl, Below.refl _ _⟩
  go_wp2_with fail
  go_loopw [16, 17] (fun mv jv wr => ∃ j m : Nat, j ≤ X.length ∧ jv = .int .i64 (j : Int) ∧ mv = .int .i64 (m : Int) ∧ Hid (AlR X i w5 j m wr)) (fun _ jv _ => X.length - (intOf jv).toNat)
  case atStart => exact ⟨0, 0, by omega, rfl, rfl, H0⟩
  case round =>
    clear H0
    obtain ⟨j, m, hj, rfl, rfl, HR⟩ := hrel
    have HMM := hid HR.out.1
    have hB := HR.out.2
    by_cases hjl : j < X.length
    · obtain ⟨⟨n, p, q⟩, hxj⟩ : ∃ x, X[j]? = some x := ⟨X[j], List.getElem?_eq_getElem hjl⟩
      rcases HXX.out with hnil | ⟨b6, o6, rfl, hb6, hat⟩
      · rw [hnil] at hjl; simp at hjl
      obtain ⟨d0, d1, d2⟩ := hat j (n, p, q) hxj
      replace d0 := (hB.cell (p := ⟨b6, _, none⟩) hb6).trans d0
      replace d1 := (hB.cell (p := ⟨b6, _, none⟩) hb6).trans d1
      replace d2 := (hB.cell (p := ⟨b6, _, none⟩) hb6).trans d2
      simp only at d0 d1 d2
      obtain ⟨hnl, y, hy, hpq, hqs, hex⟩ := HONE.out j n p q hxj
      have g2 : (0 : Int) ≤ (j : Int) := by omega
      have g3 : (j : Int) < (X.length : Int) := by omega
      have HXJ := hid hxj
      obtain ⟨W6, hW6⟩ : ∃ W6, wr.alloc (.cells #[.int .i64 (n : Int), .int .i64 (p : Int), .int .i64 (q : Int)] 43) = W6 := ⟨_, rfl⟩
      have hb6' : Below wr.heap.size wr W6 := by rw [← hW6]; exact (Below.refl _ _).alloc (Nat.le_refl _) _
      have hB6 := hB.trans (hb6'.mono hB.size)
      have hh6 : W6.heap[wr.heap.size]? = some (.cells #[.int .i64 (n : Int), .int .i64 (p : Int), .int .i64 (q : Int)] 43 (0, 0)) := by rw [← hW6]; exact heap_alloc_new wr _
      have e0 := Lib.cell_of_heap hh6 0
      have e1 := Lib.cell_of_heap hh6 1
      have e2 := Lib.cell_of_heap hh6 2
      simp only [List.getElem?_toArray, List.getElem?_cons_zero, List.getElem?_cons_succ] at e0 e1 e2
      have hly : l.getD n ByteArray.empty = y := by simp [List.getD, hy]
      have e3 := hLW.out n hnl W6 hB6
      rw [hly] at e3
      have i0 : decide ((n : Int) < 0) = false := by simp
      have i1 : decide ((l.length : Int) ≤ (n : Int)) = false := by simp; omega
      have i2 : decide ((p : Int) < 0) = false := by simp
      have i3 : decide ((s.size : Int) < (q : Int)) = false := by simp; omega
      have i4 : decide ((q : Int) < (p : Int)) = false := by simp; omega
      subst hex
      have j1 : decide (l.length ≤ n) = false := by simp; omega
      have j3 : decide (s.size < q) = false := by simp; omega
      have j4 : decide (q < p) = false := by simp; omega
      have i5 : (p : Int) ≤ (q : Int) := by omega
      have i6 : (q : Int) ≤ (s.size : Int) := by omega
      have i7 : (n : Int) < (l.length : Int) := by omega
      have i8 : (0 : Int) ≤ (n : Int) := by omega
      have i9 : (0 : Int) ≤ (p : Int) := by omega
      have hB6' := hid hB6
      clear hat hxj hB hb6' hB6 hy hh6
      go_wp2_with fail
      go_big_quiet (fail)
      have HB7 := hid (hB6'.out.trans ((below_drewN' W6 nq).mono hB6'.out.size))
      have f0 : (W6.drewN nq).cell? ⟨wr.heap.size, 0, none⟩ = some (.int .i64 (n : Int)) := e0
      have f1 : (W6.drewN nq).cell? ⟨wr.heap.size, 1, none⟩ = some (.int .i64 (p : Int)) := e1
      have f2 : (W6.drewN nq).cell? ⟨wr.heap.size, 2, none⟩ = some (.int .i64 (q : Int)) := e2
      clear e0 e1 e2 e3 d0 d1 d2 i0 i1 i2 i3 i4 j1 j3 j4 i5 i6 i7 i8 i9 hW6 hB6' hly
      generalize W6.drewN nq = W7 at *
      have hmX := cntI_le X i j
      by_cases hni : n = i
      · subst hni
        obtain ⟨c1, c2⟩ := cntI_yes HXJ.out
        have hq : O[m]?.map (fun h => h.2) = some (p, q) := by
          have h4 := congrArg (fun L => L[m]?) HALO.out
          simp only [List.getElem?_map] at h4
          rw [HMM.out, c2] at h4
          rw [HMM.out]
          exact h4.symm
        obtain ⟨⟨z, p', q'⟩, hO, hpq'⟩ := Option.map_eq_some_iff.1 hq
        simp only [Prod.mk.injEq] at hpq'
        obtain ⟨rfl, rfl⟩ := hpq'
        have hmO : m < O.length := (List.getElem?_eq_some_iff.1 hO).1
        rcases HOO.out with hnil | ⟨bo, oo, rfl, hbo, hao⟩
        · rw [hnil] at hmO; simp at hmO
        obtain ⟨_, s1, s2⟩ := hao m (z, p', q') hO
        replace s1 := (HB7.out.cell (p := ⟨bo, _, none⟩) hbo).trans s1
        replace s2 := (HB7.out.cell (p := ⟨bo, _, none⟩) hbo).trans s2
        simp only at s1 s2
        have k0 : (0 : Int) ≤ (m : Int) := by omega
        have k1 : (m : Int) < (O.length : Int) := by omega
        have k2 : decide ((O.length : Int) ≤ (m : Int)) = false := by simp; omega
        have k3 : decide (O.length ≤ m) = false := by simp; omega
        have hsp := fun w => eqSp (p' : Int) (q' : Int) (p' : Int) (q' : Int) w
        simp only [beq_self_eq_true, Bool.and_self] at hsp
        have HR2 : Hid (AlR X n w5 (j + 1) (m + 1) W7) := ⟨by rw [c1, HMM.out], HB7.out⟩
        clear hq hO hao HXJ HALO HONE c1 c2 HR hpq hqs
        go_wp2_with fail
        go_big_quiet (fail)
        have HR3 : Hid (AlR X n w5 (j + 1) (m + 1) (W7.drewN nq)) := ⟨HR2.out.1, HR2.out.2.trans ((below_drewN' W7 nq).mono HR2.out.2.size)⟩
        clear s1 s2 k2 k3 hsp HR2 HB7 f0 f1 f2
        generalize W7.drewN nq = W9 at *
        go_wp2
        exact ⟨⟨j + 1, m + 1, by omega, by go_num, by go_num, HR3⟩, by simp [intOf]; omega⟩
      · have hni1 : ((n : Int) == (i : Int)) = false := by rw [beq_eq_false_iff_ne]; omega
        have HR2 : Hid (AlR X i w5 (j + 1) m W7) := ⟨by rw [cntI_no HXJ.out hni, HMM.out], HB7.out⟩
        clear HXJ HALO HONE HR hpq hqs
        go_wp2
        exact ⟨⟨j + 1, m, by omega, by go_num, rfl, HR2⟩, by simp [intOf]; omega⟩
    · have hjX : j = X.length := by omega
      have hmO : m = O.length := by
        rw [HMM.out, hjX, cntI_all]
        have := congrArg List.length HALO.out
        simpa using this
      subst hmO
      have HBr := hid hB
      clear HALO HONE HOO HO5 HMM HR hB
      go_wp2_with fail
      go_loopw [19] (fun jv wz => ∃ r : Nat, r ≤ l.length ∧ jv = .int .i64 (r : Int) ∧ wz = wr ∧ Hid (∀ r', r' < r → ∀ y, l[r']? = some y → ¬ (0 : UInt8) ∈ y.data.toList)) (fun jv _ => l.length - (intOf jv).toNat)
      case atStart => exact ⟨0, by omega, rfl, rfl, fun r' h => by omega⟩
      case round =>
        obtain ⟨r, hr, rfl, rfl, HZ⟩ := hrel
        by_cases hrl : r < l.length
        · obtain ⟨y, hy⟩ : ∃ y, l[r]? = some y := ⟨l[r], List.getElem?_eq_getElem hrl⟩
          have cy := hLW.out r hrl _ HBr.out
          rw [show l.getD r ByteArray.empty = y by simp [List.getD, hy]] at cy
          have hys := (hsz2 y (List.mem_of_getElem? hy)).2
          have t0 : (0 : Int) ≤ (r : Int) := by omega
          have t1 : (r : Int) < (l.length : Int) := by omega
          have HY := hid hy
          have HZ0 := hid HZ.out
          clear hy HZ
          go_wp2_with fail
          go_loopw [20] (fun bv wz => ∃ b : Nat, b ≤ y.size ∧ bv = .int .i64 (b : Int) ∧ wz = wr ∧ Hid (∀ c, c < b → ∀ u, y.data.toList[c]? = some u → ¬ u = 0)) (fun bv _ => y.size - (intOf bv).toNat)
          case atStart => exact ⟨0, by omega, rfl, rfl, fun c h => by omega⟩
          case round =>
            obtain ⟨b, hb, rfl, rfl, HC⟩ := hrel
            by_cases hbl2 : b < y.size
            · have t2 : (0 : Int) ≤ (b : Int) := by omega
              have t3 : (b : Int) < (y.size : Int) := by omega
              have hyb : y.data.toList[b]? = some y[b] := by
                rw [List.getElem?_eq_getElem (by simpa using hbl2)]; rfl
              by_cases hz : y[b].toNat = 0
              · have hz1 : ((y[b].toNat : Int) == 0) = true := by rw [hz]; rfl
                have HBW := hid (HB5.out.trans (HBr.out.mono HB5.out.size))
                clear HC hyb
                go_wp2
                go_ret
                exact ⟨rfl, HBW.out⟩
              · have hz1 : ((y[b].toNat : Int) == 0) = false := by rw [beq_eq_false_iff_ne]; omega
                have HC2 : Hid (∀ c, c < b + 1 → ∀ u, y.data.toList[c]? = some u → ¬ u = 0) := fun c hc u hu => by
                  by_cases hcb : c = b
                  · subst hcb
                    rw [hyb] at hu
                    obtain rfl := Option.some.inj hu
                    intro e
                    exact hz (by rw [e]; rfl)
                  · exact HC.out c (by omega) u hu
                clear HC hyb hz
                go_wp2
                exact ⟨⟨b + 1, by omega, by go_num, (by first | exact trivial | rfl), HC2⟩, by simp [intOf]; omega⟩
            · have HZ2 : Hid (∀ r', r' < r + 1 → ∀ y, l[r']? = some y → ¬ (0 : UInt8) ∈ y.data.toList) := fun r' hr' y' hy' => by
                by_cases hrr : r' = r
                · subst hrr
                  rw [HY.out] at hy'
                  obtain rfl := Option.some.inj hy'
                  intro hmem
                  obtain ⟨c, hc⟩ := List.mem_iff_getElem?.1 hmem
                  refine HC.out c ?_ 0 hc rfl
                  have := (List.getElem?_eq_some_iff.1 hc).1
                  simp at this
                  omega
                · exact HZ0.out r' (by omega) y' hy'
              have t3 : (y.size : Int) ≤ (b : Int) := by omega
              clear HC HZ0 HY
              go_wp2
              exact ⟨⟨r + 1, by omega, by go_num, (by first | exact trivial | rfl), HZ2⟩, by simp [intOf]; omega⟩
        · have hrr : r = l.length := by omega
          subst hrr
          have HBW := hid (HB5.out.trans (HBr.out.mono HB5.out.size))
          have HX8 := hid (HX5.out.below HBr.out)
          have hzs : (s ++ ByteArray.mk #[0] ++ t).size ≤ maxLen := by
            rw [ByteArray.size_append, ByteArray.size_append]
            show s.size + 1 + t.size ≤ maxLen
            omega
          have HT8 := hid (HAT.out wr HBW.out)
          have HZ8 := hid (fun w' (hb : Below w.heap.size w w') => HAZ.out (s ++ ByteArray.mk #[0] ++ t) hzs w' hb)
          have u0 : s.size + 1 ≤ 2 ^ 63 - 1 := by omega
          have u1 : s.size + 1 + t.size ≤ 2 ^ 63 - 1 := by unfold maxLen at ht; omega
          have u2 : (s ++ ByteArray.mk #[0]).size ≤ 2 ^ 63 - 1 := by rw [ByteArray.size_append]; exact u0
          have u3 : (s ++ ByteArray.mk #[0] ++ t).size ≤ 2 ^ 63 - 1 := by rw [ByteArray.size_append, ByteArray.size_append]; exact u1
          clear HX5 HXX HBr HAT HAZ
          by_cases hE1 : wE l t.size = 0
          case neg =>
            rw [show errV (wE l t.size) = .iface 52 (.int .i64 (wE l t.size)) by unfold errV; rw [if_neg hE1]] at HT8
            go_wp2_with fail
            refine Calls.mono HT8.out ?_
            rintro e w9 ⟨a9, c9, rfl, hb9, _⟩
            have HB9 := hid (HBW.out.trans (hb9.mono HBW.out.size))
            clear hb9
            go_wp2_with fail
            refine Calls.mono (HZ8.out w9 HB9.out) ?_
            rintro e w10 ⟨a10, c10, rfl, hb10, _⟩
            have HB10 := hid (HB9.out.trans (hb10.mono HB9.out.size))
            clear hb10
            go_wp2
            go_ret
            exact ⟨rfl, HB10.out⟩
          case pos =>
            have hYL := allR_ok hE1
            have hYl : (allR l t).length ≤ 8020 := by rw [hYL]; exact hits_long _ h20 _ (by simpa using ((wE_zero _ _).1 hE1).2)
            rw [hE1, show errV 0 = .nilIface from rfl] at HT8
            have HYL := hid hYL
            have HONT := hid (fun j n p q (h : (allR l t)[j]? = some (n, p, q)) => allR_one h)
            clear hYL
            go_wp2_with fail
            refine Calls.mono HT8.out ?_
            rintro e w9 ⟨a9, c9, rfl, hb9, hy9⟩
            have HB9 := hid (HBW.out.trans (hb9.mono HBW.out.size))
            have HX9 := hid (HX8.out.below hb9)
            have HY9 := hid hy9
            clear hb9 hy9 HX8 HT8 HBW
            generalize allR l t = Y at *
            by_cases hE2 : wE l (s ++ ByteArray.mk #[0] ++ t).size = 0
            case neg =>
              have HZ9 := hid (HZ8.out w9 HB9.out)
              rw [show errV (wE l (s ++ ByteArray.mk #[0] ++ t).size) = .iface 52 (.int .i64 (wE l (s ++ ByteArray.mk #[0] ++ t).size)) by unfold errV; rw [if_neg hE2]] at HZ9
              go_wp2_with fail
              refine Calls.mono HZ9.out ?_
              rintro e w10 ⟨a10, c10, rfl, hb10, _⟩
              have HB10 := hid (HB9.out.trans (hb10.mono HB9.out.size))
              clear hb10
              go_wp2
              go_ret
              exact ⟨rfl, HB10.out⟩
            case pos =>
              have HZ9 := hid (HZ8.out w9 HB9.out)
              rw [hE2, show errV 0 = .nilIface from rfl] at HZ9
              have hS4 : s.size ≤ 400 := by simpa using hs4
              have HZL : Hid (allR l (s ++ ByteArray.mk #[0] ++ t) = X ++ Y.map (shift (s.size + 1))) := by
                show _ = _
                rw [allR_ok hE2, HXL.out, HYL.out]
                exact hits_zero (fun y hy => by
                  obtain ⟨r, hr⟩ := List.mem_iff_getElem?.1 hy
                  exact ⟨HZ.out r (List.getElem?_eq_some_iff.1 hr).1 y hr, (hsz2 y hy).1⟩) s t
              generalize allR l (s ++ ByteArray.mk #[0] ++ t) = Z at *
              clear HZ8 HZ
              go_wp2_with fail
              refine Calls.mono HZ9.out ?_
              rintro e w10 ⟨a10, c10, rfl, hb10, hz10⟩
              have HB10 := hid (HB9.out.trans (hb10.mono HB9.out.size))
              have HX10 := hid (HX9.out.below hb10)
              have HY10 := hid (HY9.out.below hb10)
              have HZ10 := hid hz10
              clear hb10 hz10 HX9 HY9 HZ9 HB9
              go_wp2_with (at_builtin; refine wpList_append_htn rfl _ _ rfl w10.heap.size rfl a3 c3 X rfl HX10.out (by omega) (Nat.le_refl _) ?_; intro wv w11 hown hbb)
              have H0 : Hid (WaR X Y (s.size + 1) w10.heap.size w10 0 wv w11) := ⟨by simpa using hown, hbb⟩
              obtain ⟨a9', c9', hq9, _, hY9⟩ := HY10.out
              injection hq9 with q1 q3 q2
              clear q3
              subst q1 q2
              have HYY := hid hY9
              have HS10 : Hid (w.heap.size ≤ w10.heap.size) := HB10.out.size
              clear hown hbb HX10 hY9 HY10 u0 u1 u2 u3 hzs hr hrl hE1 hE2
              go_loopw [25, 26] (fun u v wr => ∃ j : Nat, j ≤ Y.length ∧ v = .int .i64 (j : Int) ∧ Hid (WaR X Y (s.size + 1) w10.heap.size w10 j u wr)) (fun _ v _ => Y.length - (intOf v).toNat)
              case atStart => exact ⟨0, by omega, rfl, H0⟩
              case round =>
                clear H0
                obtain ⟨j, hj, rfl, HR⟩ := hrel
                by_cases hjl : j < Y.length
                · obtain ⟨⟨n, p, q⟩, hxj⟩ : ∃ x, Y[j]? = some x := ⟨Y[j], List.getElem?_eq_getElem hjl⟩
                  rcases HYY.out with hnil | ⟨b7, o7, rfl, hb7, hat⟩
                  · rw [hnil] at hjl; simp at hjl
                  have hB := HR.out.2
                  obtain ⟨d0, d1, d2⟩ := hat j (n, p, q) hxj
                  replace d0 := (hB.cell (p := ⟨b7, _, none⟩) hb7).trans d0
                  replace d1 := (hB.cell (p := ⟨b7, _, none⟩) hb7).trans d1
                  replace d2 := (hB.cell (p := ⟨b7, _, none⟩) hb7).trans d2
                  simp only at d0 d1 d2
                  obtain ⟨-, y, -, hpq, hqs, -⟩ := HONT.out j n p q hxj
                  have g2 : (0 : Int) ≤ (j : Int) := by omega
                  have g3 : (j : Int) < (Y.length : Int) := by omega
                  have g4 : (p : Int) + (s.size : Int) + 1 ≤ 9223372036854775807 := by unfold maxLen at ht; omega
                  have g5 : (q : Int) + (s.size : Int) + 1 ≤ 9223372036854775807 := by unfold maxLen at ht; omega
                  have HXJ := hid hxj
                  have HPQ := hid hpq
                  have HQS := hid hqs
                  have wp1 : IntKind.i64.wrap ((p : Int) + (s.size : Int)) = (p : Int) + (s.size : Int) := by rw [IntKind.wrap_i64]; omega
                  have wp2 : IntKind.i64.wrap ((p : Int) + (s.size : Int) + 1) = (p : Int) + (s.size : Int) + 1 := by rw [IntKind.wrap_i64]; omega
                  have wq1 : IntKind.i64.wrap ((q : Int) + (s.size : Int)) = (q : Int) + (s.size : Int) := by rw [IntKind.wrap_i64]; omega
                  have wq2 : IntKind.i64.wrap ((q : Int) + (s.size : Int) + 1) = (q : Int) + (s.size : Int) + 1 := by rw [IntKind.wrap_i64]; omega
                  clear hpq hqs hxj hat hB g4 g5
                  obtain ⟨ua, uc, rfl⟩ := HR.out.1.form
                  obtain ⟨LL, hLL⟩ : ∃ LL, X ++ (Y.take j).map (shift (s.size + 1)) = LL := ⟨_, rfl⟩
                  have hLn : LL.length ≤ 16040 := by
                    rw [← hLL, List.length_append, List.length_map]
                    have h3 := List.length_take_le j Y
                    omega
                  have HLL := hid hLL
                  have hO : HtOwn wr w10.heap.size (.slice ua (X ++ (Y.take j).map (shift (s.size + 1))).length uc) (X ++ (Y.take j).map (shift (s.size + 1))) := HR.out.1
                  rw [hLL] at hO
                  have HB2 : Hid (Below w10.heap.size w10 ((wr.alloc (.cells #[.int .i64 (n : Int), .int .i64 ((p : Int) + (s.size : Int) + 1), .int .i64 ((q : Int) + (s.size : Int) + 1)] 43)).alloc (.cells #[.int .i64 (n : Int), .int .i64 ((p : Int) + (s.size : Int) + 1), .int .i64 ((q : Int) + (s.size : Int) + 1)] 43))) :=
                    (HR.out.2.alloc HR.out.2.size (.cells #[.int .i64 (n : Int), .int .i64 ((p : Int) + (s.size : Int) + 1), .int .i64 ((q : Int) + (s.size : Int) + 1)] 43)).alloc (HR.out.2.alloc HR.out.2.size (.cells #[.int .i64 (n : Int), .int .i64 ((p : Int) + (s.size : Int) + 1), .int .i64 ((q : Int) + (s.size : Int) + 1)] 43)).size (.cells #[.int .i64 (n : Int), .int .i64 ((p : Int) + (s.size : Int) + 1), .int .i64 ((q : Int) + (s.size : Int) + 1)] 43)
                  have HO2 : Hid (HtOwn ((wr.alloc (.cells #[.int .i64 (n : Int), .int .i64 ((p : Int) + (s.size : Int) + 1), .int .i64 ((q : Int) + (s.size : Int) + 1)] 43)).alloc (.cells #[.int .i64 (n : Int), .int .i64 ((p : Int) + (s.size : Int) + 1), .int .i64 ((q : Int) + (s.size : Int) + 1)] 43)) w10.heap.size (.slice ua LL.length uc) LL) :=
                    (hO.kept ((Below.refl _ _).alloc (Nat.le_refl _) _)).kept ((Below.refl _ _).alloc (Nat.le_refl _) _)
                  have hh : ((wr.alloc (.cells #[.int .i64 (n : Int), .int .i64 ((p : Int) + (s.size : Int) + 1), .int .i64 ((q : Int) + (s.size : Int) + 1)] 43)).alloc (.cells #[.int .i64 (n : Int), .int .i64 ((p : Int) + (s.size : Int) + 1), .int .i64 ((q : Int) + (s.size : Int) + 1)] 43)).heap[wr.heap.size + 1]? = some (.cells #[.int .i64 (n : Int), .int .i64 ((p : Int) + (s.size : Int) + 1), .int .i64 ((q : Int) + (s.size : Int) + 1)] 43) := by
                    have h := heap_alloc_new (wr.alloc (.cells #[.int .i64 (n : Int), .int .i64 ((p : Int) + (s.size : Int) + 1), .int .i64 ((q : Int) + (s.size : Int) + 1)] 43)) (.cells #[.int .i64 (n : Int), .int .i64 ((p : Int) + (s.size : Int) + 1), .int .i64 ((q : Int) + (s.size : Int) + 1)] 43)
                    have e : (wr.alloc (.cells #[.int .i64 (n : Int), .int .i64 ((p : Int) + (s.size : Int) + 1), .int .i64 ((q : Int) + (s.size : Int) + 1)] 43)).heap.size = wr.heap.size + 1 := by simp
                    rw [e] at h
                    exact h
                  have z1 : ((p + (s.size + 1) : Nat) : Int) = (p : Int) + (s.size : Int) + 1 := by omega
                  have z2 : ((q + (s.size + 1) : Nat) : Int) = (q : Int) + (s.size : Int) + 1 := by omega
                  have K0 : Hid (((wr.alloc (.cells #[.int .i64 (n : Int), .int .i64 ((p : Int) + (s.size : Int) + 1), .int .i64 ((q : Int) + (s.size : Int) + 1)] 43)).alloc (.cells #[.int .i64 (n : Int), .int .i64 ((p : Int) + (s.size : Int) + 1), .int .i64 ((q : Int) + (s.size : Int) + 1)] 43)).cell? ⟨wr.heap.size + 1, 0, none⟩ = some (.int .i64 (n : Int))) := (Lib.cell_of_heap hh 0).trans rfl
                  have K1 : Hid (((wr.alloc (.cells #[.int .i64 (n : Int), .int .i64 ((p : Int) + (s.size : Int) + 1), .int .i64 ((q : Int) + (s.size : Int) + 1)] 43)).alloc (.cells #[.int .i64 (n : Int), .int .i64 ((p : Int) + (s.size : Int) + 1), .int .i64 ((q : Int) + (s.size : Int) + 1)] 43)).cell? ⟨wr.heap.size + 1, 1, none⟩ = some (.int .i64 ((p + (s.size + 1) : Nat) : Int))) := by rw [z1]; exact (Lib.cell_of_heap hh 1).trans rfl
                  have K2 : Hid (((wr.alloc (.cells #[.int .i64 (n : Int), .int .i64 ((p : Int) + (s.size : Int) + 1), .int .i64 ((q : Int) + (s.size : Int) + 1)] 43)).alloc (.cells #[.int .i64 (n : Int), .int .i64 ((p : Int) + (s.size : Int) + 1), .int .i64 ((q : Int) + (s.size : Int) + 1)] 43)).cell? ⟨wr.heap.size + 1, 2, none⟩ = some (.int .i64 ((q + (s.size + 1) : Nat) : Int))) := by rw [z2]; exact (Lib.cell_of_heap hh 2).trans rfl
                  rw [hLL]
                  clear hLL hh z1 z2 hO
                  go_wp2_with (at_builtin; refine wpList_append_ht rfl _ _ rfl w10.heap.size _ rfl LL HO2.out (wr.heap.size + 1) 1 (n, p + (s.size + 1), q + (s.size + 1)) rfl K0.out K1.out K2.out (by omega) HB2.out.size ?_; intro g cap' w8 hown hgr _ _)
                  have HR2 : Hid (WaR X Y (s.size + 1) w10.heap.size w10 (j + 1) (.slice (some ⟨g, 0, none⟩) (LL.length + 1) cap') w8) :=
                    WaR.next HXJ.out (by rw [HLL.out]; exact hown) (HB2.out.trans (HO2.out.grown HB2.out.size hgr))
                  clear hown hgr HO2 HB2 K0 K1 K2
                  exact ⟨⟨j + 1, by omega, by go_num, HR2⟩, by simp [intOf]; omega⟩
                · have hj2 : j = Y.length := by omega
                  subst hj2
                  have hR := HR.out
                  unfold WaR at hR
                  rw [List.take_length] at hR
                  obtain ⟨hO, hB⟩ := hR
                  rw [← HZL.out] at hO
                  have hZl : Z.length ≤ maxLen := by
                    rw [HZL.out, List.length_append, List.length_map]
                    unfold maxLen
                    omega
                  have HH := hid (hits_s_any Z Z _ _ wr (HZ10.out.below hB) (hO.isIn hZl))
                  rw [htEq_self] at HH
                  have HBR := hid (HB10.out.trans (hB.mono HB10.out.size))
                  clear hO hB HR HZL HZ10
                  go_wp2_with fail
                  refine Calls.mono HH.out ?_
                  rintro e w12 ⟨rfl, hb12⟩
                  go_wp2
                  go_ret
                  exact ⟨by simp, HBR.out.trans (hb12.mono HBR.out.size)⟩
theorem wordsAlone_any {X : World → Prop} (hXb : ∀ w w', X w → Below w.heap.size w w' → X w') (W : WordsL X) (l : List ByteArray) (v : Value) (s t : ByteArray) (k : Int) (hs : s.size ≤ maxLen) (ht : t.size + 401 ≤ maxLen) (hk : (Lit.int .i64 k).wf = true) (w : World) (hX : X w) (hN : TsIn w v l) (wN : ∀ x ∈ l, x.size ≤ maxLen) :
    Calls Try.prog 4 #[v, .string s, .string t, .int .i64 k] w fun e w' => e = .returned (.bool true) ∧ Below w.heap.size w w' := by
  by_cases h1 : wE l s.size = 0
  · by_cases h0 : l = []
    · exact wordsAlone_nil hXb W l v s t k hs ht hk w hX hN wN h1 h0
    · exact wordsAlone_ok hXb W l v s t k hs ht hk w hX hN wN h1 h0
  · exact wordsAlone_bad hXb W l v s t k hs ht hk w hX hN wN h1
end Go.Proofs.Ytciaagphclddjaa
