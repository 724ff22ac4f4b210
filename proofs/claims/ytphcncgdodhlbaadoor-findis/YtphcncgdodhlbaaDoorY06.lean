/- What the document's own functions answer: Parts, EndOf. What the document's own functions answer: Reach at a node with parts. append, of a number. A pattern's text. What the document's own functions answer: Reach at a tree; EndsOf. What the document's own functions answer: FindOf. -/
import Derived.Test.YtphcncgdodhlbaaDoorY02
import Derived.Test.YtphcncgdodhlbaaDoorY05
import Derived.Test.YtphcncgdodhlbaaDoorY04
import Derived.OwnWalk
import Derived.KernelRfl
import Derived.Test.YtphcncgdodhlbaaDoorY03
namespace Go.Proofs.YtphcncgdodhlbaaDoor
set_option linter.unusedSimpArgs false
set_option linter.unusedVariables false
set_option maxRecDepth 100000
open Go.RowKit

set_option maxHeartbeats 400000 in
theorem parts_any (op : Int) (w : World) :
    Calls Tryd.prog 30 #[.int .i64 op] w fun e w' => e = .returned (.int .i64 (prt op)) ∧ w' = w := by
  by_cases h3 : op = 3
  · subst h3
    go_enter Tryd.func30, Tryd.ntmps30
    go_wp2
    go_ret
    exact ⟨rfl, rfl⟩
  · have b3 : (op == 3) = false := by simp [h3]
    by_cases h4 : op = 4
    · subst h4
      go_enter Tryd.func30, Tryd.ntmps30
      go_wp2
      go_ret
      exact ⟨rfl, rfl⟩
    · have b4 : (op == 4) = false := by simp [h4]
      by_cases h5 : op = 5
      · subst h5
        go_enter Tryd.func30, Tryd.ntmps30
        go_wp2
        go_ret
        exact ⟨rfl, rfl⟩
      · have b5 : (op == 5) = false := by simp [h5]
        by_cases h6 : op = 6
        · subst h6
          go_enter Tryd.func30, Tryd.ntmps30
          go_wp2
          go_ret
          exact ⟨rfl, rfl⟩
        · have b6 : (op == 6) = false := by simp [h6]
          by_cases h7 : op = 7
          · subst h7
            go_enter Tryd.func30, Tryd.ntmps30
            go_wp2
            go_ret
            exact ⟨rfl, rfl⟩
          · have b7 : (op == 7) = false := by simp [h7]
            have e0 : prt op = 0 := by unfold prt; simp [h3, h4, h5, h6, h7]
            rw [e0]
            clear h3 h4 h5 h6 h7 e0
            go_enter Tryd.func30, Tryd.ntmps30
            go_wp2
            go_ret
            exact ⟨rfl, rfl⟩
set_option maxHeartbeats 1000000 in
theorem endOf_walk (ns : List Nd) (b off cap f i : Nat) (hm : ns.length ≤ maxLen) (w : World) (hN : NsAt w b off ns)
    (ih : ∀ j, ns.length + 1 ≤ f + j → Calls Tryd.prog 17 #[.slice (some ⟨b, off, none⟩) ns.length cap, .int .i64 j] w fun e w' => e = .returned (.int .i64 (endI (endF ns f j))) ∧ w' = w)
    (hf : ns.length + 1 ≤ f + 1 + i) :
    Calls Tryd.prog 17 #[.slice (some ⟨b, off, none⟩) ns.length cap, .int .i64 i] w fun e w' => e = .returned (.int .i64 (endI (endF ns (f + 1) i))) ∧ w' = w := by
  have IH := (show Hid _ from ih)
  unfold maxLen at hm
  clear ih
  by_cases hi : i < ns.length
  · obtain ⟨n, hn⟩ : ∃ n, ns[i]? = some n := ⟨ns[i], List.getElem?_eq_getElem hi⟩
    obtain ⟨c0, _⟩ := hN i n hn
    have HF : Hid _ := endF_fin ns f i n hn
    have hp := prt_le n.op
    have i0 : (0 : Int) ≤ (i : Int) := by omega
    have i1 : (i : Int) < (ns.length : Int) := by omega
    have hd : decide (ns.length ≤ i) = false := by simp; omega
    clear hn
    go_enter Tryd.func17, Tryd.ntmps17
    go_wp2_with fail
    refine (parts_any _ _).mono ?_
    rintro e w1 ⟨rfl, rfl⟩
    generalize hpr : prt n.op = pr at *
    clear hpr
    go_wp2_with fail
    go_loop [1, 5] (fun v u => ∃ (m : Nat) (o : Option Nat), m ≤ 2 ∧ u = .int .i64 m ∧ v = .int .i64 (endI o) ∧ Hid (fin ns f m o = endF ns (f + 1) i) ∧ Hid (∀ j, o = some j → i < j ∧ j ≤ ns.length)) (fun _ u => (intOf u).toNat)
    case atStart => exact ⟨pr, some (i + 1), by omega, rfl, by go_num, HF.out.symm, fun j hj => by simp at hj; omega⟩
    case round =>
      obtain ⟨m, o, hm2, rfl, rfl, HX, HJ⟩ := hrel
      cases m with
      | zero =>
        go_wp2
        go_ret
        exact ⟨by rw [← HX.out]; rfl, rfl⟩
      | succ m =>
        have m0 : (0 : Int) < ((m + 1 : Nat) : Int) := by omega
        cases o with
        | none =>
          simp only [endI]
          go_wp2
          go_ret
          exact ⟨by rw [← HX.out, fin_none]; rfl, rfl⟩
        | some j =>
          have hj := HJ.out j rfl
          simp only [endI]
          go_wp2_with fail
          refine (IH.out j (by omega)).mono ?_
          rintro e w1 ⟨rfl, rfl⟩
          go_wp2
          refine ⟨⟨m, endF ns f j, by omega, by go_num, rfl, ?_, ?_⟩, by simp [intOf]⟩
          · rw [← HX.out]; exact (Eq.refl (fin ns f m (endF ns f j)))
          · intro k hk
            have := endF_gt ns f j k hk
            omega
  · have hd : decide (ns.length ≤ i) = true := by simp; omega
    have HF : Hid (endF ns (f + 1) i = none) := by
      show _ = _
      rw [endF, List.getElem?_eq_none (by omega)]
    go_enter Tryd.func17, Tryd.ntmps17
    go_wp2
    go_ret
    exact ⟨by rw [HF.out]; rfl, rfl⟩
set_option maxHeartbeats 1000000 in
theorem endOf_out (ns : List Nd) (a : Option Addr) (cap i : Nat) (hm : ns.length ≤ maxLen) (w : World) (hi : ns.length ≤ i) :
    Calls Tryd.prog 17 #[.slice a ns.length cap, .int .i64 i] w fun e w' => e = .returned (.int .i64 (-1)) ∧ w' = w := by
  unfold maxLen at hm
  have hd : decide (ns.length ≤ i) = true := by simp; omega
  go_enter Tryd.func17, Tryd.ntmps17
  go_wp2
  go_ret
  exact ⟨rfl, rfl⟩
theorem endOf_at (ns : List Nd) (b off cap : Nat) (hm : ns.length ≤ maxLen) (w : World) (hN : NsAt w b off ns) : ∀ (f i : Nat), ns.length + 1 ≤ f + i →
    Calls Tryd.prog 17 #[.slice (some ⟨b, off, none⟩) ns.length cap, .int .i64 i] w fun e w' => e = .returned (.int .i64 (endI (endF ns f i))) ∧ w' = w := by
  intro f
  induction f with
  | zero =>
    intro i h
    exact endOf_out ns _ cap i hm w (by omega)
  | succ f ih =>
    intro i h
    exact endOf_walk ns b off cap f i hm w hN ih (by omega)
theorem endOf_any (ns : List Nd) (v : Value) (i : Nat) (w : World) (hN : NsIn w v ns) :
    Calls Tryd.prog 17 #[v, .int .i64 i] w fun e w' => e = .returned (.int .i64 (endI (endE ns i))) ∧ w' = w := by
  obtain ⟨a, cap, rfl, hm, h | ⟨b, off, rfl, hlt, hn⟩⟩ := hN
  · subst h
    rw [endE_nil]
    exact endOf_out [] a cap i hm w (by simp)
  · exact endOf_at ns b off cap hm w hn (ns.length + 1) i (by omega)
end Go.Proofs.YtphcncgdodhlbaaDoor
namespace Go.Proofs.YtphcncgdodhlbaaDoor
set_option linter.unusedSimpArgs false
set_option linter.unusedVariables false
set_option maxRecDepth 100000
open Go.RowKit
theorem img_cat (s : List UInt8) (n : Nd) (a b : Rx) (hop : n.op = 3) {A B C : Nat → Bool} (h1 : Img s a A B) (h2 : Img s b B C) : Img s (.two n a b) A C := by
  intro j hj
  have hF : ∀ i, Fit s (.two n a b) i j ↔ ∃ k, Fit s a i k ∧ Fit s b k j := fun i => by rw [Fit, if_pos hop]
  rw [h2 j hj]
  constructor
  · rintro ⟨k, hk, hb, hf⟩
    obtain ⟨i, hi, ha, hg⟩ := (h1 k hk).1 hb
    exact ⟨i, hi, ha, (hF i).2 ⟨k, hg, hf⟩⟩
  · rintro ⟨i, hi, ha, hf⟩
    obtain ⟨k, h3, h4⟩ := (hF i).1 hf
    have hk := (fit_le s a i k h3).2
    exact ⟨k, hk, (h1 k hk).2 ⟨i, hi, ha, h3⟩, h4⟩
theorem img_or (s : List UInt8) (n : Nd) (a b : Rx) (hop : n.op = 4) {A B C : Nat → Bool} (h1 : Img s a A B) (h2 : Img s b A C) : Img s (.two n a b) A fun i => B i || C i := by
  intro j hj
  have hF : ∀ i, Fit s (.two n a b) i j ↔ Fit s a i j ∨ Fit s b i j := fun i => by rw [Fit, if_neg (by rw [hop]; decide)]
  simp only [Bool.or_eq_true]
  rw [h1 j hj, h2 j hj]
  constructor
  · rintro (⟨i, hi, ha, hf⟩ | ⟨i, hi, ha, hf⟩)
    · exact ⟨i, hi, ha, (hF i).2 (Or.inl hf)⟩
    · exact ⟨i, hi, ha, (hF i).2 (Or.inr hf)⟩
  · rintro ⟨i, hi, ha, hf⟩
    rcases (hF i).1 hf with h | h
    · exact Or.inl ⟨i, hi, ha, h⟩
    · exact Or.inr ⟨i, hi, ha, h⟩
theorem img_opt (s : List UInt8) (n : Nd) (a : Rx) (hop : n.op = 7) {A B : Nat → Bool} (h1 : Img s a A B) : Img s (.one n a) A fun i => A i || B i := by
  intro j hj
  have hF : ∀ i, Fit s (.one n a) i j ↔ (i = j ∧ i ≤ s.length) ∨ Fit s a i j := fun i => by rw [Fit, if_neg (by rw [hop]; decide), if_neg (by rw [hop]; decide)]
  simp only [Bool.or_eq_true]
  rw [h1 j hj]
  constructor
  · rintro (ha | ⟨i, hi, ha, hf⟩)
    · exact ⟨j, hj, ha, (hF j).2 (Or.inl ⟨rfl, hj⟩)⟩
    · exact ⟨i, hi, ha, (hF i).2 (Or.inr hf)⟩
  · rintro ⟨i, hi, ha, hf⟩
    rcases (hF i).1 hf with ⟨rfl, _⟩ | h
    · exact Or.inl ha
    · exact Or.inr ⟨i, hi, ha, h⟩
theorem img_star (s : List UInt8) (n : Nd) (a : Rx) (hop : n.op = 5) {A B : Nat → Bool} (h1 : ImgS s a A B) : Img s (.one n a) A B := by
  intro j hj
  have hF : ∀ i, Fit s (.one n a) i j ↔ Str s.length (Fit s a) i j := fun i => by rw [Fit, if_pos hop]
  rw [h1 j hj]
  constructor
  · rintro ⟨i, hi, ha, hf⟩; exact ⟨i, hi, ha, (hF i).2 hf⟩
  · rintro ⟨i, hi, ha, hf⟩; exact ⟨i, hi, ha, (hF i).1 hf⟩
theorem img_plus (s : List UInt8) (n : Nd) (a : Rx) (hop : n.op = 6) {A B C : Nat → Bool} (h1 : Img s a A B) (h2 : ImgS s a B C) : Img s (.one n a) A C := by
  intro j hj
  have hF : ∀ i, Fit s (.one n a) i j ↔ ∃ k, Fit s a i k ∧ Str s.length (Fit s a) k j := fun i => by rw [Fit, if_neg (by rw [hop]; decide), if_pos hop]
  rw [h2 j hj]
  constructor
  · rintro ⟨k, hk, hb, hf⟩
    obtain ⟨i, hi, ha, hg⟩ := (h1 k hk).1 hb
    exact ⟨i, hi, ha, (hF i).2 ⟨k, hg, hf⟩⟩
  · rintro ⟨i, hi, ha, hf⟩
    obtain ⟨k, h3, h4⟩ := (hF i).1 hf
    have hk := (fit_le s a i k h3).2
    exact ⟨k, hk, (h1 k hk).2 ⟨i, hi, ha, h3⟩, h4⟩
/-- What Reach has made when it looks at the node. -/
def Two (w : World) (s : ByteArray) (n : Nd) (op : Int) : World := (w.alloc (.cells (rowB s.size fun _ => false) 4)).alloc (.cells #[.int .i64 op, .int .u64 n.c.a, .int .u64 n.c.b, .int .u64 n.c.c, .int .u64 n.c.d] 44)
theorem two_below (w : World) (s : ByteArray) (n : Nd) (op : Int) : Below w.heap.size w (Two w s n op) := (new_one w _).trans ((new_one _ _).mono (by simp))
def EndAt (ns : List Nd) (b off cap i j : Nat) : Prop := ∀ w : World, NsAt w b off ns → Calls Tryd.prog 17 #[.slice (some ⟨b, off, none⟩) ns.length cap, .int .i64 i] w fun e w' => e = .returned (.int .i64 (j : Int)) ∧ w' = w
set_option maxHeartbeats 4000000 in
theorem reach_cat (ns : List Nd) (b off cap i j : Nat) (hl : ns.length ≤ 60) (n : Nd) (hn : ns[i]? = some n) (hop : n.op = 3) (hi1 : i + 1 < ns.length) (s : ByteArray) (hs : s.size ≤ 1000000) (a b' : Rx) (hA : RchOk ns b off cap (i + 1) s a) (hB : RchOk ns b off cap j s b') (hE : EndAt ns b off cap (i + 1) j) : RchOk ns b off cap i s (.two n a b') := by
  intro A v w hlt hN hv
  obtain ⟨c0, c1, c2, c3, c4⟩ := (hN.below (new_one w (.cells (rowB s.size fun _ => false) 4)) hlt) i n hn
  rw [hop] at c0
  have hmk := mkB s.size hs
  have i0 : (0 : Int) ≤ (i : Int) := by omega
  have i1 : (i : Int) < (ns.length : Int) := by omega
  have i2 : (i : Int) + 1 < (ns.length : Int) := by omega
  obtain ⟨b1, o1, d1, rfl⟩ := hv.form
  have HV := hid (hv.below (two_below w s n 3))
  have HT := hid (two_below w s n 3)
  have HOP := hid hop
  have HA : Hid (∀ w1 C u, Below w.heap.size w w1 → BsIn w1 u s.size C → Calls Tryd.prog 31 #[.slice (some ⟨b, off, none⟩) ns.length cap, .int .i64 ((i : Int) + 1), .string s, u] w1 (RchP w1 s a C)) := fun w1 C u hb hu => hA C u w1 (Nat.lt_of_lt_of_le hlt hb.size) (hN.below hb hlt) hu
  have HB : Hid (∀ w1 C u, Below w.heap.size w w1 → BsIn w1 u s.size C → Calls Tryd.prog 31 #[.slice (some ⟨b, off, none⟩) ns.length cap, .int .i64 (j : Int), .string s, u] w1 (RchP w1 s b' C)) := fun w1 C u hb hu => hB C u w1 (Nat.lt_of_lt_of_le hlt hb.size) (hN.below hb hlt) hu
  have HE : Hid (∀ w1, Below w.heap.size w w1 → Calls Tryd.prog 17 #[.slice (some ⟨b, off, none⟩) ns.length cap, .int .i64 ((i : Int) + 1)] w1 fun e w' => e = .returned (.int .i64 (j : Int)) ∧ w' = w1) := fun w1 hb => hE w1 (hN.below hb hlt)
  clear hA hB hE hN hv hop hn
  go_enter Tryd.func31, Tryd.ntmps31
  go_wp2_with fail
  refine Calls.mono (HE.out _ HT.out) ?_
  rintro e w9 ⟨rfl, rfl⟩
  go_wp2_with fail
  refine Calls.mono (HA.out _ A _ HT.out HV.out) ?_
  rintro e w1 ⟨u1, B1, rfl, hb, hr, hi⟩
  have HB1 := hid (HT.out.trans (hb.mono HT.out.size))
  have HR1 := hid hr
  have HI1 := hid hi
  have HL1 := hid hb
  clear hb hr hi
  obtain ⟨bb1, oo1, dd1, rfl⟩ := HR1.out.form
  go_wp2_with fail
  refine Calls.mono (HB.out _ B1 _ HB1.out HR1.out) ?_
  rintro e w2 ⟨u2, B2, rfl, hb, hr, hi⟩
  have HB2 := hid (HB1.out.trans (hb.mono HB1.out.size))
  have HR2 := hid hr
  have HI2 := hid hi
  have HL2 := hid hb
  clear hb hr hi
  obtain ⟨bb2, oo2, dd2, rfl⟩ := HR2.out.form
  go_wp2_with fail
  go_ret
  exact ⟨_, _, rfl, HB2.out, HR2.out, img_cat _ n a b' HOP.out HI1.out HI2.out⟩
set_option maxHeartbeats 4000000 in
theorem reach_or (ns : List Nd) (b off cap i j : Nat) (hl : ns.length ≤ 60) (n : Nd) (hn : ns[i]? = some n) (hop : n.op = 4) (hi1 : i + 1 < ns.length) (s : ByteArray) (hs : s.size ≤ 1000000) (a b' : Rx) (hA : RchOk ns b off cap (i + 1) s a) (hB : RchOk ns b off cap j s b') (hE : EndAt ns b off cap (i + 1) j) : RchOk ns b off cap i s (.two n a b') := by
  intro A v w hlt hN hv
  obtain ⟨c0, c1, c2, c3, c4⟩ := (hN.below (new_one w (.cells (rowB s.size fun _ => false) 4)) hlt) i n hn
  rw [hop] at c0
  have hmk := mkB s.size hs
  have i0 : (0 : Int) ≤ (i : Int) := by omega
  have i1 : (i : Int) < (ns.length : Int) := by omega
  have i2 : (i : Int) + 1 < (ns.length : Int) := by omega
  obtain ⟨b1, o1, d1, rfl⟩ := hv.form
  have HV := hid (hv.below (two_below w s n 4))
  have HT := hid (two_below w s n 4)
  have HOP := hid hop
  have HA : Hid (∀ w1 C u, Below w.heap.size w w1 → BsIn w1 u s.size C → Calls Tryd.prog 31 #[.slice (some ⟨b, off, none⟩) ns.length cap, .int .i64 ((i : Int) + 1), .string s, u] w1 (RchP w1 s a C)) := fun w1 C u hb hu => hA C u w1 (Nat.lt_of_lt_of_le hlt hb.size) (hN.below hb hlt) hu
  have HB : Hid (∀ w1 C u, Below w.heap.size w w1 → BsIn w1 u s.size C → Calls Tryd.prog 31 #[.slice (some ⟨b, off, none⟩) ns.length cap, .int .i64 (j : Int), .string s, u] w1 (RchP w1 s b' C)) := fun w1 C u hb hu => hB C u w1 (Nat.lt_of_lt_of_le hlt hb.size) (hN.below hb hlt) hu
  have HE : Hid (∀ w1, Below w.heap.size w w1 → Calls Tryd.prog 17 #[.slice (some ⟨b, off, none⟩) ns.length cap, .int .i64 ((i : Int) + 1)] w1 fun e w' => e = .returned (.int .i64 (j : Int)) ∧ w' = w1) := fun w1 hb => hE w1 (hN.below hb hlt)
  have HJ := hid (joined_any s.size hs)
  clear hA hB hE hN hv hop hn
  go_enter Tryd.func31, Tryd.ntmps31
  go_wp2_with fail
  refine Calls.mono (HA.out _ A _ HT.out HV.out) ?_
  rintro e w1 ⟨u1, B1, rfl, hb, hr, hi⟩
  have HB1 := hid (HT.out.trans (hb.mono HT.out.size))
  have HR1 := hid hr
  have HI1 := hid hi
  have HL1 := hid hb
  clear hb hr hi
  obtain ⟨bb1, oo1, dd1, rfl⟩ := HR1.out.form
  go_wp2_with fail
  refine Calls.mono (HE.out _ HB1.out) ?_
  rintro e w9 ⟨rfl, rfl⟩
  go_wp2_with fail
  refine Calls.mono (HB.out _ A _ HB1.out (HV.out.below HL1.out)) ?_
  rintro e w2 ⟨u2, B2, rfl, hb, hr, hi⟩
  have HB2 := hid (HB1.out.trans (hb.mono HB1.out.size))
  have HR2 := hid hr
  have HI2 := hid hi
  have HL2 := hid hb
  clear hb hr hi
  obtain ⟨bb2, oo2, dd2, rfl⟩ := HR2.out.form
  go_wp2_with fail
  refine Calls.mono (HJ.out B1 B2 _ _ _ (HR1.out.below HL2.out) HR2.out) ?_
  rintro e w3 ⟨x, rfl, hb, hr⟩
  have HB3 := hid (HB2.out.trans (hb.mono HB2.out.size))
  have HR3 := hid hr
  clear hb hr
  go_wp2_with fail
  go_ret
  exact ⟨_, _, rfl, HB3.out, HR3.out, img_or _ n a b' HOP.out HI1.out HI2.out⟩
set_option maxHeartbeats 4000000 in
theorem reach_opt (ns : List Nd) (b off cap i : Nat) (hl : ns.length ≤ 60) (n : Nd) (hn : ns[i]? = some n) (hop : n.op = 7) (hi1 : i + 1 < ns.length) (s : ByteArray) (hs : s.size ≤ 1000000) (a : Rx) (hA : RchOk ns b off cap (i + 1) s a) : RchOk ns b off cap i s (.one n a) := by
  intro A v w hlt hN hv
  obtain ⟨c0, c1, c2, c3, c4⟩ := (hN.below (new_one w (.cells (rowB s.size fun _ => false) 4)) hlt) i n hn
  rw [hop] at c0
  have hmk := mkB s.size hs
  have i0 : (0 : Int) ≤ (i : Int) := by omega
  have i1 : (i : Int) < (ns.length : Int) := by omega
  have i2 : (i : Int) + 1 < (ns.length : Int) := by omega
  obtain ⟨b1, o1, d1, rfl⟩ := hv.form
  have HV := hid (hv.below (two_below w s n 7))
  have HT := hid (two_below w s n 7)
  have HOP := hid hop
  have HA : Hid (∀ w1 C u, Below w.heap.size w w1 → BsIn w1 u s.size C → Calls Tryd.prog 31 #[.slice (some ⟨b, off, none⟩) ns.length cap, .int .i64 ((i : Int) + 1), .string s, u] w1 (RchP w1 s a C)) := fun w1 C u hb hu => hA C u w1 (Nat.lt_of_lt_of_le hlt hb.size) (hN.below hb hlt) hu
  have HJ := hid (joined_any s.size hs)
  clear hA hN hv hop hn
  go_enter Tryd.func31, Tryd.ntmps31
  go_wp2_with fail
  refine Calls.mono (HA.out _ A _ HT.out HV.out) ?_
  rintro e w1 ⟨u1, B1, rfl, hb, hr, hi⟩
  have HB1 := hid (HT.out.trans (hb.mono HT.out.size))
  have HR1 := hid hr
  have HI1 := hid hi
  have HL1 := hid hb
  clear hb hr hi
  obtain ⟨bb1, oo1, dd1, rfl⟩ := HR1.out.form
  go_wp2_with fail
  refine Calls.mono (HJ.out A B1 _ _ _ (HV.out.below HL1.out) HR1.out) ?_
  rintro e w3 ⟨x, rfl, hb, hr⟩
  have HB3 := hid (HB1.out.trans (hb.mono HB1.out.size))
  have HR3 := hid hr
  clear hb hr
  go_wp2_with fail
  go_ret
  exact ⟨_, _, rfl, HB3.out, HR3.out, img_opt _ n a HOP.out HI1.out⟩
set_option maxHeartbeats 4000000 in
theorem reach_star (ns : List Nd) (b off cap i : Nat) (hl : ns.length ≤ 60) (n : Nd) (hn : ns[i]? = some n) (hop : n.op = 5) (hi1 : i + 1 < ns.length) (s : ByteArray) (hs : s.size ≤ 1000000) (a : Rx) (hA : RchOk ns b off cap (i + 1) s a) : RchOk ns b off cap i s (.one n a) := by
  intro A v w hlt hN hv
  obtain ⟨c0, c1, c2, c3, c4⟩ := (hN.below (new_one w (.cells (rowB s.size fun _ => false) 4)) hlt) i n hn
  rw [hop] at c0
  have hmk := mkB s.size hs
  have i0 : (0 : Int) ≤ (i : Int) := by omega
  have i1 : (i : Int) < (ns.length : Int) := by omega
  have i2 : (i : Int) + 1 < (ns.length : Int) := by omega
  obtain ⟨b1, o1, d1, rfl⟩ := hv.form
  have HV := hid (hv.below (two_below w s n 5))
  have HT := hid (two_below w s n 5)
  have HOP := hid hop
  have HA : Hid (∀ w1 C u, Below w.heap.size w w1 → BsIn w1 u s.size C → Calls Tryd.prog 31 #[.slice (some ⟨b, off, none⟩) ns.length cap, .int .i64 ((i : Int) + 1), .string s, u] w1 (RchP w1 s a C)) := fun w1 C u hb hu => hA C u w1 (Nat.lt_of_lt_of_le hlt hb.size) (hN.below hb hlt) hu
  have HC : Hid (∀ w1 C u, Below w.heap.size w w1 → BsIn w1 u s.size C → Calls Tryd.prog 43 #[.slice (some ⟨b, off, none⟩) ns.length cap, .int .i64 ((i : Int) + 1), .string s, u] w1 (ClsP w1 s a C)) := fun w1 C u hb hu => closed_any ns b off cap (i + 1) hl s hs a hA C u w1 (Nat.lt_of_lt_of_le hlt hb.size) (hN.below hb hlt) hu
  clear hA hN hv hop hn
  go_enter Tryd.func31, Tryd.ntmps31
  go_wp2_with fail
  refine Calls.mono (HC.out _ A _ HT.out HV.out) ?_
  rintro e w1 ⟨u1, B1, rfl, hb, hr, hi⟩
  have HB1 := hid (HT.out.trans (hb.mono HT.out.size))
  have HR1 := hid hr
  have HI1 := hid hi
  have HL1 := hid hb
  clear hb hr hi
  obtain ⟨bb1, oo1, dd1, rfl⟩ := HR1.out.form
  go_wp2_with fail
  go_ret
  exact ⟨_, _, rfl, HB1.out, HR1.out, img_star _ n a HOP.out HI1.out⟩
set_option maxHeartbeats 4000000 in
theorem reach_plus (ns : List Nd) (b off cap i : Nat) (hl : ns.length ≤ 60) (n : Nd) (hn : ns[i]? = some n) (hop : n.op = 6) (hi1 : i + 1 < ns.length) (s : ByteArray) (hs : s.size ≤ 1000000) (a : Rx) (hA : RchOk ns b off cap (i + 1) s a) : RchOk ns b off cap i s (.one n a) := by
  intro A v w hlt hN hv
  obtain ⟨c0, c1, c2, c3, c4⟩ := (hN.below (new_one w (.cells (rowB s.size fun _ => false) 4)) hlt) i n hn
  rw [hop] at c0
  have hmk := mkB s.size hs
  have i0 : (0 : Int) ≤ (i : Int) := by omega
  have i1 : (i : Int) < (ns.length : Int) := by omega
  have i2 : (i : Int) + 1 < (ns.length : Int) := by omega
  obtain ⟨b1, o1, d1, rfl⟩ := hv.form
  have HV := hid (hv.below (two_below w s n 6))
  have HT := hid (two_below w s n 6)
  have HOP := hid hop
  have HA : Hid (∀ w1 C u, Below w.heap.size w w1 → BsIn w1 u s.size C → Calls Tryd.prog 31 #[.slice (some ⟨b, off, none⟩) ns.length cap, .int .i64 ((i : Int) + 1), .string s, u] w1 (RchP w1 s a C)) := fun w1 C u hb hu => hA C u w1 (Nat.lt_of_lt_of_le hlt hb.size) (hN.below hb hlt) hu
  have HC : Hid (∀ w1 C u, Below w.heap.size w w1 → BsIn w1 u s.size C → Calls Tryd.prog 43 #[.slice (some ⟨b, off, none⟩) ns.length cap, .int .i64 ((i : Int) + 1), .string s, u] w1 (ClsP w1 s a C)) := fun w1 C u hb hu => closed_any ns b off cap (i + 1) hl s hs a hA C u w1 (Nat.lt_of_lt_of_le hlt hb.size) (hN.below hb hlt) hu
  clear hA hN hv hop hn
  go_enter Tryd.func31, Tryd.ntmps31
  go_wp2_with fail
  refine Calls.mono (HA.out _ A _ HT.out HV.out) ?_
  rintro e w1 ⟨u1, B1, rfl, hb, hr, hi⟩
  have HB1 := hid (HT.out.trans (hb.mono HT.out.size))
  have HR1 := hid hr
  have HI1 := hid hi
  have HL1 := hid hb
  clear hb hr hi
  obtain ⟨bb1, oo1, dd1, rfl⟩ := HR1.out.form
  go_wp2_with fail
  refine Calls.mono (HC.out _ B1 _ HB1.out HR1.out) ?_
  rintro e w2 ⟨u2, B2, rfl, hb, hr, hi⟩
  have HB2 := hid (HB1.out.trans (hb.mono HB1.out.size))
  have HR2 := hid hr
  have HI2 := hid hi
  have HL2 := hid hb
  clear hb hr hi
  obtain ⟨bb2, oo2, dd2, rfl⟩ := HR2.out.form
  go_wp2_with fail
  go_ret
  exact ⟨_, _, rfl, HB2.out, HR2.out, img_plus _ n a HOP.out HI1.out HI2.out⟩
end Go.Proofs.YtphcncgdodhlbaaDoor
namespace Go.Proofs.YtphcncgdodhlbaaDoor
set_option linter.unusedSimpArgs false
set_option linter.unusedVariables false
set_option maxRecDepth 100000
open Go.RowKit
def isCells (l : List Nat) : List Value := l.map fun x : Nat => Value.int .i64 (x : Int)
/-- A slice of the call's own that reads as the numbers l. -/
def IsOwn (w : World) (B : Nat) (v : Value) (l : List Nat) : Prop := w.ownsRow B 3 1 v l.length (isCells l)
theorem IsOwn.nil (w : World) (B : Nat) : IsOwn w B (.slice none 0 0) [] := ⟨rfl, Or.inl ⟨rfl, rfl⟩⟩
theorem IsOwn.isIn {w : World} {B : Nat} {v : Value} {l : List Nat} (h : IsOwn w B v l) (hm : l.length ≤ maxLen) : IsIn w v l := by
  rcases h.2 with ⟨hv, h0⟩ | ⟨g, cap, cur, hv, hb, hg, hc, _⟩
  · have e : l = [] := List.eq_nil_of_length_eq_zero h0
    subst e
    rw [hv]
    exact isIn_nil w
  · refine ⟨_, _, hv, hm, Or.inr ⟨g, 0, rfl, ?_, ?_⟩⟩
    · rcases Nat.lt_or_ge g w.heap.size with h' | h'
      · exact h'
      · rw [Array.getElem?_eq_none h'] at hg; cases hg
    · intro i x hx
      have := h.cells (g := g) (by rw [hv]; rfl) i (.int .i64 (x : Int)) (by simp [isCells, hx])
      rw [Addr.add_lit] at this
      exact this
theorem IsOwn.kept {w w' : World} {B : Nat} {v : Value} {l : List Nat} (h : IsOwn w B v l) (hb : Below w.heap.size w w') : IsOwn w' B v l := by
  refine World.ownsRow.kept (row := none) h ⟨hb.os, hb.tape, hb.output, hb.size, fun k hk _ => hb.block k hk⟩ ?_
  cases hv : v.ownBlock with
  | none => exact Or.inl rfl
  | some x => exact Or.inr (by simp)
theorem IsOwn.form {w : World} {B : Nat} {v : Value} {l : List Nat} (h : IsOwn w B v l) : ∃ a cap, v = .slice a l.length cap := by
  rcases h.2 with ⟨hv, h0⟩ | ⟨g, cap, cur, hv, _⟩
  · exact ⟨none, 0, by rw [hv, h0]⟩
  · exact ⟨_, _, hv⟩
theorem IsOwn.grown {w w' : World} {B : Nat} {v : Value} {l : List Nat} (h : IsOwn w B v l) (hB : B ≤ w.heap.size) (hg : w.grownBy w' v.ownBlock) : Below B w w' := by
  refine ⟨hg.os, hg.tape, hg.output, hg.size, fun k hk => hg.block k (by omega) ?_⟩
  intro e
  rcases h.2 with ⟨hv, _⟩ | ⟨b, cap, cur, hv, hb, _⟩
  · rw [hv] at e; cases e
  · rw [hv] at e
    injection e with e
    simp only at e
    omega
/-- append of one number, which lies in a new row. -/
theorem wpList_append_is {ops : Array Oper} {rest : List Oper} {o : Oper} {a : Act} {Q : Exit → Act → World → Prop} {w : World} (hgd : o.guard = none) (s x : Operand)
    (ho : o.op = .call { callee := .builtin .append, args := #[s, x], argTypes := #[46, 46] })
    (B : Nat) (v : Value) (hs : a.eval s = v) (l : List Nat) (hown : IsOwn w B v l) (g2 c2 n : Nat) (hx : a.eval x = .slice (some ⟨g2, 0, none⟩) 1 c2)
    (hnew : w.cell? ⟨g2, 0, none⟩ = some (.int .i64 (n : Int))) (hlen : l.length ≤ 1000000000) (hbase : B ≤ w.heap.size)
    (h : ∀ g cap w', IsOwn w' B (.slice (some ⟨g, 0, none⟩) (l.length + 1) cap) (l ++ [n]) → w.grownBy w' v.ownBlock → B ≤ g → g < w'.heap.size → wpList Tryd.prog ops Q rest (a.put o.dst (.slice (some ⟨g, 0, none⟩) (l.length + 1) cap)) w') : wpList Tryd.prog ops Q (o :: rest) a w := by
  have hinfo : (Tryd.prog.info? 3).map (fun i => (i.zero, i.size, i.bytes)) = some (some (.int .i64 0), 1, 8) := by kernel_rfl
  obtain ⟨i0, hi, hz0, hz1, hz2⟩ := info_parts hinfo
  refine wpList_append_lies w hgd s x 46 ho B 3 i0 _ 1 8 Tryd.underlying46 hi hz0 hz1 hz2 rfl (by decide) v l.length (isCells l) hs hown ⟨g2, 0, none⟩ 1 c2 (isCells [n]) hx rfl ?_ (by simp [isCells, Value.oneCell']) (by omega) (by unfold maxLen; omega) (by omega) hbase _ rfl ?_
  · intro j u hj
    cases j with
    | zero =>
      simp [isCells] at hj
      subst hj
      rw [Addr.add_lit]
      exact hnew
    | succ j => simp [isCells] at hj
  · intro g cap w' h1 h2 h3 h4
    have e : IsOwn w' B (.slice (some ⟨g, 0, none⟩) (l.length + 1) cap) (l ++ [n]) := by
      unfold IsOwn
      simpa [isCells] using h1
    have hg : B ≤ g := by
      rcases h3 with h3 | h3
      · rcases hown.2 with ⟨hv, _⟩ | ⟨g', cap', cur, hv, hb, _⟩
        · rw [hv] at h3; cases h3
        · rw [hv] at h3
          injection h3 with h3
          simp at h3
          omega
      · omega
    exact h g cap w' e h2 hg h4
end Go.Proofs.YtphcncgdodhlbaaDoor
namespace Go.Proofs.YtphcncgdodhlbaaDoor
set_option linter.unusedSimpArgs false
set_option linter.unusedVariables false
set_option maxRecDepth 100000
open Go.RowKit

/-- The node at a tree's top. -/
def Rx.top : Rx → Nd
  | .leaf n => n
  | .one n _ => n
  | .two n _ _ => n
/-- Does a part want brackets? -/
def brk (parent op : Int) (second : Bool) : Bool :=
  if op = 2 then !decide (parent = 4) else if op = 4 then !second || !decide (parent = 4) else if op = 3 then (decide (parent = 3) && !second) || decide (parent = 5) || decide (parent = 6) || decide (parent = 7) else false
def brT (x : Bool) (s : List UInt8) : List UInt8 := if x then 40 :: (s ++ [41]) else s
def signT (op : Int) : UInt8 := if op = 5 then 42 else if op = 6 then 43 else 63
/-- The text. -/
def Rx.txt : Rx → List UInt8
  | .leaf n => if n.op = 1 then textL n.c else if n.op = 8 then [94] else if n.op = 9 then [36] else []
  | .one n a => brT (brk n.op a.top.op false) a.txt ++ [signT n.op]
  | .two n a b => brT (brk n.op a.top.op false) a.txt ++ ((if n.op = 4 then [124] else []) ++ brT (brk n.op b.top.op true) b.txt)
theorem Rx.flat_top (t : Rx) : ∃ r, t.flat = t.top :: r := by cases t <;> exact ⟨_, rfl⟩
theorem brT_len (x : Bool) (s : List UInt8) : (brT x s).length ≤ s.length + 2 := by
  cases x <;> simp [brT]
theorem textL_len (k : C4) : (textL k).length ≤ 2306 := by
  have := runs256_len k
  unfold textL
  split
  · simp
  · split
    · omega
    · simp; omega
theorem Rx.txt_len : ∀ t : Rx, t.txt.length ≤ 2400 * t.flat.length
  | .leaf n => by
    have := textL_len n.c
    unfold Rx.txt
    split
    · simp [Rx.flat]; omega
    · split
      · simp [Rx.flat]
      · split <;> simp [Rx.flat]
  | .one n a => by
    have := txt_len a
    have := brT_len (brk n.op a.top.op false) a.txt
    simp [Rx.txt, Rx.flat]; omega
  | .two n a b => by
    have := txt_len a
    have := txt_len b
    have := brT_len (brk n.op a.top.op false) a.txt
    have := brT_len (brk n.op b.top.op true) b.txt
    have : (if n.op = 4 then [(124 : UInt8)] else []).length ≤ 1 := by split <;> simp
    simp [Rx.txt, Rx.flat]; omega
end Go.Proofs.YtphcncgdodhlbaaDoor
namespace Go.Proofs.YtphcncgdodhlbaaDoor
set_option linter.unusedSimpArgs false
set_option linter.unusedVariables false
set_option maxRecDepth 100000
open Go.RowKit
theorem rpos : ∀ (t : Rx) (p q : List Nd), (p ++ t.flat ++ q)[p.length]? = some t.top
  | .leaf n, p, q => by simp [Rx.flat, Rx.top]
  | .one n a, p, q => by simp [Rx.flat, Rx.top]
  | .two n a b, p, q => by simp [Rx.flat, Rx.top]
theorem rleaf_op {n : Nd} (h : prt n.op = 0) (hr : 1 ≤ n.op ∧ n.op ≤ 9) : n.op = 1 ∨ n.op = 2 ∨ n.op = 8 ∨ n.op = 9 := by
  have e3 : n.op ≠ 3 := by intro e; rw [e] at h; simp [prt] at h
  have e4 : n.op ≠ 4 := by intro e; rw [e] at h; simp [prt] at h
  have e5 : n.op ≠ 5 := by intro e; rw [e] at h; simp [prt] at h
  have e6 : n.op ≠ 6 := by intro e; rw [e] at h; simp [prt] at h
  have e7 : n.op ≠ 7 := by intro e; rw [e] at h; simp [prt] at h
  omega
theorem reach_tree (b off cap : Nat) (s : ByteArray) (hs : s.size ≤ 1000000) : ∀ (t : Rx), t.Ok → ∀ (p q : List Nd), (∀ n ∈ t.flat, (1 ≤ n.op ∧ n.op ≤ 9) ∧ n.c.ok) → (p ++ t.flat ++ q).length ≤ 60 → RchOk (p ++ t.flat ++ q) b off cap p.length s t
  | .leaf n, h, p, q, hr, hl => by
    have hg := hr n (by simp [Rx.flat])
    have hat := rpos (.leaf n) p q
    rcases rleaf_op h hg.1 with e | e | e | e
    · exact reach_byte _ b off cap _ hl n hat e hg.2 s hs
    · exact reach_empty _ b off cap _ hl n hat e s hs
    · exact reach_begin _ b off cap _ hl n hat e s hs
    · exact reach_end _ b off cap _ hl n hat e s hs
  | .one n a, h, p, q, hr, hl => by
    have hpos := rpos (.one n a) p q
    have hap := rpos a (p ++ [n]) q
    have ih := reach_tree b off cap s hs a h.2 (p ++ [n]) q (fun m hm => hr m (by simp [Rx.flat, hm])) (by simpa [Rx.flat] using hl)
    have e : p ++ [n] ++ a.flat ++ q = p ++ (Rx.one n a).flat ++ q := by simp [Rx.flat]
    have ep : (p ++ [n]).length = p.length + 1 := by simp
    rw [e, ep] at ih hap
    have hlt := at_lt hap
    rcases (prt_one n.op).1 h.1 with e | e | e
    · exact reach_star _ b off cap _ hl n hpos e hlt s hs a ih
    · exact reach_plus _ b off cap _ hl n hpos e hlt s hs a ih
    · exact reach_opt _ b off cap _ hl n hpos e hlt s hs a ih
  | .two n a b', h, p, q, hr, hl => by
    have hpos := rpos (.two n a b') p q
    have hap := rpos a (p ++ [n]) (b'.flat ++ q)
    have ih := reach_tree b off cap s hs a h.2.1 (p ++ [n]) (b'.flat ++ q) (fun m hm => hr m (by simp [Rx.flat, hm])) (by simpa [Rx.flat] using hl)
    have hend := endE_mid a h.2.1 (p ++ [n]) (b'.flat ++ q)
    have e : p ++ [n] ++ a.flat ++ (b'.flat ++ q) = p ++ (Rx.two n a b').flat ++ q := by simp [Rx.flat]
    have ep : (p ++ [n]).length = p.length + 1 := by simp
    rw [e, ep] at ih hap hend
    have ih2 := reach_tree b off cap s hs b' h.2.2 (p ++ [n] ++ a.flat) q (fun m hm => hr m (by simp [Rx.flat, hm])) (by simpa [Rx.flat] using hl)
    have e2 : p ++ [n] ++ a.flat ++ b'.flat ++ q = p ++ (Rx.two n a b').flat ++ q := by simp [Rx.flat]
    have ep2 : (p ++ [n] ++ a.flat).length = p.length + 1 + a.flat.length := by simp; omega
    rw [e2, ep2] at ih2
    have hlt := at_lt hap
    have hE : EndAt (p ++ (Rx.two n a b').flat ++ q) b off cap (p.length + 1) (p.length + 1 + a.flat.length) := by
      intro w hN
      have := endOf_at _ b off cap (by unfold maxLen; omega) w hN ((p ++ (Rx.two n a b').flat ++ q).length + 1) (p.length + 1) (by omega)
      rw [show endF (p ++ (Rx.two n a b').flat ++ q) ((p ++ (Rx.two n a b').flat ++ q).length + 1) (p.length + 1) = some (p.length + 1 + a.flat.length) from hend] at this
      exact this
    rcases (prt_two n.op).1 h.1 with e | e
    · exact reach_cat _ b off cap _ _ hl n hpos e hlt s hs a b' ih ih2 hE
    · exact reach_or _ b off cap _ _ hl n hpos e hlt s hs a b' ih ih2 hE
/-- The places of A below k, rising. -/
def plcs (A : Nat → Bool) (k : Nat) : List Nat := (List.range k).filter A
theorem plcs_succ (A : Nat → Bool) (k : Nat) : plcs A (k + 1) = if A k then plcs A k ++ [k] else plcs A k := by
  unfold plcs
  rw [List.range_succ, List.filter_append]
  cases h : A k <;> simp [h]
theorem plcs_len (A : Nat → Bool) (k : Nat) : (plcs A k).length ≤ k := by
  have := List.length_filter_le A (List.range k)
  simpa [plcs] using this
theorem ends_plcs {s : List UInt8} {t : Rx} {i : Nat} {l : List Nat} (h : EndsR s t i l) (hi : i ≤ s.length) {B : Nat → Bool} (hB : Img s t (upd (fun _ => false) i true) B) : plcs B (s.length + 1) = l := by
  refine rise_eq _ _ (List.Pairwise.filter _ List.pairwise_lt_range) h.1 fun j => ?_
  rw [plcs, List.mem_filter, List.mem_range, h.2 j]
  constructor
  · rintro ⟨hj, hb⟩
    obtain ⟨k, hk, ha, hf⟩ := (hB j (by omega)).1 hb
    unfold upd at ha
    split at ha
    · rename_i e; subst e; exact hf
    · cases ha
  · intro hf
    have := fit_le s t i j hf
    exact ⟨by omega, (hB j (by omega)).2 ⟨i, hi, by simp [upd], hf⟩⟩
set_option maxHeartbeats 8000000 in
theorem endsOf_any (t : Rx) (ht : t.Ok) (v : Value) (s : ByteArray) (hs : s.size ≤ 1000000) (i : Nat) (hi : i ≤ s.size) (l : List Nat) (hE : EndsR s.data.toList t i l) (w : World) (hN : NsIn w v t.flat) (hr : ∀ n ∈ t.flat, (1 ≤ n.op ∧ n.op ≤ 9) ∧ n.c.ok) (hl : t.flat.length ≤ 60) :
    Calls Tryd.prog 18 #[v, .string s, .int .i64 (i : Int)] w fun e w' => ∃ u, e = .returned u ∧ Below w.heap.size w w' ∧ IsIn w' u l := by
  obtain ⟨a, cap, rfl, hm, h | ⟨b, off, rfl, hlt, hn⟩⟩ := hN
  · have := t.flat_pos; rw [h] at this; simp at this
  have hR := reach_tree b off cap s hs t ht [] [] hr (by simpa using hl)
  simp only [List.nil_append, List.append_nil, List.length_nil] at hR
  have hmk := mkB s.size hs
  have HR : Hid (Calls Tryd.prog 31 #[.slice (some ⟨b, off, none⟩) t.flat.length cap, .int .i64 0, .string s, .slice (some ⟨w.heap.size, 0, none⟩) (s.size + 1) (s.size + 1)] (w.alloc (.cells ((rowB s.size fun _ => false).setIfInBounds i (.bool true)) 4)) (RchP (w.alloc (.cells ((rowB s.size fun _ => false).setIfInBounds i (.bool true)) 4)) s t (upd (fun _ => false) i true))) := by
    show Calls _ _ _ _ _
    rw [rowB_set]
    exact hR _ _ _ (by simp; omega) (hn.below (new_one w _) hlt) ((BsRow.new' w s.size _).isIn _)
  have HEP : Hid (∀ B, Img s.data.toList t (upd (fun _ => false) i true) B → plcs B (s.size + 1) = l) := fun B hB => by
    have := ends_plcs hE (by rw [sl]; exact hi) hB
    rw [sl] at this
    exact this
  have i0 : (0 : Int) ≤ (i : Int) := by omega
  have i1 : (i : Int) < (s.size : Int) + 1 := by omega
  have e1 : IntKind.i64.wrap ((s.size : Int) + 1) = (s.size : Int) + 1 := by rw [IntKind.wrap_i64]; omega
  have f0 := (BsRow.new' w s.size fun _ => false).free i
  have g0 := (BsRow.new' w s.size fun _ => false).at i hi
  rw [Nat.zero_add] at g0
  clear hR hE hn hr ht
  go_enter Tryd.func18, Tryd.ntmps18
  go_wp2_with fail
  refine Calls.mono HR.out ?_
  rintro e w1 ⟨u1, B, rfl, hb1, hr1, hi1⟩
  have HPL := hid (HEP.out B hi1)
  have HB1 := hid ((new_one w _).trans (hb1.mono (by simp)))
  obtain ⟨b1, o1, d1, rfl, l1, hx⟩ := hr1
  have HL := hid l1
  have HX := hid hx
  clear hi1 hb1 HEP HR f0 g0 l1 hx hmk i0 i1 e1
  go_wp2_with fail
  go_loopw [9, 10] (fun vo vi wr => ∃ k : Nat, k ≤ s.size + 1 ∧ vi = .int .i64 k ∧ IsOwn wr w1.heap.size vo (plcs B k) ∧ Below w1.heap.size w1 wr) (fun _ v _ => s.size + 1 - (intOf v).toNat)
  case atStart => exact ⟨0, by omega, rfl, IsOwn.nil _ _, Below.refl _ _⟩
  case round =>
    obtain ⟨k, hk, rfl, hO, hb⟩ := hrel
    obtain ⟨ao, co, rfl⟩ := hO.form
    have k0 : (0 : Int) ≤ (k : Int) := by omega
    have hpl := plcs_len B k
    have HO := hid hO
    have HB := hid hb
    by_cases hkl : k < s.size + 1
    · have k1 : (k : Int) < (s.size : Int) + 1 := by omega
      have HKL := hid (show k < s.size + 1 from hkl)
      have a0 := (HX.out.below hb HL.out) k (by omega)
      clear hO hb
      cases hx : B k
      · rw [hx] at a0
        have HP : Hid (plcs B (k + 1) = plcs B k) := by show _ = _; rw [plcs_succ, hx]; rfl
        clear hx
        go_wp2_with fail
        exact ⟨⟨k + 1, HKL.out, by go_num, by rw [HP.out]; exact HO.out, HB.out⟩, by simp [intOf]; have := HKL.out; omega⟩
      · rw [hx] at a0
        have HP : Hid (plcs B (k + 1) = plcs B k ++ [k]) := by show _ = _; rw [plcs_succ, hx]; rfl
        clear hx
        have HOA := hid (HO.out.kept (new_one wr (.cells #[.int .i64 (k : Int)] 3)))
        go_wp2_with (at_builtin; refine wpList_append_is rfl _ _ rfl w1.heap.size _ rfl (plcs B k) HOA.out wr.heap.size 1 k rfl (by rw [World.cell?_alloc_at (w := wr) _ _ wr.heap.size 0 rfl]; rfl) (by omega) (by have := HB.out.size; simp; omega) ?_)
        intro g cap2 w2 hO2 hg2 _ _
        have HO2 := hid hO2
        have HB2 := hid ((HB.out.trans ((new_one wr (.cells #[.int .i64 (k : Int)] 3)).mono HB.out.size)).trans (HOA.out.grown (by have := HB.out.size; simp; omega) hg2))
        clear hO2 hg2 HOA
        go_wp2_with fail
        exact ⟨⟨k + 1, HKL.out, by go_num, by rw [HP.out]; simpa using HO2.out, HB2.out⟩, by simp [intOf]; have := HKL.out; omega⟩
    · obtain rfl : k = s.size + 1 := by omega
      clear hO hb
      go_wp2
      go_ret
      refine ⟨_, rfl, HB1.out.trans (HB.out.mono HB1.out.size), ?_⟩
      rw [← HPL.out]
      exact HO.out.isIn (by unfold maxLen; omega)
end Go.Proofs.YtphcncgdodhlbaaDoor
namespace Go.Proofs.YtphcncgdodhlbaaDoor
set_option linter.unusedSimpArgs false
set_option linter.unusedVariables false
set_option maxRecDepth 100000
open Go.RowKit
/-- A span, or none, as it is answered. -/
def spO : Option (Nat × Nat) → Nat × Nat
  | none => (0, 0)
  | some x => x
/-- Two cells are stored. -/
theorem put2_heap {w : World} {B : Nat} {a b : Value} {t : TypeId} (h : w.heap[B]? = some (.cells #[a, b] t (0, 0))) (x y : Value) : ((w.setCell ⟨B, 0, none⟩ x).setCell ⟨B, 1, none⟩ y).heap[B]? = some (.cells #[x, y] t (0, 0)) := by
  simp [World.setCell, Array.getElem?_modify, h]
set_option maxHeartbeats 4000000 in
theorem findOf_any (t : Rx) (ht : t.Ok) (v : Value) (s : ByteArray) (hs : s.size ≤ 400) (i : Nat) (r : Option (Nat × Nat)) (hr : FndR s.data.toList t i r) (hi : i ≤ s.size + 1) (w : World) (hN : NsIn w v t.flat) (ho : ∀ n ∈ t.flat, (1 ≤ n.op ∧ n.op ≤ 9) ∧ n.c.ok) (hl : t.flat.length ≤ 60) :
    Calls Tryd.prog 9 #[v, .string s, .int .i64 (i : Int)] w fun e w' => e = .returned (.tuple #[spV (spO r), .bool r.isSome]) ∧ Below w.heap.size w w' := by
  obtain ⟨o, hod⟩ : ∃ o : Obj, o = .cells #[.int .i64 0, .int .i64 0] 28 := ⟨_, rfl⟩
  have hB0 : Below w.heap.size w (w.alloc o) := (Below.refl _ _).alloc (Nat.le_refl _) _
  have HC : Hid (∀ w', Below (w.alloc o).heap.size (w.alloc o) w' → w'.heap[w.heap.size]? = some (.cells #[.int .i64 0, .int .i64 0] 28 (0, 0))) := fun w' hb => by
    rw [hb.block w.heap.size (by simp), heap_new w o, hod]
  have HE : Hid (∀ (k : Nat) (l : List Nat), k ≤ s.size → EndsR s.data.toList t k l → ∀ w', Below w.heap.size w w' → _) := fun k l hk hE w' hb => endsOf_any t ht v s (by omega) k hk l hE w' (hN.below hb) ho hl
  have HT : Hid (∀ k, ∃ l, EndsR s.data.toList t k l) := fun k => ends_total _ t k
  have HR := hid hr
  have hlen : s.data.toList.length = s.size := by simp
  obtain ⟨va, vc, rfl, vm⟩ : ∃ a c, v = .slice a t.flat.length c ∧ t.flat.length ≤ maxLen := by
    obtain ⟨a, c, h1, h2, _⟩ := hN
    exact ⟨a, c, h1, h2⟩
  clear hN hr ho
  go_enter Tryd.func9, Tryd.ntmps9
  go_wp2_with fail
  rw [← hod]
  clear hod
  go_loopw [8] (fun v wr => ∃ k : Nat, i ≤ k ∧ k ≤ s.size + 1 ∧ v = .int .i64 (k : Int) ∧ Hid (FndR s.data.toList t k r) ∧ Hid (Below (w.alloc o).heap.size (w.alloc o) wr)) (fun v _ => s.size + 1 - (intOf v).toNat)
  case atStart => exact ⟨i, Nat.le_refl _, hi, rfl, HR, Below.refl _ _⟩
  case round =>
    obtain ⟨k, hik, hk, rfl, HF, HB⟩ := hrel
    by_cases hks : k ≤ s.size
    · have g1 : (k : Int) ≤ (s.size : Int) := by omega
      obtain ⟨l, hl1⟩ := HT.out k
      have HBw : Hid (Below w.heap.size w wr) := hB0.trans (HB.out.mono (by simp))
      have C := hid (HE.out k l hks hl1 wr HBw.out)
      have HL := hid hl1
      clear hl1
      go_wp2_with fail
      refine Calls.mono C.out ?_
      rintro e w1 ⟨u, rfl, hb1, hu⟩
      have HB1 := hid (HB.out.trans (hb1.mono HB.out.size))
      clear hb1 C
      cases hlast : l.getLast? with
      | none =>
        have e0 : l = [] := List.getLast?_eq_none_iff.1 hlast
        subst e0
        obtain ⟨ua, uc, rfl, _⟩ := isIn_form hu
        have HF2 := hid (HF.out.unstep HL.out.none)
        simp only [List.length_nil]
        clear hu hlast HL HF
        go_wp2
        exact ⟨⟨k + 1, by omega, by omega, by go_num, HF2, HB1⟩, by simp [intOf]; omega⟩
      | some b =>
        have hne : l ≠ [] := fun e => by rw [e] at hlast; cases hlast
        obtain ⟨ua, uc, rfl, um, hu0 | ⟨gb, go, rfl, glt, gat⟩⟩ := hu
        · exact absurd hu0 hne
        have hl0 : 0 < l.length := List.length_pos_iff.2 hne
        have hg := gat (l.length - 1) b (by rw [List.getLast?_eq_getElem?] at hlast; exact hlast)
        have e1 : (l.length : Int) - 1 = ((l.length - 1 : Nat) : Int) := by omega
        have e2 : (0 : Int) < (l.length : Int) := by omega
        have hll := HL.out.len
        have e3 : ((l.length - 1 : Nat) : Int) < (l.length : Int) := by omega
        have hw1 : IntKind.i64.wrap ((l.length : Int) - 1) = ((l.length - 1 : Nat) : Int) := by rw [IntKind.wrap_i64]; omega
        have hrs : r = some (k, b) := HF.out.uniq (FndR.here HL.out hlast)
        have hz := HC.out w1 HB1.out
        have z0 : w1.cell? ⟨w.heap.size, 0, none⟩ = some (.int .i64 0) := (Lib.cell_of_heap hz 0).trans rfl
        have z1 : w1.cell? ⟨w.heap.size, 1, none⟩ = some (.int .i64 0) := (Lib.cell_of_heap hz 1).trans rfl
        have f0 := Lib.frozen_of_heap hz 0
        have f1 := Lib.frozen_of_heap hz 1
        have HZ := hid hz
        have HRS := hid hrs
        clear hrs gat HL HF hlast hne hll hz e1
        go_wp2
        have hp := put2_heap HZ.out (.int .i64 (k : Int)) (.int .i64 (b : Int))
        have p0 := (Lib.cell_of_heap hp 0).trans (show _ = some (.int .i64 (k : Int)) from rfl)
        have p1 := (Lib.cell_of_heap hp 1).trans (show _ = some (.int .i64 (b : Int)) from rfl)
        refine bodyPost_ret (v := .tuple #[spV (k, b), .bool true]) (by simp [results, Tryd.results9, go_sem, p0, p1]) rfl ⟨by rw [HRS.out]; rfl, ?_⟩
        exact ((hB0.trans (HB1.out.mono (by simp))).setCell (p := ⟨w.heap.size, 0, none⟩) (Nat.le_refl _) _).setCell (p := ⟨w.heap.size, 1, none⟩) (Nat.le_refl _) _
    · have hkk : k = s.size + 1 := by omega
      have g1 : ¬ (k : Int) ≤ (s.size : Int) := by omega
      have hrs : r = none := HF.out.uniq (FndR.out (by omega))
      have hz := HC.out wr HB.out
      have z0 : wr.cell? ⟨w.heap.size, 0, none⟩ = some (.int .i64 0) := (Lib.cell_of_heap hz 0).trans rfl
      have z1 : wr.cell? ⟨w.heap.size, 1, none⟩ = some (.int .i64 0) := (Lib.cell_of_heap hz 1).trans rfl
      have f0 := Lib.frozen_of_heap hz 0
      have f1 := Lib.frozen_of_heap hz 1
      have HZ := hid hz
      have HRS := hid hrs
      clear hrs hz HF
      go_wp2
      have hp := put2_heap HZ.out (.int .i64 0) (.int .i64 0)
      have p0 := (Lib.cell_of_heap hp 0).trans (show _ = some (.int .i64 0) from rfl)
      have p1 := (Lib.cell_of_heap hp 1).trans (show _ = some (.int .i64 0) from rfl)
      refine bodyPost_ret (v := .tuple #[spV (0, 0), .bool false]) (by simp [results, Tryd.results9, go_sem, p0, p1]) rfl ⟨by rw [HRS.out]; rfl, ?_⟩
      exact ((hB0.trans (HB.out.mono (by simp))).setCell (p := ⟨w.heap.size, 0, none⟩) (Nat.le_refl _) _).setCell (p := ⟨w.heap.size, 1, none⟩) (Nat.le_refl _) _
end Go.Proofs.YtphcncgdodhlbaaDoor
