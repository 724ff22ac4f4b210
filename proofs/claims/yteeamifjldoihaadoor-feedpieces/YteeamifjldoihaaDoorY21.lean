/- What the document's own functions answer: Reach at a node with parts. A pattern's text. What the document's own functions answer: Reach at a tree; EndsOf. What the document's own functions answer: Count. What the document's own Count answers, as a class is none. What the document's own functions answer: Fault. -/
import Derived.Test.YteeamifjldoihaaDoorY20
import Derived.Test.YteeamifjldoihaaDoorY04
import Derived.Test.YteeamifjldoihaaDoorY07
import Derived.Test.YteeamifjldoihaaDoorY17
import Derived.Test.YteeamifjldoihaaDoorY02
namespace Go.Proofs.YteeamifjldoihaaDoor
set_option linter.unusedSimpArgs false
set_option linter.unusedVariables false
set_option maxRecDepth 100000
open Go.RowKit
theorem img_cat (s : List UInt8) (n : Nd) (a b : Rx) (hop : n.op = 3) {A B C : Nat → Bool} (h1 : Img s a A B) (h2 : Img s b B C) : Img s (.two n a b) A C := by
  intro j hj
  have hF : ∀ i, Fit s (.two n a b) i j ↔ ∃ k, Fit s a i k ∧ Fit s b k j := fun i => by rw [Fit, if_pos hop]
  rw [h2 j hj]
  constructor
  · rintro ⟨k, hk, hb, hf⟩
    obtain ⟨i, hi, ha, hg⟩ := (h1 k hk).1 hb
    exact ⟨i, hi, ha, (hF i).2 ⟨k, hg, hf⟩⟩
  · rintro ⟨i, hi, ha, hf⟩
    obtain ⟨k, h3, h4⟩ := (hF i).1 hf
    have hk := (fit_le s a i k h3).2
    exact ⟨k, hk, (h1 k hk).2 ⟨i, hi, ha, h3⟩, h4⟩
theorem img_or (s : List UInt8) (n : Nd) (a b : Rx) (hop : n.op = 4) {A B C : Nat → Bool} (h1 : Img s a A B) (h2 : Img s b A C) : Img s (.two n a b) A fun i => B i || C i := by
  intro j hj
  have hF : ∀ i, Fit s (.two n a b) i j ↔ Fit s a i j ∨ Fit s b i j := fun i => by rw [Fit, if_neg (by rw [hop]; decide)]
  simp only [Bool.or_eq_true]
  rw [h1 j hj, h2 j hj]
  constructor
  · rintro (⟨i, hi, ha, hf⟩ | ⟨i, hi, ha, hf⟩)
    · exact ⟨i, hi, ha, (hF i).2 (Or.inl hf)⟩
    · exact ⟨i, hi, ha, (hF i).2 (Or.inr hf)⟩
  · rintro ⟨i, hi, ha, hf⟩
    rcases (hF i).1 hf with h | h
    · exact Or.inl ⟨i, hi, ha, h⟩
    · exact Or.inr ⟨i, hi, ha, h⟩
theorem img_opt (s : List UInt8) (n : Nd) (a : Rx) (hop : n.op = 7) {A B : Nat → Bool} (h1 : Img s a A B) : Img s (.one n a) A fun i => A i || B i := by
  intro j hj
  have hF : ∀ i, Fit s (.one n a) i j ↔ (i = j ∧ i ≤ s.length) ∨ Fit s a i j := fun i => by rw [Fit, if_neg (by rw [hop]; decide), if_neg (by rw [hop]; decide)]
  simp only [Bool.or_eq_true]
  rw [h1 j hj]
  constructor
  · rintro (ha | ⟨i, hi, ha, hf⟩)
    · exact ⟨j, hj, ha, (hF j).2 (Or.inl ⟨rfl, hj⟩)⟩
    · exact ⟨i, hi, ha, (hF i).2 (Or.inr hf)⟩
  · rintro ⟨i, hi, ha, hf⟩
    rcases (hF i).1 hf with ⟨rfl, _⟩ | h
    · exact Or.inl ha
    · exact Or.inr ⟨i, hi, ha, h⟩
theorem img_star (s : List UInt8) (n : Nd) (a : Rx) (hop : n.op = 5) {A B : Nat → Bool} (h1 : ImgS s a A B) : Img s (.one n a) A B := by
  intro j hj
  have hF : ∀ i, Fit s (.one n a) i j ↔ Str s.length (Fit s a) i j := fun i => by rw [Fit, if_pos hop]
  rw [h1 j hj]
  constructor
  · rintro ⟨i, hi, ha, hf⟩; exact ⟨i, hi, ha, (hF i).2 hf⟩
  · rintro ⟨i, hi, ha, hf⟩; exact ⟨i, hi, ha, (hF i).1 hf⟩
theorem img_plus (s : List UInt8) (n : Nd) (a : Rx) (hop : n.op = 6) {A B C : Nat → Bool} (h1 : Img s a A B) (h2 : ImgS s a B C) : Img s (.one n a) A C := by
  intro j hj
  have hF : ∀ i, Fit s (.one n a) i j ↔ ∃ k, Fit s a i k ∧ Str s.length (Fit s a) k j := fun i => by rw [Fit, if_neg (by rw [hop]; decide), if_pos hop]
  rw [h2 j hj]
  constructor
  · rintro ⟨k, hk, hb, hf⟩
    obtain ⟨i, hi, ha, hg⟩ := (h1 k hk).1 hb
    exact ⟨i, hi, ha, (hF i).2 ⟨k, hg, hf⟩⟩
  · rintro ⟨i, hi, ha, hf⟩
    obtain ⟨k, h3, h4⟩ := (hF i).1 hf
    have hk := (fit_le s a i k h3).2
    exact ⟨k, hk, (h1 k hk).2 ⟨i, hi, ha, h3⟩, h4⟩
/-- What Reach has made when it looks at the node. -/
def Two (w : World) (s : ByteArray) (n : Nd) (op : Int) : World := (w.alloc (.cells (rowB s.size fun _ => false) 4)).alloc (.cells #[.int .i64 op, .int .u64 n.c.a, .int .u64 n.c.b, .int .u64 n.c.c, .int .u64 n.c.d] 43)
theorem two_below (w : World) (s : ByteArray) (n : Nd) (op : Int) : Below w.heap.size w (Two w s n op) := (new_one w _).trans ((new_one _ _).mono (by simp))
def EndAt (ns : List Nd) (b off cap i j : Nat) : Prop := ∀ w : World, NsAt w b off ns → Calls Tryd.prog 17 #[.slice (some ⟨b, off, none⟩) ns.length cap, .int .i64 i] w fun e w' => e = .returned (.int .i64 (j : Int)) ∧ w' = w
set_option maxHeartbeats 4000000 in
theorem reach_cat (ns : List Nd) (b off cap i j : Nat) (hl : ns.length ≤ 60) (n : Nd) (hn : ns[i]? = some n) (hop : n.op = 3) (hi1 : i + 1 < ns.length) (s : ByteArray) (hs : s.size ≤ 1000000) (a b' : Rx) (hA : RchOk ns b off cap (i + 1) s a) (hB : RchOk ns b off cap j s b') (hE : EndAt ns b off cap (i + 1) j) : RchOk ns b off cap i s (.two n a b') := by
  intro A v w hlt hN hv
  obtain ⟨c0, c1, c2, c3, c4⟩ := (hN.below (new_one w (.cells (rowB s.size fun _ => false) 4)) hlt) i n hn
  rw [hop] at c0
  have hmk := mkB s.size hs
  have i0 : (0 : Int) ≤ (i : Int) := by omega
  have i1 : (i : Int) < (ns.length : Int) := by omega
  have i2 : (i : Int) + 1 < (ns.length : Int) := by omega
  obtain ⟨b1, o1, d1, rfl⟩ := hv.form
  have HV := hid (hv.below (two_below w s n 3))
  have HT := hid (two_below w s n 3)
  have HOP := hid hop
  have HA : Hid (∀ w1 C u, Below w.heap.size w w1 → BsIn w1 u s.size C → Calls Tryd.prog 22 #[.slice (some ⟨b, off, none⟩) ns.length cap, .int .i64 ((i : Int) + 1), .string s, u] w1 (RchP w1 s a C)) := fun w1 C u hb hu => hA C u w1 (Nat.lt_of_lt_of_le hlt hb.size) (hN.below hb hlt) hu
  have HB : Hid (∀ w1 C u, Below w.heap.size w w1 → BsIn w1 u s.size C → Calls Tryd.prog 22 #[.slice (some ⟨b, off, none⟩) ns.length cap, .int .i64 (j : Int), .string s, u] w1 (RchP w1 s b' C)) := fun w1 C u hb hu => hB C u w1 (Nat.lt_of_lt_of_le hlt hb.size) (hN.below hb hlt) hu
  have HE : Hid (∀ w1, Below w.heap.size w w1 → Calls Tryd.prog 17 #[.slice (some ⟨b, off, none⟩) ns.length cap, .int .i64 ((i : Int) + 1)] w1 fun e w' => e = .returned (.int .i64 (j : Int)) ∧ w' = w1) := fun w1 hb => hE w1 (hN.below hb hlt)
  clear hA hB hE hN hv hop hn
  go_enter Tryd.func22, Tryd.ntmps22
  go_wp2_with fail
  refine Calls.mono (HE.out _ HT.out) ?_
  rintro e w9 ⟨rfl, rfl⟩
  go_wp2_with fail
  refine Calls.mono (HA.out _ A _ HT.out HV.out) ?_
  rintro e w1 ⟨u1, B1, rfl, hb, hr, hi⟩
  have HB1 := hid (HT.out.trans (hb.mono HT.out.size))
  have HR1 := hid hr
  have HI1 := hid hi
  have HL1 := hid hb
  clear hb hr hi
  obtain ⟨bb1, oo1, dd1, rfl⟩ := HR1.out.form
  go_wp2_with fail
  refine Calls.mono (HB.out _ B1 _ HB1.out HR1.out) ?_
  rintro e w2 ⟨u2, B2, rfl, hb, hr, hi⟩
  have HB2 := hid (HB1.out.trans (hb.mono HB1.out.size))
  have HR2 := hid hr
  have HI2 := hid hi
  have HL2 := hid hb
  clear hb hr hi
  obtain ⟨bb2, oo2, dd2, rfl⟩ := HR2.out.form
  go_wp2_with fail
  go_ret
  exact ⟨_, _, rfl, HB2.out, HR2.out, img_cat _ n a b' HOP.out HI1.out HI2.out⟩
set_option maxHeartbeats 4000000 in
theorem reach_or (ns : List Nd) (b off cap i j : Nat) (hl : ns.length ≤ 60) (n : Nd) (hn : ns[i]? = some n) (hop : n.op = 4) (hi1 : i + 1 < ns.length) (s : ByteArray) (hs : s.size ≤ 1000000) (a b' : Rx) (hA : RchOk ns b off cap (i + 1) s a) (hB : RchOk ns b off cap j s b') (hE : EndAt ns b off cap (i + 1) j) : RchOk ns b off cap i s (.two n a b') := by
  intro A v w hlt hN hv
  obtain ⟨c0, c1, c2, c3, c4⟩ := (hN.below (new_one w (.cells (rowB s.size fun _ => false) 4)) hlt) i n hn
  rw [hop] at c0
  have hmk := mkB s.size hs
  have i0 : (0 : Int) ≤ (i : Int) := by omega
  have i1 : (i : Int) < (ns.length : Int) := by omega
  have i2 : (i : Int) + 1 < (ns.length : Int) := by omega
  obtain ⟨b1, o1, d1, rfl⟩ := hv.form
  have HV := hid (hv.below (two_below w s n 4))
  have HT := hid (two_below w s n 4)
  have HOP := hid hop
  have HA : Hid (∀ w1 C u, Below w.heap.size w w1 → BsIn w1 u s.size C → Calls Tryd.prog 22 #[.slice (some ⟨b, off, none⟩) ns.length cap, .int .i64 ((i : Int) + 1), .string s, u] w1 (RchP w1 s a C)) := fun w1 C u hb hu => hA C u w1 (Nat.lt_of_lt_of_le hlt hb.size) (hN.below hb hlt) hu
  have HB : Hid (∀ w1 C u, Below w.heap.size w w1 → BsIn w1 u s.size C → Calls Tryd.prog 22 #[.slice (some ⟨b, off, none⟩) ns.length cap, .int .i64 (j : Int), .string s, u] w1 (RchP w1 s b' C)) := fun w1 C u hb hu => hB C u w1 (Nat.lt_of_lt_of_le hlt hb.size) (hN.below hb hlt) hu
  have HE : Hid (∀ w1, Below w.heap.size w w1 → Calls Tryd.prog 17 #[.slice (some ⟨b, off, none⟩) ns.length cap, .int .i64 ((i : Int) + 1)] w1 fun e w' => e = .returned (.int .i64 (j : Int)) ∧ w' = w1) := fun w1 hb => hE w1 (hN.below hb hlt)
  have HJ := hid (joined_any s.size hs)
  clear hA hB hE hN hv hop hn
  go_enter Tryd.func22, Tryd.ntmps22
  go_wp2_with fail
  refine Calls.mono (HA.out _ A _ HT.out HV.out) ?_
  rintro e w1 ⟨u1, B1, rfl, hb, hr, hi⟩
  have HB1 := hid (HT.out.trans (hb.mono HT.out.size))
  have HR1 := hid hr
  have HI1 := hid hi
  have HL1 := hid hb
  clear hb hr hi
  obtain ⟨bb1, oo1, dd1, rfl⟩ := HR1.out.form
  go_wp2_with fail
  refine Calls.mono (HE.out _ HB1.out) ?_
  rintro e w9 ⟨rfl, rfl⟩
  go_wp2_with fail
  refine Calls.mono (HB.out _ A _ HB1.out (HV.out.below HL1.out)) ?_
  rintro e w2 ⟨u2, B2, rfl, hb, hr, hi⟩
  have HB2 := hid (HB1.out.trans (hb.mono HB1.out.size))
  have HR2 := hid hr
  have HI2 := hid hi
  have HL2 := hid hb
  clear hb hr hi
  obtain ⟨bb2, oo2, dd2, rfl⟩ := HR2.out.form
  go_wp2_with fail
  refine Calls.mono (HJ.out B1 B2 _ _ _ (HR1.out.below HL2.out) HR2.out) ?_
  rintro e w3 ⟨x, rfl, hb, hr⟩
  have HB3 := hid (HB2.out.trans (hb.mono HB2.out.size))
  have HR3 := hid hr
  clear hb hr
  go_wp2_with fail
  go_ret
  exact ⟨_, _, rfl, HB3.out, HR3.out, img_or _ n a b' HOP.out HI1.out HI2.out⟩
set_option maxHeartbeats 4000000 in
theorem reach_opt (ns : List Nd) (b off cap i : Nat) (hl : ns.length ≤ 60) (n : Nd) (hn : ns[i]? = some n) (hop : n.op = 7) (hi1 : i + 1 < ns.length) (s : ByteArray) (hs : s.size ≤ 1000000) (a : Rx) (hA : RchOk ns b off cap (i + 1) s a) : RchOk ns b off cap i s (.one n a) := by
  intro A v w hlt hN hv
  obtain ⟨c0, c1, c2, c3, c4⟩ := (hN.below (new_one w (.cells (rowB s.size fun _ => false) 4)) hlt) i n hn
  rw [hop] at c0
  have hmk := mkB s.size hs
  have i0 : (0 : Int) ≤ (i : Int) := by omega
  have i1 : (i : Int) < (ns.length : Int) := by omega
  have i2 : (i : Int) + 1 < (ns.length : Int) := by omega
  obtain ⟨b1, o1, d1, rfl⟩ := hv.form
  have HV := hid (hv.below (two_below w s n 7))
  have HT := hid (two_below w s n 7)
  have HOP := hid hop
  have HA : Hid (∀ w1 C u, Below w.heap.size w w1 → BsIn w1 u s.size C → Calls Tryd.prog 22 #[.slice (some ⟨b, off, none⟩) ns.length cap, .int .i64 ((i : Int) + 1), .string s, u] w1 (RchP w1 s a C)) := fun w1 C u hb hu => hA C u w1 (Nat.lt_of_lt_of_le hlt hb.size) (hN.below hb hlt) hu
  have HJ := hid (joined_any s.size hs)
  clear hA hN hv hop hn
  go_enter Tryd.func22, Tryd.ntmps22
  go_wp2_with fail
  refine Calls.mono (HA.out _ A _ HT.out HV.out) ?_
  rintro e w1 ⟨u1, B1, rfl, hb, hr, hi⟩
  have HB1 := hid (HT.out.trans (hb.mono HT.out.size))
  have HR1 := hid hr
  have HI1 := hid hi
  have HL1 := hid hb
  clear hb hr hi
  obtain ⟨bb1, oo1, dd1, rfl⟩ := HR1.out.form
  go_wp2_with fail
  refine Calls.mono (HJ.out A B1 _ _ _ (HV.out.below HL1.out) HR1.out) ?_
  rintro e w3 ⟨x, rfl, hb, hr⟩
  have HB3 := hid (HB1.out.trans (hb.mono HB1.out.size))
  have HR3 := hid hr
  clear hb hr
  go_wp2_with fail
  go_ret
  exact ⟨_, _, rfl, HB3.out, HR3.out, img_opt _ n a HOP.out HI1.out⟩
set_option maxHeartbeats 4000000 in
theorem reach_star (ns : List Nd) (b off cap i : Nat) (hl : ns.length ≤ 60) (n : Nd) (hn : ns[i]? = some n) (hop : n.op = 5) (hi1 : i + 1 < ns.length) (s : ByteArray) (hs : s.size ≤ 1000000) (a : Rx) (hA : RchOk ns b off cap (i + 1) s a) : RchOk ns b off cap i s (.one n a) := by
  intro A v w hlt hN hv
  obtain ⟨c0, c1, c2, c3, c4⟩ := (hN.below (new_one w (.cells (rowB s.size fun _ => false) 4)) hlt) i n hn
  rw [hop] at c0
  have hmk := mkB s.size hs
  have i0 : (0 : Int) ≤ (i : Int) := by omega
  have i1 : (i : Int) < (ns.length : Int) := by omega
  have i2 : (i : Int) + 1 < (ns.length : Int) := by omega
  obtain ⟨b1, o1, d1, rfl⟩ := hv.form
  have HV := hid (hv.below (two_below w s n 5))
  have HT := hid (two_below w s n 5)
  have HOP := hid hop
  have HA : Hid (∀ w1 C u, Below w.heap.size w w1 → BsIn w1 u s.size C → Calls Tryd.prog 22 #[.slice (some ⟨b, off, none⟩) ns.length cap, .int .i64 ((i : Int) + 1), .string s, u] w1 (RchP w1 s a C)) := fun w1 C u hb hu => hA C u w1 (Nat.lt_of_lt_of_le hlt hb.size) (hN.below hb hlt) hu
  have HC : Hid (∀ w1 C u, Below w.heap.size w w1 → BsIn w1 u s.size C → Calls Tryd.prog 44 #[.slice (some ⟨b, off, none⟩) ns.length cap, .int .i64 ((i : Int) + 1), .string s, u] w1 (ClsP w1 s a C)) := fun w1 C u hb hu => closed_any ns b off cap (i + 1) hl s hs a hA C u w1 (Nat.lt_of_lt_of_le hlt hb.size) (hN.below hb hlt) hu
  clear hA hN hv hop hn
  go_enter Tryd.func22, Tryd.ntmps22
  go_wp2_with fail
  refine Calls.mono (HC.out _ A _ HT.out HV.out) ?_
  rintro e w1 ⟨u1, B1, rfl, hb, hr, hi⟩
  have HB1 := hid (HT.out.trans (hb.mono HT.out.size))
  have HR1 := hid hr
  have HI1 := hid hi
  have HL1 := hid hb
  clear hb hr hi
  obtain ⟨bb1, oo1, dd1, rfl⟩ := HR1.out.form
  go_wp2_with fail
  go_ret
  exact ⟨_, _, rfl, HB1.out, HR1.out, img_star _ n a HOP.out HI1.out⟩
set_option maxHeartbeats 4000000 in
theorem reach_plus (ns : List Nd) (b off cap i : Nat) (hl : ns.length ≤ 60) (n : Nd) (hn : ns[i]? = some n) (hop : n.op = 6) (hi1 : i + 1 < ns.length) (s : ByteArray) (hs : s.size ≤ 1000000) (a : Rx) (hA : RchOk ns b off cap (i + 1) s a) : RchOk ns b off cap i s (.one n a) := by
  intro A v w hlt hN hv
  obtain ⟨c0, c1, c2, c3, c4⟩ := (hN.below (new_one w (.cells (rowB s.size fun _ => false) 4)) hlt) i n hn
  rw [hop] at c0
  have hmk := mkB s.size hs
  have i0 : (0 : Int) ≤ (i : Int) := by omega
  have i1 : (i : Int) < (ns.length : Int) := by omega
  have i2 : (i : Int) + 1 < (ns.length : Int) := by omega
  obtain ⟨b1, o1, d1, rfl⟩ := hv.form
  have HV := hid (hv.below (two_below w s n 6))
  have HT := hid (two_below w s n 6)
  have HOP := hid hop
  have HA : Hid (∀ w1 C u, Below w.heap.size w w1 → BsIn w1 u s.size C → Calls Tryd.prog 22 #[.slice (some ⟨b, off, none⟩) ns.length cap, .int .i64 ((i : Int) + 1), .string s, u] w1 (RchP w1 s a C)) := fun w1 C u hb hu => hA C u w1 (Nat.lt_of_lt_of_le hlt hb.size) (hN.below hb hlt) hu
  have HC : Hid (∀ w1 C u, Below w.heap.size w w1 → BsIn w1 u s.size C → Calls Tryd.prog 44 #[.slice (some ⟨b, off, none⟩) ns.length cap, .int .i64 ((i : Int) + 1), .string s, u] w1 (ClsP w1 s a C)) := fun w1 C u hb hu => closed_any ns b off cap (i + 1) hl s hs a hA C u w1 (Nat.lt_of_lt_of_le hlt hb.size) (hN.below hb hlt) hu
  clear hA hN hv hop hn
  go_enter Tryd.func22, Tryd.ntmps22
  go_wp2_with fail
  refine Calls.mono (HA.out _ A _ HT.out HV.out) ?_
  rintro e w1 ⟨u1, B1, rfl, hb, hr, hi⟩
  have HB1 := hid (HT.out.trans (hb.mono HT.out.size))
  have HR1 := hid hr
  have HI1 := hid hi
  have HL1 := hid hb
  clear hb hr hi
  obtain ⟨bb1, oo1, dd1, rfl⟩ := HR1.out.form
  go_wp2_with fail
  refine Calls.mono (HC.out _ B1 _ HB1.out HR1.out) ?_
  rintro e w2 ⟨u2, B2, rfl, hb, hr, hi⟩
  have HB2 := hid (HB1.out.trans (hb.mono HB1.out.size))
  have HR2 := hid hr
  have HI2 := hid hi
  have HL2 := hid hb
  clear hb hr hi
  obtain ⟨bb2, oo2, dd2, rfl⟩ := HR2.out.form
  go_wp2_with fail
  go_ret
  exact ⟨_, _, rfl, HB2.out, HR2.out, img_plus _ n a HOP.out HI1.out HI2.out⟩
end Go.Proofs.YteeamifjldoihaaDoor
namespace Go.Proofs.YteeamifjldoihaaDoor
set_option linter.unusedSimpArgs false
set_option linter.unusedVariables false
set_option maxRecDepth 100000
open Go.RowKit

/-- The node at a tree's top. -/
def Rx.top : Rx → Nd
  | .leaf n => n
  | .one n _ => n
  | .two n _ _ => n
/-- Does a part want brackets? -/
def brk (parent op : Int) (second : Bool) : Bool :=
  if op = 2 then !decide (parent = 4) else if op = 4 then !second || !decide (parent = 4) else if op = 3 then (decide (parent = 3) && !second) || decide (parent = 5) || decide (parent = 6) || decide (parent = 7) else false
def brT (x : Bool) (s : List UInt8) : List UInt8 := if x then 40 :: (s ++ [41]) else s
def signT (op : Int) : UInt8 := if op = 5 then 42 else if op = 6 then 43 else 63
/-- The text. -/
def Rx.txt : Rx → List UInt8
  | .leaf n => if n.op = 1 then textL n.c else if n.op = 8 then [94] else if n.op = 9 then [36] else []
  | .one n a => brT (brk n.op a.top.op false) a.txt ++ [signT n.op]
  | .two n a b => brT (brk n.op a.top.op false) a.txt ++ ((if n.op = 4 then [124] else []) ++ brT (brk n.op b.top.op true) b.txt)
theorem Rx.flat_top (t : Rx) : ∃ r, t.flat = t.top :: r := by cases t <;> exact ⟨_, rfl⟩
theorem brT_len (x : Bool) (s : List UInt8) : (brT x s).length ≤ s.length + 2 := by
  cases x <;> simp [brT]
theorem textL_len (k : C4) : (textL k).length ≤ 2306 := by
  have := runs256_len k
  unfold textL
  split
  · simp
  · split
    · omega
    · simp; omega
theorem Rx.txt_len : ∀ t : Rx, t.txt.length ≤ 2400 * t.flat.length
  | .leaf n => by
    have := textL_len n.c
    unfold Rx.txt
    split
    · simp [Rx.flat]; omega
    · split
      · simp [Rx.flat]
      · split <;> simp [Rx.flat]
  | .one n a => by
    have := txt_len a
    have := brT_len (brk n.op a.top.op false) a.txt
    simp [Rx.txt, Rx.flat]; omega
  | .two n a b => by
    have := txt_len a
    have := txt_len b
    have := brT_len (brk n.op a.top.op false) a.txt
    have := brT_len (brk n.op b.top.op true) b.txt
    have : (if n.op = 4 then [(124 : UInt8)] else []).length ≤ 1 := by split <;> simp
    simp [Rx.txt, Rx.flat]; omega
end Go.Proofs.YteeamifjldoihaaDoor
namespace Go.Proofs.YteeamifjldoihaaDoor
set_option linter.unusedSimpArgs false
set_option linter.unusedVariables false
set_option maxRecDepth 100000
open Go.RowKit
theorem rpos : ∀ (t : Rx) (p q : List Nd), (p ++ t.flat ++ q)[p.length]? = some t.top
  | .leaf n, p, q => by simp [Rx.flat, Rx.top]
  | .one n a, p, q => by simp [Rx.flat, Rx.top]
  | .two n a b, p, q => by simp [Rx.flat, Rx.top]
theorem rleaf_op {n : Nd} (h : prt n.op = 0) (hr : 1 ≤ n.op ∧ n.op ≤ 9) : n.op = 1 ∨ n.op = 2 ∨ n.op = 8 ∨ n.op = 9 := by
  have e3 : n.op ≠ 3 := by intro e; rw [e] at h; simp [prt] at h
  have e4 : n.op ≠ 4 := by intro e; rw [e] at h; simp [prt] at h
  have e5 : n.op ≠ 5 := by intro e; rw [e] at h; simp [prt] at h
  have e6 : n.op ≠ 6 := by intro e; rw [e] at h; simp [prt] at h
  have e7 : n.op ≠ 7 := by intro e; rw [e] at h; simp [prt] at h
  omega
theorem reach_tree (b off cap : Nat) (s : ByteArray) (hs : s.size ≤ 1000000) : ∀ (t : Rx), t.Ok → ∀ (p q : List Nd), (∀ n ∈ t.flat, (1 ≤ n.op ∧ n.op ≤ 9) ∧ n.c.ok) → (p ++ t.flat ++ q).length ≤ 60 → RchOk (p ++ t.flat ++ q) b off cap p.length s t
  | .leaf n, h, p, q, hr, hl => by
    have hg := hr n (by simp [Rx.flat])
    have hat := rpos (.leaf n) p q
    rcases rleaf_op h hg.1 with e | e | e | e
    · exact reach_byte _ b off cap _ hl n hat e hg.2 s hs
    · exact reach_empty _ b off cap _ hl n hat e s hs
    · exact reach_begin _ b off cap _ hl n hat e s hs
    · exact reach_end _ b off cap _ hl n hat e s hs
  | .one n a, h, p, q, hr, hl => by
    have hpos := rpos (.one n a) p q
    have hap := rpos a (p ++ [n]) q
    have ih := reach_tree b off cap s hs a h.2 (p ++ [n]) q (fun m hm => hr m (by simp [Rx.flat, hm])) (by simpa [Rx.flat] using hl)
    have e : p ++ [n] ++ a.flat ++ q = p ++ (Rx.one n a).flat ++ q := by simp [Rx.flat]
    have ep : (p ++ [n]).length = p.length + 1 := by simp
    rw [e, ep] at ih hap
    have hlt := at_lt hap
    rcases (prt_one n.op).1 h.1 with e | e | e
    · exact reach_star _ b off cap _ hl n hpos e hlt s hs a ih
    · exact reach_plus _ b off cap _ hl n hpos e hlt s hs a ih
    · exact reach_opt _ b off cap _ hl n hpos e hlt s hs a ih
  | .two n a b', h, p, q, hr, hl => by
    have hpos := rpos (.two n a b') p q
    have hap := rpos a (p ++ [n]) (b'.flat ++ q)
    have ih := reach_tree b off cap s hs a h.2.1 (p ++ [n]) (b'.flat ++ q) (fun m hm => hr m (by simp [Rx.flat, hm])) (by simpa [Rx.flat] using hl)
    have hend := endE_mid a h.2.1 (p ++ [n]) (b'.flat ++ q)
    have e : p ++ [n] ++ a.flat ++ (b'.flat ++ q) = p ++ (Rx.two n a b').flat ++ q := by simp [Rx.flat]
    have ep : (p ++ [n]).length = p.length + 1 := by simp
    rw [e, ep] at ih hap hend
    have ih2 := reach_tree b off cap s hs b' h.2.2 (p ++ [n] ++ a.flat) q (fun m hm => hr m (by simp [Rx.flat, hm])) (by simpa [Rx.flat] using hl)
    have e2 : p ++ [n] ++ a.flat ++ b'.flat ++ q = p ++ (Rx.two n a b').flat ++ q := by simp [Rx.flat]
    have ep2 : (p ++ [n] ++ a.flat).length = p.length + 1 + a.flat.length := by simp; omega
    rw [e2, ep2] at ih2
    have hlt := at_lt hap
    have hE : EndAt (p ++ (Rx.two n a b').flat ++ q) b off cap (p.length + 1) (p.length + 1 + a.flat.length) := by
      intro w hN
      have := endOf_at _ b off cap (by unfold maxLen; omega) w hN ((p ++ (Rx.two n a b').flat ++ q).length + 1) (p.length + 1) (by omega)
      rw [show endF (p ++ (Rx.two n a b').flat ++ q) ((p ++ (Rx.two n a b').flat ++ q).length + 1) (p.length + 1) = some (p.length + 1 + a.flat.length) from hend] at this
      exact this
    rcases (prt_two n.op).1 h.1 with e | e
    · exact reach_cat _ b off cap _ _ hl n hpos e hlt s hs a b' ih ih2 hE
    · exact reach_or _ b off cap _ _ hl n hpos e hlt s hs a b' ih ih2 hE
/-- The places of A below k, rising. -/
def plcs (A : Nat → Bool) (k : Nat) : List Nat := (List.range k).filter A
theorem plcs_succ (A : Nat → Bool) (k : Nat) : plcs A (k + 1) = if A k then plcs A k ++ [k] else plcs A k := by
  unfold plcs
  rw [List.range_succ, List.filter_append]
  cases h : A k <;> simp [h]
theorem plcs_len (A : Nat → Bool) (k : Nat) : (plcs A k).length ≤ k := by
  have := List.length_filter_le A (List.range k)
  simpa [plcs] using this
theorem ends_plcs {s : List UInt8} {t : Rx} {i : Nat} {l : List Nat} (h : EndsR s t i l) (hi : i ≤ s.length) {B : Nat → Bool} (hB : Img s t (upd (fun _ => false) i true) B) : plcs B (s.length + 1) = l := by
  refine rise_eq _ _ (List.Pairwise.filter _ List.pairwise_lt_range) h.1 fun j => ?_
  rw [plcs, List.mem_filter, List.mem_range, h.2 j]
  constructor
  · rintro ⟨hj, hb⟩
    obtain ⟨k, hk, ha, hf⟩ := (hB j (by omega)).1 hb
    unfold upd at ha
    split at ha
    · rename_i e; subst e; exact hf
    · cases ha
  · intro hf
    have := fit_le s t i j hf
    exact ⟨by omega, (hB j (by omega)).2 ⟨i, hi, by simp [upd], hf⟩⟩
set_option maxHeartbeats 8000000 in
theorem endsOf_any (t : Rx) (ht : t.Ok) (v : Value) (s : ByteArray) (hs : s.size ≤ 1000000) (i : Nat) (hi : i ≤ s.size) (l : List Nat) (hE : EndsR s.data.toList t i l) (w : World) (hN : NsIn w v t.flat) (hr : ∀ n ∈ t.flat, (1 ≤ n.op ∧ n.op ≤ 9) ∧ n.c.ok) (hl : t.flat.length ≤ 60) :
    Calls Tryd.prog 9 #[v, .string s, .int .i64 (i : Int)] w fun e w' => ∃ u, e = .returned u ∧ Below w.heap.size w w' ∧ IsIn w' u l := by
  obtain ⟨a, cap, rfl, hm, h | ⟨b, off, rfl, hlt, hn⟩⟩ := hN
  · have := t.flat_pos; rw [h] at this; simp at this
  have hR := reach_tree b off cap s hs t ht [] [] hr (by simpa using hl)
  simp only [List.nil_append, List.append_nil, List.length_nil] at hR
  have hmk := mkB s.size hs
  have HR : Hid (Calls Tryd.prog 22 #[.slice (some ⟨b, off, none⟩) t.flat.length cap, .int .i64 0, .string s, .slice (some ⟨w.heap.size, 0, none⟩) (s.size + 1) (s.size + 1)] (w.alloc (.cells ((rowB s.size fun _ => false).setIfInBounds i (.bool true)) 4)) (RchP (w.alloc (.cells ((rowB s.size fun _ => false).setIfInBounds i (.bool true)) 4)) s t (upd (fun _ => false) i true))) := by
    show Calls _ _ _ _ _
    rw [rowB_set]
    exact hR _ _ _ (by simp; omega) (hn.below (new_one w _) hlt) ((BsRow.new' w s.size _).isIn _)
  have HEP : Hid (∀ B, Img s.data.toList t (upd (fun _ => false) i true) B → plcs B (s.size + 1) = l) := fun B hB => by
    have := ends_plcs hE (by rw [sl]; exact hi) hB
    rw [sl] at this
    exact this
  have i0 : (0 : Int) ≤ (i : Int) := by omega
  have i1 : (i : Int) < (s.size : Int) + 1 := by omega
  have e1 : IntKind.i64.wrap ((s.size : Int) + 1) = (s.size : Int) + 1 := by rw [IntKind.wrap_i64]; omega
  have f0 := (BsRow.new' w s.size fun _ => false).free i
  have g0 := (BsRow.new' w s.size fun _ => false).at i hi
  rw [Nat.zero_add] at g0
  clear hR hE hn hr ht
  go_enter Tryd.func9, Tryd.ntmps9
  go_wp2_with fail
  refine Calls.mono HR.out ?_
  rintro e w1 ⟨u1, B, rfl, hb1, hr1, hi1⟩
  have HPL := hid (HEP.out B hi1)
  have HB1 := hid ((new_one w _).trans (hb1.mono (by simp)))
  obtain ⟨b1, o1, d1, rfl, l1, hx⟩ := hr1
  have HL := hid l1
  have HX := hid hx
  clear hi1 hb1 HEP HR f0 g0 l1 hx hmk i0 i1 e1
  go_wp2_with fail
  go_loopw [9, 10] (fun vo vi wr => ∃ k : Nat, k ≤ s.size + 1 ∧ vi = .int .i64 k ∧ IsOwn wr w1.heap.size vo (plcs B k) ∧ Below w1.heap.size w1 wr) (fun _ v _ => s.size + 1 - (intOf v).toNat)
  case atStart => exact ⟨0, by omega, rfl, IsOwn.nil _ _, Below.refl _ _⟩
  case round =>
    obtain ⟨k, hk, rfl, hO, hb⟩ := hrel
    obtain ⟨ao, co, rfl⟩ := hO.form
    have k0 : (0 : Int) ≤ (k : Int) := by omega
    have hpl := plcs_len B k
    have HO := hid hO
    have HB := hid hb
    by_cases hkl : k < s.size + 1
    · have k1 : (k : Int) < (s.size : Int) + 1 := by omega
      have HKL := hid (show k < s.size + 1 from hkl)
      have a0 := (HX.out.below hb HL.out) k (by omega)
      clear hO hb
      cases hx : B k
      · rw [hx] at a0
        have HP : Hid (plcs B (k + 1) = plcs B k) := by show _ = _; rw [plcs_succ, hx]; rfl
        clear hx
        go_wp2_with fail
        exact ⟨⟨k + 1, HKL.out, by go_num, by rw [HP.out]; exact HO.out, HB.out⟩, by simp [intOf]; have := HKL.out; omega⟩
      · rw [hx] at a0
        have HP : Hid (plcs B (k + 1) = plcs B k ++ [k]) := by show _ = _; rw [plcs_succ, hx]; rfl
        clear hx
        have HOA := hid (HO.out.kept (new_one wr (.cells #[.int .i64 (k : Int)] 3)))
        go_wp2_with (at_builtin; refine wpList_append_is rfl _ _ rfl w1.heap.size _ rfl (plcs B k) HOA.out wr.heap.size 1 k rfl (by rw [World.cell?_alloc_at (w := wr) _ _ wr.heap.size 0 rfl]; rfl) (by omega) (by have := HB.out.size; simp; omega) ?_)
        intro g cap2 w2 hO2 hg2 _ _
        have HO2 := hid hO2
        have HB2 := hid ((HB.out.trans ((new_one wr (.cells #[.int .i64 (k : Int)] 3)).mono HB.out.size)).trans (HOA.out.grown (by have := HB.out.size; simp; omega) hg2))
        clear hO2 hg2 HOA
        go_wp2_with fail
        exact ⟨⟨k + 1, HKL.out, by go_num, by rw [HP.out]; simpa using HO2.out, HB2.out⟩, by simp [intOf]; have := HKL.out; omega⟩
    · obtain rfl : k = s.size + 1 := by omega
      clear hO hb
      go_wp2
      go_ret
      refine ⟨_, rfl, HB1.out.trans (HB.out.mono HB1.out.size), ?_⟩
      rw [← HPL.out]
      exact HO.out.isIn (by unfold maxLen; omega)
end Go.Proofs.YteeamifjldoihaaDoor
namespace Go.Proofs.YteeamifjldoihaaDoor
set_option linter.unusedSimpArgs false
set_option linter.unusedVariables false
open Go.RowKit

set_option maxHeartbeats 1000000 in
theorem count_any (k : C4) (hk : k.ok) (w : World) :
    Calls Tryd.prog 16 #[k.v] w fun e w' => e = .returned (.int .i64 (cnt k.has 256)) ∧ Below w.heap.size w w' := by
  go_enter Tryd.func16, Tryd.ntmps16
  go_wp2
  go_loopw [3, 4] (fun u v wr => ∃ i c : Nat, i ≤ 256 ∧ c ≤ i ∧ Hid (c = cnt k.has i) ∧ v = .int .i64 i ∧ u = .int .i64 c ∧ Below w.heap.size w wr ∧ Hb wr w.heap.size k) (fun _ v _ => 256 - (intOf v).toNat)
  case atStart => exact ⟨0, 0, by omega, by omega, Eq.refl _, rfl, rfl, (Below.refl _ _).alloc (Nat.le_refl _) _, Hb.new _ k _ rfl⟩
  case round =>
    obtain ⟨i, c, hi, hc, HC, rfl, rfl, hB, hK⟩ := hrel
    obtain ⟨c0, c1, c2, c3, e0, e1, e2, e3⟩ := hK.all
    by_cases hlt : i < 256
    · have i1 : (i : Int) < 256 := by omega
      go_wp2_with fail
      refine (in_any k hk i hlt _).mono ?_
      rintro e w1 ⟨rfl, hb1⟩
      have hB1 := hB.trans (hb1.mono hB.size)
      have hK1 := hK.below hb1 hK.lt
      cases hn : k.has i
      · have HE : Hid (c = cnt k.has (i + 1)) := by show _ = _; rw [cnt, hn, HC.out]; rfl
        go_wp2
        exact ⟨⟨i + 1, c, by omega, by omega, HE, by go_num, by go_num, hB1, hK1⟩, by simp [intOf]; omega⟩
      · have HE : Hid (c + 1 = cnt k.has (i + 1)) := by show _ = _; rw [cnt, hn, HC.out]; rfl
        go_wp2
        exact ⟨⟨i + 1, c + 1, by omega, by omega, HE, by go_num, by go_num, hB1, hK1⟩, by simp [intOf]; omega⟩
    · have hi2 : i = 256 := by omega
      subst hi2
      go_wp2
      go_ret
      exact ⟨ret_int (by rw [HC.out]), hB⟩
end Go.Proofs.YteeamifjldoihaaDoor
namespace Go.Proofs.YteeamifjldoihaaDoor
set_option linter.unusedSimpArgs false
set_option linter.unusedVariables false
set_option maxRecDepth 100000
open Go.RowKit
theorem count_b (k : C4) (hk : k.ok) (w : World) :
    Calls Tryd.prog 16 #[k.v] w fun e w' => ∃ c : Nat, e = .returned (.int .i64 c) ∧ Hid (((0 : Int) < (c : Int)) ↔ ¬ k.eqb z4 = true) ∧ c ≤ 256 ∧ Below w.heap.size w w' := by
  refine (count_any k hk w).mono ?_
  rintro e w' ⟨rfl, hb⟩
  exact ⟨cnt k.has 256, rfl, cnt_zero_iff hk, cnt_le _ _, hb⟩
end Go.Proofs.YteeamifjldoihaaDoor
namespace Go.Proofs.YteeamifjldoihaaDoor
set_option linter.unusedSimpArgs false
set_option linter.unusedVariables false
set_option maxRecDepth 100000
open Go.RowKit

set_option maxHeartbeats 4000000 in
theorem fault_at (ns : List Nd) (ho : NdOk ns) (b off cap : Nat) (hm : ns.length ≤ maxLen) (w : World) (hlt : b < w.heap.size) (hN : NsAt w b off ns) (h0 : 0 < ns.length) :
    Calls Tryd.prog 5 #[.slice (some ⟨b, off, none⟩) ns.length cap] w fun e w' => e = .returned (.int .i64 (faultL ns)) ∧ Below w.heap.size w w' := by
  have HM := (show Hid _ from hm)
  unfold maxLen at hm
  by_cases h60 : 60 < ns.length
  · have g60 : (60 : Int) < (ns.length : Int) := by omega
    have HF : Hid (faultL ns = 3) := by show _ = _; rw [faultL, if_pos h60]
    go_enter Tryd.func5, Tryd.ntmps5
    go_wp2
    go_ret
    exact ⟨by rw [HF.out]; rfl, Below.refl _ _⟩
  · have g60 : ¬ (60 : Int) < (ns.length : Int) := by omega
    go_enter Tryd.func5, Tryd.ntmps5
    go_wp2
    go_loopw [3] (fun v wr => ∃ i : Nat, i ≤ ns.length ∧ v = .int .i64 i ∧ Hid (scanL ns = scanL (ns.drop i)) ∧ Below w.heap.size w wr) (fun v _ => ns.length - (intOf v).toNat)
    case atStart => exact ⟨0, by omega, rfl, Eq.refl _, Below.refl _ _⟩
    case round =>
      obtain ⟨i, hi, rfl, HS, hB⟩ := hrel
      have hNr := hN.below hB hlt
      by_cases hil : i < ns.length
      · obtain ⟨n, hn⟩ : ∃ n, ns[i]? = some n := ⟨ns[i], List.getElem?_eq_getElem hil⟩
        have hno : n.c.ok := ho n (List.mem_of_getElem? hn)
        obtain ⟨c0, c1, c2, c3, c4⟩ := hNr i n hn
        have HD : Hid _ := scan_drop ns i n hn
        have i0 : (0 : Int) ≤ (i : Int) := by omega
        have i1 : (i : Int) < (ns.length : Int) := by omega
        clear hn
        by_cases hr : n.op < 1 ∨ 9 < n.op
        · have HF : Hid (faultL ns = 1) := by
            show _ = _
            have e1 : scanL ns = 1 := by rw [HS.out, HD.out, if_pos hr]
            rw [faultL, if_neg h60, e1]; rfl
          rcases hr with hr | hr
          · go_wp2
            go_ret
            exact ⟨by rw [HF.out]; rfl, hB⟩
          · have hr2 : ¬ n.op < 1 := by omega
            go_wp2
            go_ret
            exact ⟨by rw [HF.out]; rfl, hB⟩
        · have hr1 : ¬ n.op < 1 := by omega
          have hr2 : ¬ 9 < n.op := by omega
          by_cases hb1 : n.op = 1
          · have hb2 : (n.op != 1) = false := by simp [hb1]
            have HS2 : Hid (scanL ns = scanL (ns.drop (i + 1))) := by
              show _ = _
              rw [HS.out, HD.out, if_neg hr, if_neg (by simp [hb1])]
            clear hb1
            go_wp2
            exact ⟨⟨i + 1, by omega, by go_num, HS2, hB⟩, by simp [intOf]; omega⟩
          · have hb2 : (n.op != 1) = true := by simp [hb1]
            go_wp2_with fail
            refine (count_b n.c hno _).mono ?_
            rintro e w1 ⟨c, rfl, HC, hc, hb3⟩
            have hB1 := hB.trans (hb3.mono hB.size)
            by_cases hz : n.c.eqb z4 = true
            · have gz : ¬ (0 : Int) < (c : Int) := fun h => (HC.out.1 h) hz
              have HS2 : Hid (scanL ns = scanL (ns.drop (i + 1))) := by
                show _ = _
                rw [HS.out, HD.out, if_neg hr, if_neg (by simp [hz])]
              clear hz
              go_wp2
              exact ⟨⟨i + 1, by omega, by go_num, HS2, hB1⟩, by simp [intOf]; omega⟩
            · have gz : (0 : Int) < (c : Int) := HC.out.2 hz
              have HF : Hid (faultL ns = 2) := by
                show _ = _
                have e1 : scanL ns = 2 := by rw [HS.out, HD.out, if_neg hr, if_pos ⟨hb1, hz⟩]
                rw [faultL, if_neg h60, e1]; rfl
              clear hz
              go_wp2
              go_ret
              exact ⟨by rw [HF.out]; rfl, hB1⟩
      · have hi2 : i = ns.length := by omega
        subst hi2
        have e0 : scanL ns = 0 := by rw [HS.out, List.drop_length]; rfl
        have z0 : ((ns.length : Int) == 0) = false := by rw [beq_eq_false_iff_ne]; omega
        have hne : ns ≠ [] := by intro e; rw [e] at h0; simp at h0
        have HF : Hid (faultL ns = if endE ns 0 ≠ some ns.length then 2 else 0) := by
          show _ = _
          rw [faultL, if_neg h60, e0]
          simp [hne]
        clear e0 hne
        go_wp2_with fail
        refine (endOf_any ns _ 0 _ ⟨_, cap, rfl, HM.out, Or.inr ⟨b, off, rfl, Nat.lt_of_lt_of_le hlt hB.size, hNr⟩⟩).mono ?_
        rintro e w1 ⟨rfl, rfl⟩
        cases he : endE ns 0 with
        | none =>
          have HF2 : Hid (faultL ns = 2) := by show _ = _; rw [HF.out, he]; simp
          have q : ((-1 : Int) != (ns.length : Int)) = true := by rw [bne_iff_ne]; omega
          simp only [endI]
          clear he
          go_wp2
          go_ret
          exact ⟨by rw [HF2.out]; rfl, hB⟩
        | some j =>
          by_cases hj : j = ns.length
          · have HF2 : Hid (faultL ns = 0) := by show _ = _; rw [HF.out, he, hj]; simp
            simp only [endI]
            have q : ((j : Int) != (ns.length : Int)) = false := by rw [hj]; simp
            clear he hj
            go_wp2
            go_ret
            exact ⟨by rw [HF2.out]; rfl, hB⟩
          · have HF2 : Hid (faultL ns = 2) := by show _ = _; rw [HF.out, he]; simp [hj]
            simp only [endI]
            have q : ((j : Int) != (ns.length : Int)) = true := by rw [bne_iff_ne]; omega
            clear he hj
            go_wp2
            go_ret
            exact ⟨by rw [HF2.out]; rfl, hB⟩
set_option maxHeartbeats 1000000 in
theorem fault_nil (a : Option Addr) (cap : Nat) (w : World) :
    Calls Tryd.prog 5 #[.slice a 0 cap] w fun e w' => e = .returned (.int .i64 2) ∧ Below w.heap.size w w' := by
  go_enter Tryd.func5, Tryd.ntmps5
  go_wp2
  go_loop [3] (fun v => v = .int .i64 0) (fun _ => 0)
  case atStart => rfl
  case round =>
    subst hrel
    go_wp2
    go_ret
    exact ⟨rfl, Below.refl _ _⟩
theorem fault_any (ns : List Nd) (ho : NdOk ns) (v : Value) (w : World) (hN : NsIn w v ns) :
    Calls Tryd.prog 5 #[v] w fun e w' => e = .returned (.int .i64 (faultL ns)) ∧ Below w.heap.size w w' := by
  obtain ⟨a, cap, rfl, hm, h | ⟨b, off, rfl, hlt, hn⟩⟩ := hN
  · subst h
    exact fault_nil a cap w
  · by_cases h0 : 0 < ns.length
    · exact fault_at ns ho b off cap hm w hlt hn h0
    · have : ns = [] := List.eq_nil_of_length_eq_zero (by omega)
      subst this
      exact fault_nil _ cap w
end Go.Proofs.YteeamifjldoihaaDoor
