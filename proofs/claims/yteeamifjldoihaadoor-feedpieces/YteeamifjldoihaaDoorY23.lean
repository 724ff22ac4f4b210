/- The law FeedPieces, walked from what the document asks of packages feed and mean. -/
import Derived.Test.YteeamifjldoihaaDoorY22
import Derived.Test.YteeamifjldoihaaDoorY19
import Derived.Test.YteeamifjldoihaaDoorY03
namespace Go.Proofs.YteeamifjldoihaaDoor
set_option linter.unusedSimpArgs false
set_option linter.unusedVariables false
set_option maxRecDepth 100000
open Go.RowKit
/-- Two feeds of the call's own, apart. -/
structure FdT (Fv : (Nat → Prop) → World → Value → Rx → List UInt8 → Bool → Prop) (w : World) (uf ug : Value) (F G : Nat → Prop) (t : Rx) (sf sg : List UInt8) (df dg : Bool) (wr : World) : Prop where
  f : Fv F wr uf t sf df
  g : Fv G wr ug t sg dg
  apart : ∀ k, F k → ¬ G k
  loF : ∀ k, F k → w.heap.size ≤ k
  loG : ∀ k, G k → w.heap.size ≤ k
  b : Below w.heap.size w wr
theorem FdT.below {X : World → Prop} {Fv : (Nat → Prop) → World → Value → Rx → List UInt8 → Bool → Prop} (C : FeedC X Fv) {w : World} {uf ug : Value} {F G : Nat → Prop} {t : Rx} {sf sg : List UInt8} {df dg : Bool} {wr w' : World} (h : FdT Fv w uf ug F G t sf sg df dg wr) (hb : Below wr.heap.size wr w') : FdT Fv w uf ug F G t sf sg df dg w' :=
  ⟨C.keep F (fun _ => False) wr w' _ _ _ _ h.f (But.below hb) (fun _ h => h.elim), C.keep G (fun _ => False) wr w' _ _ _ _ h.g (But.below hb) (fun _ h => h.elim), h.apart, h.loF, h.loG, h.b.trans (hb.mono h.b.size)⟩
theorem FdT.turnF {X : World → Prop} {Fv : (Nat → Prop) → World → Value → Rx → List UInt8 → Bool → Prop} (C : FeedC X Fv) {w : World} {uf ug : Value} {F G : Nat → Prop} {t : Rx} {sf sg : List UInt8} {df dg : Bool} {wr w' : World} (h : FdT Fv w uf ug F G t sf sg df dg wr) {F' : Nat → Prop} {s' : List UInt8} {d' : Bool} (hf : Fv F' w' uf t s' d') (hb : But F wr w') (ho : Onto F F' wr) : FdT Fv w uf ug F' G t s' sg d' dg w' :=
  ⟨hf, C.keep G F wr w' _ _ _ _ h.g hb h.apart, fun k hk hg => by
    rcases ho k hk with h1 | h1
    · exact h.apart k h1 hg
    · have := C.lt _ _ _ _ _ _ h.g k hg
      omega, fun k hk => by
    rcases ho k hk with h1 | h1
    · exact h.loF k h1
    · exact Nat.le_trans h.b.size h1, h.loG, h.b.trans (hb.to h.b.size h.loF)⟩
theorem FdT.turnG {X : World → Prop} {Fv : (Nat → Prop) → World → Value → Rx → List UInt8 → Bool → Prop} (C : FeedC X Fv) {w : World} {uf ug : Value} {F G : Nat → Prop} {t : Rx} {sf sg : List UInt8} {df dg : Bool} {wr w' : World} (h : FdT Fv w uf ug F G t sf sg df dg wr) {G' : Nat → Prop} {s' : List UInt8} {d' : Bool} (hg : Fv G' w' ug t s' d') (hb : But G wr w') (ho : Onto G G' wr) : FdT Fv w uf ug F G' t sf s' df d' w' :=
  ⟨C.keep F G wr w' _ _ _ _ h.f hb (fun k h1 h2 => h.apart k h2 h1), hg, fun k hk hg' => by
    rcases ho k hg' with h1 | h1
    · exact h.apart k hk h1
    · have := C.lt _ _ _ _ _ _ h.f k hk
      omega, h.loF, fun k hk => by
    rcases ho k hk with h1 | h1
    · exact h.loG k h1
    · exact Nat.le_trans h.b.size h1, h.b.trans (hb.to h.b.size h.loG)⟩
theorem fit_none : ¬ Fit ([] : List UInt8) tLa 0 ([] : List UInt8).length := fitA_out (by decide)
theorem fit_one : Fit [97] tLa 0 1 := fitA_yes rfl
theorem fact_new {X : World → Prop} {Fv : (Nat → Prop) → World → Value → Rx → List UInt8 → Bool → Prop} (hXb : Lasts X) (C : FeedC X Fv) (w : World) (hX : X w) :
    Calls Tryd.prog 6 #[.slice (some ⟨w.heap.size, 0, none⟩) 1 1] (w.alloc (.cells #[.int .i64 1, .int .u64 kA.a, .int .u64 kA.b, .int .u64 kA.c, .int .u64 kA.d] 43)) fun e w' => ∃ u F d, e = .returned (.tuple #[u, .nilIface]) ∧ FdS Fv w u F tLa [] d w' := by
  have hb : Below w.heap.size w (w.alloc (.cells #[.int .i64 1, .int .u64 kA.a, .int .u64 kA.b, .int .u64 kA.c, .int .u64 kA.d] 43)) := (Below.refl _ _).alloc (Nat.le_refl _) _
  refine (C.new tLa _ _ (hXb w _ hX hb) tLa_ok (ns_newF w tLa.flat (by simp [Rx.flat, maxLen])) tLa_wf tLa_fault).mono ?_
  rintro e w' ⟨u, F, d, rfl, h1, h2, h3⟩
  exact ⟨u, F, d, rfl, h1, fun k hk => Nat.le_trans hb.size (h3 k hk), hb.trans (h2.mono hb.size)⟩
theorem FdS.mono {Fv : (Nat → Prop) → World → Value → Rx → List UInt8 → Bool → Prop} {w w0 : World} {u : Value} {F : Nat → Prop} {t : Rx} {s : List UInt8} {d : Bool} {wr : World} (h : FdS Fv w0 u F t s d wr) (hb : Below w.heap.size w w0) : FdS Fv w u F t s d wr :=
  ⟨h.f, fun k hk => Nat.le_trans hb.size (h.lo k hk), hb.trans (h.b.mono hb.size)⟩
set_option maxHeartbeats 8000000 in
theorem feedPieces_bad {X : World → Prop} {Fv : (Nat → Prop) → World → Value → Rx → List UInt8 → Bool → Prop} (hXb : Lasts X) (C : FeedC X Fv) (ns : List Nd) (v zv : Value) (s more : ByteArray) (zs : List Int) (w : World) (hX : X w) (hN : NsIn w v ns) (hw : ∀ n ∈ ns, n.wf) (hZ : ZsIn w zv zs) (hf : ¬ faultL ns = 0) :
    Calls Tryd.prog 4 #[v, .string s, zv, .string more] w fun e w' => e = .returned (.bool true) ∧ Below w.heap.size w w' := by
  have HFN : Hid (∀ w', Below w.heap.size w w' → _) := fun w' hb => fact_new hXb C w' (hXb w w' hX hb)
  have HC := hid C
  have HXX : Hid (∀ w', Below w.heap.size w w' → X w') := fun w' hb => hXb w w' hX hb
  have C1 : Hid (∀ w', Below w.heap.size w w' → _) := fun w' hb => C.bad ns v w' (hN.below hb) hw hf
  have hE : errV (faultL ns) = .iface 24 (.int .i64 (faultL ns)) := by unfold errV; rw [if_neg hf]
  rw [hE] at C1
  obtain ⟨va, vc, rfl, vm⟩ := nsIn_form hN
  obtain ⟨za, zc, rfl, zm, -⟩ := hZ
  have B := hid (Below.refl w.heap.size w)
  clear hw hN hf hXb C hX hE
  generalize faultL ns = ft at *
  go_enter Tryd.func4, Tryd.ntmps4
  go_wp2_with fail
  refine Calls.mono (ofA _) ?_
  rintro e w1 ⟨rfl, hb⟩
  replace B := hid (B.out.trans (hb.mono B.out.size))
  clear hb
  go_wp2_with fail
  refine Calls.mono (HFN.out _ B.out) ?_
  rintro e w2 ⟨z, F2, d2, rfl, h2⟩
  have H2 := hid (h2.mono B.out)
  clear h2 HFN B
  have CY := hid (HC.out.yes F2 w2 z tLa [] d2 false (HXX.out _ H2.out.b) H2.out.f ⟨(fun h => by cases h), fun h => absurd h fit_none⟩)
  go_wp2_with fail
  refine Calls.mono CY.out ?_
  rintro e w3 ⟨rfl, F3, hf3, hb3, ho3⟩
  have H3 := hid (H2.out.turn hf3 hb3 ho3)
  clear CY hf3 hb3 ho3 H2
  have CP := hid (HC.out.put F3 w3 z tLa [] d2 ⟨#[97]⟩ (HXX.out _ H3.out.b) H3.out.f (by decide) (by decide))
  go_wp2_with fail
  refine Calls.mono CP.out ?_
  rintro e w4 ⟨rfl, F4, ⟨d4, _, hf4⟩, hb4, ho4⟩
  have H4 := hid (H3.out.turn hf4 hb4 ho4)
  clear CP hf4 hb4 ho4 H3
  have CZ := hid (HC.out.yes F4 w4 z tLa _ d4 true (HXX.out _ H4.out.b) H4.out.f ⟨fun _ => fit_one, fun _ => rfl⟩)
  go_wp2_with fail
  refine Calls.mono CZ.out ?_
  rintro e w5 ⟨rfl, F5, hf5, hb5, ho5⟩
  have B5 := hid (H4.out.turn hf5 hb5 ho5).b
  clear CZ hf5 hb5 ho5 H4
  go_wp2_with fail
  refine Calls.mono (C1.out _ B5.out) ?_
  rintro e w6 ⟨a6, rfl, hb⟩
  have B6 := hid (B5.out.trans (hb.mono B5.out.size))
  clear hb B5
  go_wp2_with fail
  refine Calls.mono (C1.out _ B6.out) ?_
  rintro e w7 ⟨a7, rfl, hb⟩
  have B7 := hid (B6.out.trans (hb.mono B6.out.size))
  clear hb B6
  go_wp2
  go_ret
  exact ⟨rfl, B7.out⟩
set_option maxHeartbeats 16000000 in
theorem feedPieces_ok {X : World → Prop} {Fv : (Nat → Prop) → World → Value → Rx → List UInt8 → Bool → Prop} (hXb : Lasts X) (C : FeedC X Fv) (Y : MeanY) (t : Rx) (ht : t.Ok) (v zv : Value) (s more : ByteArray) (hs : s.size ≤ 140737488355328) (hm : more.size ≤ 140737488355328) (zs : List Int) (w : World) (hX : X w) (hT : Tab w) (hN : NsIn w v t.flat) (hw : ∀ n ∈ t.flat, n.wf) (hZ : ZsIn w zv zs) (hf : faultL t.flat = 0) :
    Calls Tryd.prog 4 #[v, .string s, zv, .string more] w fun e w' => e = .returned (.bool true) ∧ Below w.heap.size w w' := by
  have HFN : Hid (∀ w', Below w.heap.size w w' → _) := fun w' hb => fact_new hXb C w' (hXb w w' hX hb)
  have HC := hid C
  have HXX : Hid (∀ w', Below w.heap.size w w' → X w') := fun w' hb => hXb w w' hX hb
  have C1 : Hid (∀ w', Below w.heap.size w w' → _) := fun w' hb => C.new t v w' (hXb w w' hX hb) ht (hN.below hb) hw hf
  have HMY : Hid (∀ (y : Bool) w', s.size ≤ 400 → (y = true ↔ Fit s.data.toList t 0 s.size) → Below w.heap.size w w' → _) := fun y w' h4 hy hb => Y.yes t v s y w' (hT.below hb (Nat.le_refl _)) ht (hN.below hb) hw ((meanF_zero _ _).2 ⟨hf, h4⟩) hy
  obtain ⟨va, vc, rfl, vm⟩ := nsIn_form hN
  obtain ⟨za, zc, rfl, zm, hza⟩ := hZ
  unfold maxLen at zm
  have HZA := hid hza
  have B := hid (Below.refl w.heap.size w)
  have hwl : IntKind.i64.wrap ((s.size : Int) + (more.size : Int)) = (s.size : Int) + (more.size : Int) := by rw [IntKind.wrap_i64]; omega
  clear hw hN hf hXb C hX hT hza Y ht
  go_enter Tryd.func4, Tryd.ntmps4
  go_wp2_with fail
  refine Calls.mono (ofA _) ?_
  rintro e w1 ⟨rfl, hb⟩
  replace B := hid (B.out.trans (hb.mono B.out.size))
  clear hb
  go_wp2_with fail
  refine Calls.mono (HFN.out _ B.out) ?_
  rintro e w2 ⟨z, F2, d2, rfl, h2⟩
  have H2 := hid (h2.mono B.out)
  clear h2 HFN B
  have CY := hid (HC.out.yes F2 w2 z tLa [] d2 false (HXX.out _ H2.out.b) H2.out.f ⟨(fun h => by cases h), fun h => absurd h fit_none⟩)
  go_wp2_with fail
  refine Calls.mono CY.out ?_
  rintro e w3 ⟨rfl, F3, hf3, hb3, ho3⟩
  have H3 := hid (H2.out.turn hf3 hb3 ho3)
  clear CY hf3 hb3 ho3 H2
  have CP := hid (HC.out.put F3 w3 z tLa [] d2 ⟨#[97]⟩ (HXX.out _ H3.out.b) H3.out.f (by decide) (by decide))
  go_wp2_with fail
  refine Calls.mono CP.out ?_
  rintro e w4 ⟨rfl, F4, ⟨d4, _, hf4⟩, hb4, ho4⟩
  have H4 := hid (H3.out.turn hf4 hb4 ho4)
  clear CP hf4 hb4 ho4 H3
  have CZ := hid (HC.out.yes F4 w4 z tLa _ d4 true (HXX.out _ H4.out.b) H4.out.f ⟨fun _ => fit_one, fun _ => rfl⟩)
  go_wp2_with fail
  refine Calls.mono CZ.out ?_
  rintro e w5 ⟨rfl, F5, hf5, hb5, ho5⟩
  have B5 := hid (H4.out.turn hf5 hb5 ho5).b
  clear CZ hf5 hb5 ho5 H4
  go_wp2_with fail
  refine Calls.mono (C1.out _ B5.out) ?_
  rintro e w6 ⟨uf, F6, df, rfl, hf6, hb6, hl6⟩
  obtain ⟨pf, rfl⟩ := HC.out.ptr _ _ _ _ _ _ hf6
  have H6 : Hid (FdS Fv w (.pointer (some pf)) F6 t [] df w6) := ⟨hf6, fun k hk => Nat.le_trans B5.out.size (hl6 k hk), B5.out.trans (hb6.mono B5.out.size)⟩
  clear hf6 hb6 hl6 B5
  go_wp2_with fail
  refine Calls.mono (C1.out _ H6.out.b) ?_
  rintro e w7 ⟨ug, G7, dg, rfl, hg7, hb7, hl7⟩
  obtain ⟨pg, rfl⟩ := HC.out.ptr _ _ _ _ _ _ hg7
  have H7 : Hid (FdT Fv w (.pointer (some pf)) (.pointer (some pg)) F6 G7 t [] [] df dg w7) := by
    have h := H6.out.below HC.out hb7
    refine ⟨h.f, hg7, fun k h1 h2 => ?_, h.lo, fun k hk => Nat.le_trans H6.out.b.size (hl7 k hk), h.b⟩
    have h3 := hl7 k h2
    have h4 := HC.out.lt _ _ _ _ _ _ H6.out.f k h1
    omega
  clear hg7 hb7 hl7 H6 C1
  by_cases h4 : s.size + more.size ≤ 400
  · have g4 : ¬ (400 : Int) < (s.size : Int) + (more.size : Int) := by omega
    obtain ⟨b0, hb0⟩ : ∃ y : Bool, (y = true ↔ Fit [] t 0 ([] : List UInt8).length) := ⟨@decide _ (Classical.propDecidable _), @decide_eq_true_iff _ (Classical.propDecidable _)⟩
    have HB0 := hid hb0
    clear hb0
    have CY := hid (HC.out.yes F6 w7 _ t [] df b0 (HXX.out _ H7.out.b) H7.out.f HB0.out)
    go_wp2_with fail
    refine Calls.mono CY.out ?_
    rintro e w8 ⟨rfl, F8, hf8, hb8, ho8⟩
    have H8 := hid (H7.out.turnF HC.out hf8 hb8 ho8)
    clear CY hf8 hb8 ho8 H7
    have HR0 : Hid (∃ (n : Nat) (F G : Nat → Prop) (dg : Bool), n ≤ s.size ∧ n = 0 ∧ FdT Fv w (.pointer (some pf)) (.pointer (some pg)) F G t [] (s.data.toList.take n) df dg w8) := ⟨0, F8, G7, dg, by omega, rfl, H8.out⟩
    clear H8
    go_wp2_with fail
    go_loopw [16, 17] (fun av v wr => ∃ (i n : Nat) (F G : Nat → Prop) (dg : Bool), i ≤ zs.length ∧ i ≤ 20 ∧ v = .int .i64 (i : Int) ∧ av = .int .i64 (n : Int) ∧ n ≤ s.size ∧ Hid (FdT Fv w (.pointer (some pf)) (.pointer (some pg)) F G t [] (s.data.toList.take n) df dg wr)) (fun _ v _ => zs.length - (intOf v).toNat)
    case atStart =>
      obtain ⟨n, F, G, dg, h1, h2, h3⟩ := HR0.out
      exact ⟨0, n, F, G, dg, by omega, by omega, rfl, by rw [h2]; rfl, h1, h3⟩
    case round =>
      clear HR0
      obtain ⟨i, n, F, G, dg, hi, hi20, rfl, rfl, hn, HF⟩ := hrel
      by_cases hil : i < zs.length ∧ i < 20
      · obtain ⟨hil, hi2⟩ := hil
        obtain ⟨c, hc⟩ : ∃ c, zs[i]? = some c := ⟨zs[i], List.getElem?_eq_getElem hil⟩
        obtain ⟨b, off, hab, hlt, hN⟩ : ∃ b off, za = some ⟨b, off, none⟩ ∧ b < w.heap.size ∧ ∀ i z, zs[i]? = some z → w.cell? ⟨b, off + i, none⟩ = some (.int .i64 z) := by
          rcases HZA.out with h | h
          · rw [h] at hil; simp at hil
          · exact h
        subst hab
        have cx := (HF.out.b.cell (p := ⟨b, _, none⟩) hlt).trans (hN i c hc)
        have g1 : (i : Int) < (zs.length : Int) := by omega
        have g2 : (i : Int) < 20 := by omega
        have g3 : decide ((i : Int) < 20) = true := by rw [decide_eq_true_iff]; omega
        have g5 : decide (i < 20) = true := by rw [decide_eq_true_iff]; omega
        have i0 : (0 : Int) ≤ (i : Int) := by omega
        have hwi : IntKind.i64.wrap ((i : Int) + 1) = (i : Int) + 1 := by rw [IntKind.wrap_i64]; omega
        have HCW := hid (hN i c hc)
        clear hc hN
        by_cases hc1 : c < (n : Int)
        · have q1 : decide (c < (n : Int)) = true := decide_eq_true hc1
          go_wp2_with fail
          exact ⟨⟨i + 1, n, F, G, dg, by omega, by omega, by go_num, rfl, hn, HF⟩, by simp [intOf]; omega⟩
        · by_cases hc2 : (s.size : Int) < c
          · have q1 : decide (c < (n : Int)) = false := decide_eq_false hc1
            have q2 : decide ((s.size : Int) < c) = true := decide_eq_true hc2
            go_wp2_with fail
            exact ⟨⟨i + 1, n, F, G, dg, by omega, by omega, by go_num, rfl, hn, HF⟩, by simp [intOf]; omega⟩
          · obtain ⟨m, hm⟩ : ∃ m : Nat, c = (m : Int) := ⟨c.toNat, by omega⟩
            subst hm
            have hnm : n ≤ m := by omega
            have hms : m ≤ s.size := by omega
            have q1 : decide ((m : Int) < (n : Int)) = false := decide_eq_false hc1
            have q2 : decide ((s.size : Int) < (m : Int)) = false := decide_eq_false hc2
            have q3 : (n : Int) ≤ (m : Int) := by omega
            have q4 : (m : Int) ≤ (s.size : Int) := by omega
            have q5 : (0 : Int) ≤ (n : Int) := by omega
            have q6 : (0 : Int) ≤ (m : Int) := by omega
            have q7 : decide (m < n) = false := by rw [decide_eq_false_iff_not]; omega
            have q8 : decide (s.size < m) = false := by rw [decide_eq_false_iff_not]; omega
            have hsl : s.data.toList.length = s.size := by simp
            have hpe : (s.extract n m).size = m - n := by rw [ByteArray.size_extract]; omega
            have hcat : s.data.toList.take n ++ (s.extract n m).data.toList = s.data.toList.take m := by
              rw [cut_extract]
              unfold cut
              rw [← List.take_add, show n + (m - n) = m by omega]
            have CP := hid (HC.out.put G wr _ t (s.data.toList.take n) dg (s.extract n m) (HXX.out _ HF.out.b) HF.out.g (by omega) (by rw [List.length_take, hpe]; omega))
            rw [hcat] at CP
            clear hcat hpe hsl hc1 hc2
            go_wp2_with fail
            refine Calls.mono CP.out ?_
            rintro e w10 ⟨rfl, G10, ⟨d10, _, hg10⟩, hb10, ho10⟩
            have HF10 := hid (HF.out.turnG HC.out hg10 hb10 ho10)
            clear CP hg10 hb10 ho10 HF cx
            have cx := (HF10.out.b.cell (p := ⟨b, _, none⟩) hlt).trans HCW.out
            go_wp2_with fail
            exact ⟨⟨i + 1, m, F, G10, d10, by omega, by omega, by go_num, rfl, hms, HF10⟩, by simp [intOf]; omega⟩
      · have hn0 : (0 : Int) ≤ (n : Int) := by omega
        have hn1 : (n : Int) ≤ (s.size : Int) := by omega
        have hsl : s.data.toList.length = s.size := by simp
        have hpe : (s.extract n s.size).size = s.size - n := by rw [ByteArray.size_extract]; omega
        have hcat : s.data.toList.take n ++ (s.extract n s.size).data.toList = s.data.toList := by
          rw [cut_extract]
          unfold cut
          rw [← List.take_add, show n + (s.size - n) = s.data.toList.length by omega, List.take_length]
        have CG := hid (HC.out.put G wr _ t (s.data.toList.take n) dg (s.extract n s.size) (HXX.out _ HF.out.b) HF.out.g (by omega) (by rw [List.length_take, hpe]; omega))
        rw [hcat] at CG
        have HSL := hid hsl
        clear hcat hpe hsl
        rcases Nat.lt_or_ge i zs.length with hx | hx
        case' inl =>
          have g1 : (i : Int) < (zs.length : Int) := by omega
          have g2 : ¬ (i : Int) < 20 := by omega
          have g3 : decide ((i : Int) < 20) = false := by rw [decide_eq_false_iff_not]; omega
          have g5 : decide (i < 20) = false := by rw [decide_eq_false_iff_not]; omega
          clear hil
          go_wp2_with fail
        case' inr =>
          have g1 : ¬ (i : Int) < (zs.length : Int) := by omega
          clear hil
          go_wp2_with fail
        all_goals
          refine Calls.mono CG.out ?_
          rintro e w10 ⟨rfl, G10, ⟨d10, _, hg10⟩, hb10, ho10⟩
          have H10 := hid (HF.out.turnG HC.out hg10 hb10 ho10)
          clear CG hg10 hb10 ho10 HF
          have CF := hid (HC.out.put F w10 _ t [] df s (HXX.out _ H10.out.b) H10.out.f (by omega) (by rw [List.length_nil]; omega))
          rw [List.nil_append] at CF
          go_wp2_with fail
          refine Calls.mono CF.out ?_
          rintro e w11 ⟨rfl, F11, ⟨d11, _, hf11⟩, hb11, ho11⟩
          have H11 := hid (H10.out.turnF HC.out hf11 hb11 ho11)
          clear CF hf11 hb11 ho11 H10
          obtain ⟨y, hy⟩ : ∃ y : Bool, (y = true ↔ Fit s.data.toList t 0 s.data.toList.length) := ⟨@decide _ (Classical.propDecidable _), @decide_eq_true_iff _ (Classical.propDecidable _)⟩
          have HY := hid hy
          clear hy
          have CM := hid (HMY.out y w11 (by omega) (by rw [← HSL.out]; exact HY.out) H11.out.b)
          go_wp2_with fail
          refine Calls.mono CM.out ?_
          rintro e w12 ⟨rfl, hb12⟩
          have H12 := hid (H11.out.below HC.out hb12)
          clear CM hb12 H11
          have C12 := hid (HC.out.yes F11 w12 _ t _ d11 y (HXX.out _ H12.out.b) H12.out.f HY.out)
          go_wp2_with fail
          refine Calls.mono C12.out ?_
          rintro e w13 ⟨rfl, F13, hf13, hb13, ho13⟩
          have H13 := hid (H12.out.turnF HC.out hf13 hb13 ho13)
          clear C12 hf13 hb13 ho13 H12
          have C13 := hid (HC.out.yes G10 w13 _ t _ d10 y (HXX.out _ H13.out.b) H13.out.g HY.out)
          go_wp2_with fail
          refine Calls.mono C13.out ?_
          rintro e w14 ⟨rfl, G14, hg14, hb14, ho14⟩
          have H14 := hid (H13.out.turnG HC.out hg14 hb14 ho14)
          clear C13 hg14 hb14 ho14 H13
          have C14 := hid (HC.out.len F13 w14 _ t _ d11 (HXX.out _ H14.out.b) H14.out.f)
          rw [HSL.out] at C14
          go_wp2_with fail
          refine Calls.mono C14.out ?_
          rintro e w15 ⟨rfl, F15, hf15, hb15, ho15⟩
          have H15 := hid (H14.out.turnF HC.out hf15 hb15 ho15)
          clear C14 hf15 hb15 ho15 H14
          have C15 := hid (HC.out.len G14 w15 _ t _ d10 (HXX.out _ H15.out.b) H15.out.g)
          rw [HSL.out] at C15
          go_wp2_with fail
          refine Calls.mono C15.out ?_
          rintro e w16 ⟨rfl, G16, hg16, hb16, ho16⟩
          have H16 := hid (H15.out.turnG HC.out hg16 hb16 ho16)
          clear C15 hg16 hb16 ho16 H15
          have C16 := hid (HC.out.said F15 w16 _ t _ d11 (HXX.out _ H16.out.b) H16.out.f)
          go_wp2_with fail
          refine Calls.mono C16.out ?_
          rintro e w17 ⟨rfl, F17, hf17, hb17, ho17⟩
          have H17 := hid (H16.out.turnF HC.out hf17 hb17 ho17)
          clear C16 hf17 hb17 ho17 H16
          have C17 := hid (HC.out.put F17 w17 _ t _ d11 more (HXX.out _ H17.out.b) H17.out.f (by omega) (by rw [HSL.out]; omega))
          cases d11 with
          | false =>
            go_wp2_with fail
            refine Calls.mono C17.out ?_
            rintro e w18 ⟨rfl, F18, ⟨d18, _, hf18⟩, hb18, ho18⟩
            have H18 := hid (H17.out.turnF HC.out hf18 hb18 ho18)
            clear C17 hf18 hb18 ho18 H17
            have C18 := hid (HC.out.again F18 w18 _ t _ d18 (HXX.out _ H18.out.b) H18.out.f)
            go_wp2_with fail
            refine Calls.mono C18.out ?_
            rintro e w19 ⟨rfl, F19, ⟨d19, hf19⟩, hb19, ho19⟩
            have H19 := hid (H18.out.turnF HC.out hf19 hb19 ho19)
            clear C18 hf19 hb19 ho19 H18
            have C19 := hid (HC.out.len F19 w19 _ t _ d19 (HXX.out _ H19.out.b) H19.out.f)
            rw [show (([] : List UInt8).length : Int) = 0 from rfl] at C19
            go_wp2_with fail
            refine Calls.mono C19.out ?_
            rintro e w20 ⟨rfl, F20, hf20, hb20, ho20⟩
            have H20 := hid (H19.out.turnF HC.out hf20 hb20 ho20)
            clear C19 hf20 hb20 ho20 H19
            have C20 := hid (HC.out.yes F20 w20 _ t _ d19 b0 (HXX.out _ H20.out.b) H20.out.f HB0.out)
            go_wp2_with fail
            refine Calls.mono C20.out ?_
            rintro e w21 ⟨rfl, F21, hf21, hb21, ho21⟩
            have B21 := hid (H20.out.turnF HC.out hf21 hb21 ho21).b
            clear C20 hf21 hb21 ho21 H20
            go_wp2
            go_ret
            exact ⟨by simp, B21.out⟩
          | true =>
            go_wp2_with fail
            refine Calls.mono C17.out ?_
            rintro e w18 ⟨rfl, F18, ⟨d18, hd18, hf18⟩, hb18, ho18⟩
            obtain rfl : d18 = true := hd18 trivial
            have H18 := hid (H17.out.turnF HC.out hf18 hb18 ho18)
            have HNF := hid (HC.out.dead F18 w18 _ t _ H18.out.f [])
            rw [List.append_nil] at HNF
            clear C17 hf18 hb18 ho18 H17 hd18
            have CY := hid (HC.out.yes F18 w18 _ t _ true false (HXX.out _ H18.out.b) H18.out.f ⟨(fun h => by cases h), fun h => absurd h HNF.out⟩)
            go_wp2_with fail
            refine Calls.mono CY.out ?_
            rintro e w18a ⟨rfl, F18a, hf18, hb18, ho18⟩
            have H18a := hid (H18.out.turnF HC.out hf18 hb18 ho18)
            clear CY hf18 hb18 ho18 H18 HNF
            have CD := hid (HC.out.said F18a w18a _ t _ true (HXX.out _ H18a.out.b) H18a.out.f)
            go_wp2_with fail
            refine Calls.mono CD.out ?_
            rintro e w18b ⟨rfl, F18b, hf18, hb18, ho18⟩
            have H18b := hid (H18a.out.turnF HC.out hf18 hb18 ho18)
            clear CD hf18 hb18 ho18 H18a
            have C18 := hid (HC.out.again F18b w18b _ t _ true (HXX.out _ H18b.out.b) H18b.out.f)
            go_wp2_with fail
            refine Calls.mono C18.out ?_
            rintro e w19 ⟨rfl, F19, ⟨d19, hf19⟩, hb19, ho19⟩
            have H19 := hid (H18b.out.turnF HC.out hf19 hb19 ho19)
            clear C18 hf19 hb19 ho19 H18b
            have C19 := hid (HC.out.len F19 w19 _ t _ d19 (HXX.out _ H19.out.b) H19.out.f)
            rw [show (([] : List UInt8).length : Int) = 0 from rfl] at C19
            go_wp2_with fail
            refine Calls.mono C19.out ?_
            rintro e w20 ⟨rfl, F20, hf20, hb20, ho20⟩
            have H20 := hid (H19.out.turnF HC.out hf20 hb20 ho20)
            clear C19 hf20 hb20 ho20 H19
            have C20 := hid (HC.out.yes F20 w20 _ t _ d19 b0 (HXX.out _ H20.out.b) H20.out.f HB0.out)
            go_wp2_with fail
            refine Calls.mono C20.out ?_
            rintro e w21 ⟨rfl, F21, hf21, hb21, ho21⟩
            have B21 := hid (H20.out.turnF HC.out hf21 hb21 ho21).b
            clear C20 hf21 hb21 ho21 H20
            go_wp2
            go_ret
            exact ⟨by simp, B21.out⟩
  · have g4 : (400 : Int) < (s.size : Int) + (more.size : Int) := by omega
    have B7 := hid H7.out.b
    clear H7
    go_wp2
    go_ret
    exact ⟨rfl, B7.out⟩
theorem feedPieces_any {X : World → Prop} {Fv : (Nat → Prop) → World → Value → Rx → List UInt8 → Bool → Prop} (hXb : Lasts X) (C : FeedC X Fv) (Y : MeanY) (ns : List Nd) (v zv : Value) (s more : ByteArray) (hs : s.size ≤ 140737488355328) (hm : more.size ≤ 140737488355328) (zs : List Int) (w : World) (hX : X w) (hT : Tab w) (hN : NsIn w v ns) (hw : ∀ n ∈ ns, n.wf) (hZ : ZsIn w zv zs) :
    Calls Tryd.prog 4 #[v, .string s, zv, .string more] w fun e w' => e = .returned (.bool true) ∧ Below w.heap.size w w' := by
  by_cases hf : faultL ns = 0
  · obtain ⟨_, hr, hv⟩ := (faultL_zero ns).1 hf
    obtain ⟨t, ht, rfl⟩ := tree_of ns hv
    exact feedPieces_ok hXb C Y t ht v zv s more hs hm zs w hX hT hN hw hZ hf
  · exact feedPieces_bad hXb C ns v zv s more zs w hX hN hw hZ hf
end Go.Proofs.YteeamifjldoihaaDoor
