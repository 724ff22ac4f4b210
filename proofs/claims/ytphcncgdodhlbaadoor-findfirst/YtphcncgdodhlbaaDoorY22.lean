/- What the document's own functions answer: closed. What the document's own functions answer: Parts, EndOf. What the document's own functions answer: Reach at a node with parts. A pattern's text. What the document's own functions answer: Reach at a tree; EndsOf. -/
import Derived.Test.YtphcncgdodhlbaaDoorY21
import Derived.Test.YtphcncgdodhlbaaDoorY02
import Derived.Test.YtphcncgdodhlbaaDoorY03
import Derived.Test.YtphcncgdodhlbaaDoorY07
namespace Go.Proofs.YtphcncgdodhlbaaDoor
set_option linter.unusedSimpArgs false
set_option linter.unusedVariables false
set_option maxRecDepth 100000
open Go.RowKit
/-- How many of the first n places are not there. -/
def cntF (C : Nat → Bool) : Nat → Nat
  | 0 => 0
  | n + 1 => cntF C n + if C n then 0 else 1
theorem cntF_congr {C D : Nat → Bool} : ∀ (n : Nat), (∀ i, i < n → C i = D i) → cntF C n = cntF D n
  | 0, _ => rfl
  | n + 1, h => by rw [cntF, cntF, cntF_congr n (fun i hi => h i (by omega)), h n (by omega)]
theorem cntF_le {C D : Nat → Bool} : ∀ (n : Nat), (∀ i, i < n → C i = true → D i = true) → cntF D n ≤ cntF C n
  | 0, _ => Nat.le_refl _
  | n + 1, h => by
    have ih := cntF_le n (fun i hi => h i (by omega))
    have h1 := h n (by omega)
    rw [cntF, cntF]
    cases hc : C n <;> cases hd : D n <;> simp_all <;> omega
theorem cntF_lt {C D : Nat → Bool} : ∀ (n : Nat), (∀ i, i < n → C i = true → D i = true) → (∃ k, k < n ∧ C k = false ∧ D k = true) → cntF D n < cntF C n
  | 0, _, ⟨k, hk, _⟩ => by omega
  | n + 1, h, ⟨k, hk, h1, h2⟩ => by
    rw [cntF, cntF]
    by_cases e : k = n
    · subst e
      have ih := cntF_le k (fun i hi => h i (by omega))
      rw [h1, h2]
      simp
      omega
    · have ih := cntF_lt n (fun i hi => h i (by omega)) ⟨k, by omega, h1, h2⟩
      have h3 := h n (by omega)
      cases hc : C n <;> cases hd : D n <;> simp_all <;> omega
/-- Is place i of a slice there? -/
def cellT (w : World) (v : Value) (i : Nat) : Bool := match v with
  | .slice (some a) _ _ => (match w.cell? ⟨a.block, a.off + i, none⟩ with | some (.bool x) => x | _ => false)
  | _ => false
theorem BsIn.cellT {w : World} {v : Value} {N : Nat} {A : Nat → Bool} (h : BsIn w v N A) (i : Nat) (hi : i ≤ N) : Go.Proofs.YtphcncgdodhlbaaDoor.cellT w v i = A i := by
  obtain ⟨b, off, cap, rfl, _, h⟩ := h
  simp [Go.Proofs.YtphcncgdodhlbaaDoor.cellT, h i hi]
/-- B is all that t fits from the places of A, as often as one likes. -/
def ImgS (s : List UInt8) (t : Rx) (A B : Nat → Bool) : Prop := ∀ j, j ≤ s.length → (B j = true ↔ ∃ i, i ≤ s.length ∧ A i = true ∧ Str s.length (Fit s t) i j)
def ClsP (w : World) (s : ByteArray) (t : Rx) (A : Nat → Bool) (e : Ending) (w' : World) : Prop := ∃ u B, e = .returned u ∧ Below w.heap.size w w' ∧ BsIn w' u s.size B ∧ ImgS s.data.toList t A B
def ClsOk (ns : List Nd) (b off cap i : Nat) (s : ByteArray) (t : Rx) : Prop := ∀ (A : Nat → Bool) (v : Value) (w : World), b < w.heap.size → NsAt w b off ns → BsIn w v s.size A →
  Calls Tryd.prog 43 #[.slice (some ⟨b, off, none⟩) ns.length cap, .int .i64 i, .string s, v] w (ClsP w s t A)
/-- How it stands between two rounds. -/
structure ClR (w : World) (s : ByteArray) (t : Rx) (A : Nat → Bool) (C : Nat → Bool) (v : Value) (wr : World) : Prop where
  row : BsIn wr v s.size C
  sup : ∀ j, j ≤ s.size → A j = true → C j = true
  sub : ∀ j, j ≤ s.size → C j = true → ∃ i, i ≤ s.size ∧ A i = true ∧ Str s.size (Fit s.data.toList t) i j
  b : Below w.heap.size w wr
theorem ClR.more {w : World} {s : ByteArray} {t : Rx} {A C B : Nat → Bool} {v u : Value} {wr w' : World} (h : ClR w s t A C v wr) (hi : Img s.data.toList t C B) (hb : Below w.heap.size w w') (hu : BsIn w' u s.size fun i => C i || B i) : ClR w s t A (fun i => C i || B i) u w' := by
  refine ⟨hu, fun j hj ha => by simp [h.sup j hj ha], fun j hj hc => ?_, hb⟩
  rw [Bool.or_eq_true] at hc
  rcases hc with hc | hc
  · exact h.sub j hj hc
  · obtain ⟨i, h1, h2, h3⟩ := (hi j (by rw [sl]; exact hj)).1 hc
    rw [sl] at h1
    obtain ⟨k, k1, k2, k3⟩ := h.sub i h1 h2
    refine ⟨k, k1, k2, k3.trans ?_⟩
    have := Str.one (fit_le s.data.toList t) h3
    rw [sl] at this
    exact this
theorem ClR.done {w : World} {s : ByteArray} {t : Rx} {A C B : Nat → Bool} {v : Value} {wr : World} (h : ClR w s t A C v wr) (hi : Img s.data.toList t C B) (hs : ∀ j, j ≤ s.size → (C j || B j) = C j) : ImgS s.data.toList t A fun i => C i || B i := by
  intro j hj
  rw [sl] at hj ⊢
  have key : ∀ {x y : Nat}, Str s.size (Fit s.data.toList t) x y → x ≤ s.size → C x = true → C y = true := by
    intro x y hxy
    induction hxy with
    | nil => intro _ h; exact h
    | cons x m y hx _ ih =>
      intro hxl hc
      have hm := fit_le s.data.toList t x m hx
      rw [sl] at hm
      have hb : B m = true := (hi m (by rw [sl]; omega)).2 ⟨x, by rw [sl]; exact hxl, hc, hx⟩
      have := hs m (by omega)
      rw [hb, Bool.or_true] at this
      exact ih hm.2 this.symm
  simp only
  rw [hs j hj]
  constructor
  · exact h.sub j hj
  · rintro ⟨i, h1, h2, h3⟩
    exact key h3 h1 (h.sup i h1 h2)
theorem ClR.less {w w' : World} {s : ByteArray} {t : Rx} {A C B : Nat → Bool} {v u : Value} {wr : World} (h : ClR w s t A C v wr) (hu : BsIn w' u s.size fun i => C i || B i) (hn : ¬ ∀ j, j ≤ s.size → (C j || B j) = C j) : cntF (cellT w' u) (s.size + 1) < cntF (cellT wr v) (s.size + 1) := by
  rw [cntF_congr (s.size + 1) (fun i hi => hu.cellT i (by omega)), cntF_congr (s.size + 1) (fun i hi => h.row.cellT i (by omega))]
  apply cntF_lt
  · intro i _ hc; simp [hc]
  · refine Classical.byContradiction fun hne => hn fun j hj => ?_
    cases hc : C j
    · cases hb : B j
      · rfl
      · exact absurd ⟨j, by omega, hc, by simp [hb]⟩ hne
    · rfl
set_option maxHeartbeats 8000000 in
theorem closed_any (ns : List Nd) (b off cap i : Nat) (hl : ns.length ≤ 60) (s : ByteArray) (hs : s.size ≤ 1000000) (t : Rx) (hT : RchOk ns b off cap i s t) : ClsOk ns b off cap i s t := by
  intro A v w hlt hN hA
  have HT : Hid (∀ C u wr, Below w.heap.size w wr → BsIn wr u s.size C → _) := fun C u wr hb hu => hT C u wr (Nat.lt_of_lt_of_le hlt hb.size) (hN.below hb hlt) hu
  have HST : Hid (ClR w s t A A v w) := ⟨hA, fun _ _ h => h, fun j hj h => ⟨j, hj, h, .nil j hj⟩, Below.refl _ _⟩
  obtain ⟨b1, o1, d1, rfl, l1, hA⟩ := hA
  clear hA hT hN
  go_enter Tryd.func43, Tryd.ntmps43
  go_wp2
  have HJ := hid (joined_any s.size hs)
  go_loopw [3] (fun v wr => ∃ C, ClR w s t A C v wr) (fun v wr => cntF (cellT wr v) (s.size + 1))
  case atStart => exact ⟨A, HST.out⟩
  case round =>
    clear HST
    obtain ⟨C, hR⟩ := hrel
    obtain ⟨b2, o2, d2, rfl⟩ := hR.row.form
    have HR := hid hR
    clear hR
    go_wp2_with fail
    refine Calls.mono (HT.out C _ _ HR.out.b HR.out.row) ?_
    rintro e w1 ⟨u1, B, rfl, hb1, hr1, hi1⟩
    have HI := hid hi1
    have HB1 := hid hb1
    have HR1 := hid hr1
    clear hi1 hb1 hr1
    go_wp2_with fail
    refine Calls.mono (HJ.out C B _ _ _ (HR.out.row.below HB1.out) HR1.out) ?_
    rintro e w2 ⟨u2, rfl, hb2, hr2⟩
    have HB2 := hid (HB1.out.trans (hb2.mono HB1.out.size))
    have HR2 := hid hr2
    obtain ⟨b3, o3, d3, rfl, l3, hx⟩ := hr2
    have HX := hid hx
    have HL := hid l3
    clear hb2 hx l3
    go_wp2_with fail
    go_loopw [10, 11] (fun sm v w3 => ∃ (x : Bool) (k : Nat), sm = .bool x ∧ k ≤ s.size + 1 ∧ v = .int .i64 k ∧ Hid (x = true ↔ ∀ j, j < k → (C j || B j) = C j) ∧ Below w2.heap.size w2 w3) (fun _ v _ => s.size + 1 - (intOf v).toNat)
    case atStart => exact ⟨true, 0, rfl, by omega, rfl, ⟨fun _ j hj => by omega, fun _ => rfl⟩, Below.refl _ _⟩
    case round =>
      obtain ⟨x, k, rfl, hk, rfl, HX2, hb3⟩ := hrel
      have k0 : (0 : Int) ≤ (k : Int) := by omega
      have HB3 := hid hb3
      by_cases hkl : k < s.size + 1
      · have k1 : (k : Int) < (s.size : Int) + 1 := by omega
        have HKL := hid (show k < s.size + 1 from hkl)
        have HM : Hid (s.size + 1 - (k + 1) < s.size + 1 - k) := by show _ < _; omega
        have a0 := (HX.out.below hb3 HL.out) k (by omega)
        have d0 : wr.cell? ⟨b2, o2 + k, none⟩ = some (.bool (C k)) := by
          obtain ⟨b', o', c', e, l', h'⟩ := HR.out.row
          injection e with e1 e2 e3
          injection e1 with e1
          injection e1 with e4 e5
          subst e4 e5
          exact ((h'.below HB2.out l').below hb3 (Nat.lt_of_lt_of_le l' HB2.out.size)) k (by omega)
        clear hb3
        have step : ∀ y : Bool, y = (x && ((C k || B k) == C k)) → (y = true ↔ ∀ j, j < k + 1 → (C j || B j) = C j) := by
          intro y hy
          rw [hy, Bool.and_eq_true, HX2.out, beq_iff_eq]
          constructor
          · rintro ⟨h1, h2⟩ j hj
            by_cases e : j = k
            · subst e; exact h2
            · exact h1 j (by omega)
          · intro h; exact ⟨fun j hj => h j (by omega), h k (by omega)⟩
        have HSt := hid step
        clear step
        cases x
        · go_wp2_with fail
          try go_quiet (fail)
          go_wp2
          exact ⟨⟨false, k + 1, rfl, HKL.out, by go_num, HSt.out false rfl, by first | exact HB3.out | exact HB3.out.trans ((below_drewN' wr _).mono HB3.out.size)⟩, by simpa [intOf] using HM.out⟩
        · go_wp2_with fail
          try go_quiet (fail)
          go_wp2
          exact ⟨⟨(C k || B k) == C k, k + 1, rfl, HKL.out, by go_num, HSt.out _ (by rw [Bool.true_and]), by first | exact HB3.out | exact HB3.out.trans ((below_drewN' wr _).mono HB3.out.size)⟩, by simpa [intOf] using HM.out⟩
      · obtain rfl : k = s.size + 1 := by omega
        have HR3 := hid (HR2.out.below hb3)
        have HB4 := hid (HB2.out.trans (hb3.mono HB2.out.size))
        clear hb3
        cases x
        · go_wp2
          exact ⟨⟨_, HR.out.more HI.out (HR.out.b.trans (HB4.out.mono HR.out.b.size)) HR3.out⟩, HR.out.less HR3.out (fun h => absurd (HX2.out.2 fun j hj => h j (by omega)) (by simp))⟩
        · go_wp2
          go_ret
          refine ⟨_, _, rfl, HR.out.b.trans (HB4.out.mono HR.out.b.size), HR3.out, HR.out.done HI.out fun j hj => HX2.out.1 (by simp) j (by omega)⟩
end Go.Proofs.YtphcncgdodhlbaaDoor
namespace Go.Proofs.YtphcncgdodhlbaaDoor
set_option linter.unusedSimpArgs false
set_option linter.unusedVariables false
set_option maxRecDepth 100000
open Go.RowKit

set_option maxHeartbeats 400000 in
theorem parts_any (op : Int) (w : World) :
    Calls Tryd.prog 30 #[.int .i64 op] w fun e w' => e = .returned (.int .i64 (prt op)) ∧ w' = w := by
  by_cases h3 : op = 3
  · subst h3
    go_enter Tryd.func30, Tryd.ntmps30
    go_wp2
    go_ret
    exact ⟨rfl, rfl⟩
  · have b3 : (op == 3) = false := by simp [h3]
    by_cases h4 : op = 4
    · subst h4
      go_enter Tryd.func30, Tryd.ntmps30
      go_wp2
      go_ret
      exact ⟨rfl, rfl⟩
    · have b4 : (op == 4) = false := by simp [h4]
      by_cases h5 : op = 5
      · subst h5
        go_enter Tryd.func30, Tryd.ntmps30
        go_wp2
        go_ret
        exact ⟨rfl, rfl⟩
      · have b5 : (op == 5) = false := by simp [h5]
        by_cases h6 : op = 6
        · subst h6
          go_enter Tryd.func30, Tryd.ntmps30
          go_wp2
          go_ret
          exact ⟨rfl, rfl⟩
        · have b6 : (op == 6) = false := by simp [h6]
          by_cases h7 : op = 7
          · subst h7
            go_enter Tryd.func30, Tryd.ntmps30
            go_wp2
            go_ret
            exact ⟨rfl, rfl⟩
          · have b7 : (op == 7) = false := by simp [h7]
            have e0 : prt op = 0 := by unfold prt; simp [h3, h4, h5, h6, h7]
            rw [e0]
            clear h3 h4 h5 h6 h7 e0
            go_enter Tryd.func30, Tryd.ntmps30
            go_wp2
            go_ret
            exact ⟨rfl, rfl⟩
set_option maxHeartbeats 1000000 in
theorem endOf_walk (ns : List Nd) (b off cap f i : Nat) (hm : ns.length ≤ maxLen) (w : World) (hN : NsAt w b off ns)
    (ih : ∀ j, ns.length + 1 ≤ f + j → Calls Tryd.prog 17 #[.slice (some ⟨b, off, none⟩) ns.length cap, .int .i64 j] w fun e w' => e = .returned (.int .i64 (endI (endF ns f j))) ∧ w' = w)
    (hf : ns.length + 1 ≤ f + 1 + i) :
    Calls Tryd.prog 17 #[.slice (some ⟨b, off, none⟩) ns.length cap, .int .i64 i] w fun e w' => e = .returned (.int .i64 (endI (endF ns (f + 1) i))) ∧ w' = w := by
  have IH := (show Hid _ from ih)
  unfold maxLen at hm
  clear ih
  by_cases hi : i < ns.length
  · obtain ⟨n, hn⟩ : ∃ n, ns[i]? = some n := ⟨ns[i], List.getElem?_eq_getElem hi⟩
    obtain ⟨c0, _⟩ := hN i n hn
    have HF : Hid _ := endF_fin ns f i n hn
    have hp := prt_le n.op
    have i0 : (0 : Int) ≤ (i : Int) := by omega
    have i1 : (i : Int) < (ns.length : Int) := by omega
    have hd : decide (ns.length ≤ i) = false := by simp; omega
    clear hn
    go_enter Tryd.func17, Tryd.ntmps17
    go_wp2_with fail
    refine (parts_any _ _).mono ?_
    rintro e w1 ⟨rfl, rfl⟩
    generalize hpr : prt n.op = pr at *
    clear hpr
    go_wp2_with fail
    go_loop [1, 5] (fun v u => ∃ (m : Nat) (o : Option Nat), m ≤ 2 ∧ u = .int .i64 m ∧ v = .int .i64 (endI o) ∧ Hid (fin ns f m o = endF ns (f + 1) i) ∧ Hid (∀ j, o = some j → i < j ∧ j ≤ ns.length)) (fun _ u => (intOf u).toNat)
    case atStart => exact ⟨pr, some (i + 1), by omega, rfl, by go_num, HF.out.symm, fun j hj => by simp at hj; omega⟩
    case round =>
      obtain ⟨m, o, hm2, rfl, rfl, HX, HJ⟩ := hrel
      cases m with
      | zero =>
        go_wp2
        go_ret
        exact ⟨by rw [← HX.out]; rfl, rfl⟩
      | succ m =>
        have m0 : (0 : Int) < ((m + 1 : Nat) : Int) := by omega
        cases o with
        | none =>
          simp only [endI]
          go_wp2
          go_ret
          exact ⟨by rw [← HX.out, fin_none]; rfl, rfl⟩
        | some j =>
          have hj := HJ.out j rfl
          simp only [endI]
          go_wp2_with fail
          refine (IH.out j (by omega)).mono ?_
          rintro e w1 ⟨rfl, rfl⟩
          go_wp2
          refine ⟨⟨m, endF ns f j, by omega, by go_num, rfl, ?_, ?_⟩, by simp [intOf]⟩
          · rw [← HX.out]; exact (Eq.refl (fin ns f m (endF ns f j)))
          · intro k hk
            have := endF_gt ns f j k hk
            omega
  · have hd : decide (ns.length ≤ i) = true := by simp; omega
    have HF : Hid (endF ns (f + 1) i = none) := by
      show _ = _
      rw [endF, List.getElem?_eq_none (by omega)]
    go_enter Tryd.func17, Tryd.ntmps17
    go_wp2
    go_ret
    exact ⟨by rw [HF.out]; rfl, rfl⟩
set_option maxHeartbeats 1000000 in
theorem endOf_out (ns : List Nd) (a : Option Addr) (cap i : Nat) (hm : ns.length ≤ maxLen) (w : World) (hi : ns.length ≤ i) :
    Calls Tryd.prog 17 #[.slice a ns.length cap, .int .i64 i] w fun e w' => e = .returned (.int .i64 (-1)) ∧ w' = w := by
  unfold maxLen at hm
  have hd : decide (ns.length ≤ i) = true := by simp; omega
  go_enter Tryd.func17, Tryd.ntmps17
  go_wp2
  go_ret
  exact ⟨rfl, rfl⟩
theorem endOf_at (ns : List Nd) (b off cap : Nat) (hm : ns.length ≤ maxLen) (w : World) (hN : NsAt w b off ns) : ∀ (f i : Nat), ns.length + 1 ≤ f + i →
    Calls Tryd.prog 17 #[.slice (some ⟨b, off, none⟩) ns.length cap, .int .i64 i] w fun e w' => e = .returned (.int .i64 (endI (endF ns f i))) ∧ w' = w := by
  intro f
  induction f with
  | zero =>
    intro i h
    exact endOf_out ns _ cap i hm w (by omega)
  | succ f ih =>
    intro i h
    exact endOf_walk ns b off cap f i hm w hN ih (by omega)
theorem endOf_any (ns : List Nd) (v : Value) (i : Nat) (w : World) (hN : NsIn w v ns) :
    Calls Tryd.prog 17 #[v, .int .i64 i] w fun e w' => e = .returned (.int .i64 (endI (endE ns i))) ∧ w' = w := by
  obtain ⟨a, cap, rfl, hm, h | ⟨b, off, rfl, hlt, hn⟩⟩ := hN
  · subst h
    rw [endE_nil]
    exact endOf_out [] a cap i hm w (by simp)
  · exact endOf_at ns b off cap hm w hn (ns.length + 1) i (by omega)
end Go.Proofs.YtphcncgdodhlbaaDoor
namespace Go.Proofs.YtphcncgdodhlbaaDoor
set_option linter.unusedSimpArgs false
set_option linter.unusedVariables false
set_option maxRecDepth 100000
open Go.RowKit
theorem img_cat (s : List UInt8) (n : Nd) (a b : Rx) (hop : n.op = 3) {A B C : Nat → Bool} (h1 : Img s a A B) (h2 : Img s b B C) : Img s (.two n a b) A C := by
  intro j hj
  have hF : ∀ i, Fit s (.two n a b) i j ↔ ∃ k, Fit s a i k ∧ Fit s b k j := fun i => by rw [Fit, if_pos hop]
  rw [h2 j hj]
  constructor
  · rintro ⟨k, hk, hb, hf⟩
    obtain ⟨i, hi, ha, hg⟩ := (h1 k hk).1 hb
    exact ⟨i, hi, ha, (hF i).2 ⟨k, hg, hf⟩⟩
  · rintro ⟨i, hi, ha, hf⟩
    obtain ⟨k, h3, h4⟩ := (hF i).1 hf
    have hk := (fit_le s a i k h3).2
    exact ⟨k, hk, (h1 k hk).2 ⟨i, hi, ha, h3⟩, h4⟩
theorem img_or (s : List UInt8) (n : Nd) (a b : Rx) (hop : n.op = 4) {A B C : Nat → Bool} (h1 : Img s a A B) (h2 : Img s b A C) : Img s (.two n a b) A fun i => B i || C i := by
  intro j hj
  have hF : ∀ i, Fit s (.two n a b) i j ↔ Fit s a i j ∨ Fit s b i j := fun i => by rw [Fit, if_neg (by rw [hop]; decide)]
  simp only [Bool.or_eq_true]
  rw [h1 j hj, h2 j hj]
  constructor
  · rintro (⟨i, hi, ha, hf⟩ | ⟨i, hi, ha, hf⟩)
    · exact ⟨i, hi, ha, (hF i).2 (Or.inl hf)⟩
    · exact ⟨i, hi, ha, (hF i).2 (Or.inr hf)⟩
  · rintro ⟨i, hi, ha, hf⟩
    rcases (hF i).1 hf with h | h
    · exact Or.inl ⟨i, hi, ha, h⟩
    · exact Or.inr ⟨i, hi, ha, h⟩
theorem img_opt (s : List UInt8) (n : Nd) (a : Rx) (hop : n.op = 7) {A B : Nat → Bool} (h1 : Img s a A B) : Img s (.one n a) A fun i => A i || B i := by
  intro j hj
  have hF : ∀ i, Fit s (.one n a) i j ↔ (i = j ∧ i ≤ s.length) ∨ Fit s a i j := fun i => by rw [Fit, if_neg (by rw [hop]; decide), if_neg (by rw [hop]; decide)]
  simp only [Bool.or_eq_true]
  rw [h1 j hj]
  constructor
  · rintro (ha | ⟨i, hi, ha, hf⟩)
    · exact ⟨j, hj, ha, (hF j).2 (Or.inl ⟨rfl, hj⟩)⟩
    · exact ⟨i, hi, ha, (hF i).2 (Or.inr hf)⟩
  · rintro ⟨i, hi, ha, hf⟩
    rcases (hF i).1 hf with ⟨rfl, _⟩ | h
    · exact Or.inl ha
    · exact Or.inr ⟨i, hi, ha, h⟩
theorem img_star (s : List UInt8) (n : Nd) (a : Rx) (hop : n.op = 5) {A B : Nat → Bool} (h1 : ImgS s a A B) : Img s (.one n a) A B := by
  intro j hj
  have hF : ∀ i, Fit s (.one n a) i j ↔ Str s.length (Fit s a) i j := fun i => by rw [Fit, if_pos hop]
  rw [h1 j hj]
  constructor
  · rintro ⟨i, hi, ha, hf⟩; exact ⟨i, hi, ha, (hF i).2 hf⟩
  · rintro ⟨i, hi, ha, hf⟩; exact ⟨i, hi, ha, (hF i).1 hf⟩
theorem img_plus (s : List UInt8) (n : Nd) (a : Rx) (hop : n.op = 6) {A B C : Nat → Bool} (h1 : Img s a A B) (h2 : ImgS s a B C) : Img s (.one n a) A C := by
  intro j hj
  have hF : ∀ i, Fit s (.one n a) i j ↔ ∃ k, Fit s a i k ∧ Str s.length (Fit s a) k j := fun i => by rw [Fit, if_neg (by rw [hop]; decide), if_pos hop]
  rw [h2 j hj]
  constructor
  · rintro ⟨k, hk, hb, hf⟩
    obtain ⟨i, hi, ha, hg⟩ := (h1 k hk).1 hb
    exact ⟨i, hi, ha, (hF i).2 ⟨k, hg, hf⟩⟩
  · rintro ⟨i, hi, ha, hf⟩
    obtain ⟨k, h3, h4⟩ := (hF i).1 hf
    have hk := (fit_le s a i k h3).2
    exact ⟨k, hk, (h1 k hk).2 ⟨i, hi, ha, h3⟩, h4⟩
/-- What Reach has made when it looks at the node. -/
def Two (w : World) (s : ByteArray) (n : Nd) (op : Int) : World := (w.alloc (.cells (rowB s.size fun _ => false) 4)).alloc (.cells #[.int .i64 op, .int .u64 n.c.a, .int .u64 n.c.b, .int .u64 n.c.c, .int .u64 n.c.d] 44)
theorem two_below (w : World) (s : ByteArray) (n : Nd) (op : Int) : Below w.heap.size w (Two w s n op) := (new_one w _).trans ((new_one _ _).mono (by simp))
def EndAt (ns : List Nd) (b off cap i j : Nat) : Prop := ∀ w : World, NsAt w b off ns → Calls Tryd.prog 17 #[.slice (some ⟨b, off, none⟩) ns.length cap, .int .i64 i] w fun e w' => e = .returned (.int .i64 (j : Int)) ∧ w' = w
set_option maxHeartbeats 4000000 in
theorem reach_cat (ns : List Nd) (b off cap i j : Nat) (hl : ns.length ≤ 60) (n : Nd) (hn : ns[i]? = some n) (hop : n.op = 3) (hi1 : i + 1 < ns.length) (s : ByteArray) (hs : s.size ≤ 1000000) (a b' : Rx) (hA : RchOk ns b off cap (i + 1) s a) (hB : RchOk ns b off cap j s b') (hE : EndAt ns b off cap (i + 1) j) : RchOk ns b off cap i s (.two n a b') := by
  intro A v w hlt hN hv
  obtain ⟨c0, c1, c2, c3, c4⟩ := (hN.below (new_one w (.cells (rowB s.size fun _ => false) 4)) hlt) i n hn
  rw [hop] at c0
  have hmk := mkB s.size hs
  have i0 : (0 : Int) ≤ (i : Int) := by omega
  have i1 : (i : Int) < (ns.length : Int) := by omega
  have i2 : (i : Int) + 1 < (ns.length : Int) := by omega
  obtain ⟨b1, o1, d1, rfl⟩ := hv.form
  have HV := hid (hv.below (two_below w s n 3))
  have HT := hid (two_below w s n 3)
  have HOP := hid hop
  have HA : Hid (∀ w1 C u, Below w.heap.size w w1 → BsIn w1 u s.size C → Calls Tryd.prog 31 #[.slice (some ⟨b, off, none⟩) ns.length cap, .int .i64 ((i : Int) + 1), .string s, u] w1 (RchP w1 s a C)) := fun w1 C u hb hu => hA C u w1 (Nat.lt_of_lt_of_le hlt hb.size) (hN.below hb hlt) hu
  have HB : Hid (∀ w1 C u, Below w.heap.size w w1 → BsIn w1 u s.size C → Calls Tryd.prog 31 #[.slice (some ⟨b, off, none⟩) ns.length cap, .int .i64 (j : Int), .string s, u] w1 (RchP w1 s b' C)) := fun w1 C u hb hu => hB C u w1 (Nat.lt_of_lt_of_le hlt hb.size) (hN.below hb hlt) hu
  have HE : Hid (∀ w1, Below w.heap.size w w1 → Calls Tryd.prog 17 #[.slice (some ⟨b, off, none⟩) ns.length cap, .int .i64 ((i : Int) + 1)] w1 fun e w' => e = .returned (.int .i64 (j : Int)) ∧ w' = w1) := fun w1 hb => hE w1 (hN.below hb hlt)
  clear hA hB hE hN hv hop hn
  go_enter Tryd.func31, Tryd.ntmps31
  go_wp2_with fail
  refine Calls.mono (HE.out _ HT.out) ?_
  rintro e w9 ⟨rfl, rfl⟩
  go_wp2_with fail
  refine Calls.mono (HA.out _ A _ HT.out HV.out) ?_
  rintro e w1 ⟨u1, B1, rfl, hb, hr, hi⟩
  have HB1 := hid (HT.out.trans (hb.mono HT.out.size))
  have HR1 := hid hr
  have HI1 := hid hi
  have HL1 := hid hb
  clear hb hr hi
  obtain ⟨bb1, oo1, dd1, rfl⟩ := HR1.out.form
  go_wp2_with fail
  refine Calls.mono (HB.out _ B1 _ HB1.out HR1.out) ?_
  rintro e w2 ⟨u2, B2, rfl, hb, hr, hi⟩
  have HB2 := hid (HB1.out.trans (hb.mono HB1.out.size))
  have HR2 := hid hr
  have HI2 := hid hi
  have HL2 := hid hb
  clear hb hr hi
  obtain ⟨bb2, oo2, dd2, rfl⟩ := HR2.out.form
  go_wp2_with fail
  go_ret
  exact ⟨_, _, rfl, HB2.out, HR2.out, img_cat _ n a b' HOP.out HI1.out HI2.out⟩
set_option maxHeartbeats 4000000 in
theorem reach_or (ns : List Nd) (b off cap i j : Nat) (hl : ns.length ≤ 60) (n : Nd) (hn : ns[i]? = some n) (hop : n.op = 4) (hi1 : i + 1 < ns.length) (s : ByteArray) (hs : s.size ≤ 1000000) (a b' : Rx) (hA : RchOk ns b off cap (i + 1) s a) (hB : RchOk ns b off cap j s b') (hE : EndAt ns b off cap (i + 1) j) : RchOk ns b off cap i s (.two n a b') := by
  intro A v w hlt hN hv
  obtain ⟨c0, c1, c2, c3, c4⟩ := (hN.below (new_one w (.cells (rowB s.size fun _ => false) 4)) hlt) i n hn
  rw [hop] at c0
  have hmk := mkB s.size hs
  have i0 : (0 : Int) ≤ (i : Int) := by omega
  have i1 : (i : Int) < (ns.length : Int) := by omega
  have i2 : (i : Int) + 1 < (ns.length : Int) := by omega
  obtain ⟨b1, o1, d1, rfl⟩ := hv.form
  have HV := hid (hv.below (two_below w s n 4))
  have HT := hid (two_below w s n 4)
  have HOP := hid hop
  have HA : Hid (∀ w1 C u, Below w.heap.size w w1 → BsIn w1 u s.size C → Calls Tryd.prog 31 #[.slice (some ⟨b, off, none⟩) ns.length cap, .int .i64 ((i : Int) + 1), .string s, u] w1 (RchP w1 s a C)) := fun w1 C u hb hu => hA C u w1 (Nat.lt_of_lt_of_le hlt hb.size) (hN.below hb hlt) hu
  have HB : Hid (∀ w1 C u, Below w.heap.size w w1 → BsIn w1 u s.size C → Calls Tryd.prog 31 #[.slice (some ⟨b, off, none⟩) ns.length cap, .int .i64 (j : Int), .string s, u] w1 (RchP w1 s b' C)) := fun w1 C u hb hu => hB C u w1 (Nat.lt_of_lt_of_le hlt hb.size) (hN.below hb hlt) hu
  have HE : Hid (∀ w1, Below w.heap.size w w1 → Calls Tryd.prog 17 #[.slice (some ⟨b, off, none⟩) ns.length cap, .int .i64 ((i : Int) + 1)] w1 fun e w' => e = .returned (.int .i64 (j : Int)) ∧ w' = w1) := fun w1 hb => hE w1 (hN.below hb hlt)
  have HJ := hid (joined_any s.size hs)
  clear hA hB hE hN hv hop hn
  go_enter Tryd.func31, Tryd.ntmps31
  go_wp2_with fail
  refine Calls.mono (HA.out _ A _ HT.out HV.out) ?_
  rintro e w1 ⟨u1, B1, rfl, hb, hr, hi⟩
  have HB1 := hid (HT.out.trans (hb.mono HT.out.size))
  have HR1 := hid hr
  have HI1 := hid hi
  have HL1 := hid hb
  clear hb hr hi
  obtain ⟨bb1, oo1, dd1, rfl⟩ := HR1.out.form
  go_wp2_with fail
  refine Calls.mono (HE.out _ HB1.out) ?_
  rintro e w9 ⟨rfl, rfl⟩
  go_wp2_with fail
  refine Calls.mono (HB.out _ A _ HB1.out (HV.out.below HL1.out)) ?_
  rintro e w2 ⟨u2, B2, rfl, hb, hr, hi⟩
  have HB2 := hid (HB1.out.trans (hb.mono HB1.out.size))
  have HR2 := hid hr
  have HI2 := hid hi
  have HL2 := hid hb
  clear hb hr hi
  obtain ⟨bb2, oo2, dd2, rfl⟩ := HR2.out.form
  go_wp2_with fail
  refine Calls.mono (HJ.out B1 B2 _ _ _ (HR1.out.below HL2.out) HR2.out) ?_
  rintro e w3 ⟨x, rfl, hb, hr⟩
  have HB3 := hid (HB2.out.trans (hb.mono HB2.out.size))
  have HR3 := hid hr
  clear hb hr
  go_wp2_with fail
  go_ret
  exact ⟨_, _, rfl, HB3.out, HR3.out, img_or _ n a b' HOP.out HI1.out HI2.out⟩
set_option maxHeartbeats 4000000 in
theorem reach_opt (ns : List Nd) (b off cap i : Nat) (hl : ns.length ≤ 60) (n : Nd) (hn : ns[i]? = some n) (hop : n.op = 7) (hi1 : i + 1 < ns.length) (s : ByteArray) (hs : s.size ≤ 1000000) (a : Rx) (hA : RchOk ns b off cap (i + 1) s a) : RchOk ns b off cap i s (.one n a) := by
  intro A v w hlt hN hv
  obtain ⟨c0, c1, c2, c3, c4⟩ := (hN.below (new_one w (.cells (rowB s.size fun _ => false) 4)) hlt) i n hn
  rw [hop] at c0
  have hmk := mkB s.size hs
  have i0 : (0 : Int) ≤ (i : Int) := by omega
  have i1 : (i : Int) < (ns.length : Int) := by omega
  have i2 : (i : Int) + 1 < (ns.length : Int) := by omega
  obtain ⟨b1, o1, d1, rfl⟩ := hv.form
  have HV := hid (hv.below (two_below w s n 7))
  have HT := hid (two_below w s n 7)
  have HOP := hid hop
  have HA : Hid (∀ w1 C u, Below w.heap.size w w1 → BsIn w1 u s.size C → Calls Tryd.prog 31 #[.slice (some ⟨b, off, none⟩) ns.length cap, .int .i64 ((i : Int) + 1), .string s, u] w1 (RchP w1 s a C)) := fun w1 C u hb hu => hA C u w1 (Nat.lt_of_lt_of_le hlt hb.size) (hN.below hb hlt) hu
  have HJ := hid (joined_any s.size hs)
  clear hA hN hv hop hn
  go_enter Tryd.func31, Tryd.ntmps31
  go_wp2_with fail
  refine Calls.mono (HA.out _ A _ HT.out HV.out) ?_
  rintro e w1 ⟨u1, B1, rfl, hb, hr, hi⟩
  have HB1 := hid (HT.out.trans (hb.mono HT.out.size))
  have HR1 := hid hr
  have HI1 := hid hi
  have HL1 := hid hb
  clear hb hr hi
  obtain ⟨bb1, oo1, dd1, rfl⟩ := HR1.out.form
  go_wp2_with fail
  refine Calls.mono (HJ.out A B1 _ _ _ (HV.out.below HL1.out) HR1.out) ?_
  rintro e w3 ⟨x, rfl, hb, hr⟩
  have HB3 := hid (HB1.out.trans (hb.mono HB1.out.size))
  have HR3 := hid hr
  clear hb hr
  go_wp2_with fail
  go_ret
  exact ⟨_, _, rfl, HB3.out, HR3.out, img_opt _ n a HOP.out HI1.out⟩
set_option maxHeartbeats 4000000 in
theorem reach_star (ns : List Nd) (b off cap i : Nat) (hl : ns.length ≤ 60) (n : Nd) (hn : ns[i]? = some n) (hop : n.op = 5) (hi1 : i + 1 < ns.length) (s : ByteArray) (hs : s.size ≤ 1000000) (a : Rx) (hA : RchOk ns b off cap (i + 1) s a) : RchOk ns b off cap i s (.one n a) := by
  intro A v w hlt hN hv
  obtain ⟨c0, c1, c2, c3, c4⟩ := (hN.below (new_one w (.cells (rowB s.size fun _ => false) 4)) hlt) i n hn
  rw [hop] at c0
  have hmk := mkB s.size hs
  have i0 : (0 : Int) ≤ (i : Int) := by omega
  have i1 : (i : Int) < (ns.length : Int) := by omega
  have i2 : (i : Int) + 1 < (ns.length : Int) := by omega
  obtain ⟨b1, o1, d1, rfl⟩ := hv.form
  have HV := hid (hv.below (two_below w s n 5))
  have HT := hid (two_below w s n 5)
  have HOP := hid hop
  have HA : Hid (∀ w1 C u, Below w.heap.size w w1 → BsIn w1 u s.size C → Calls Tryd.prog 31 #[.slice (some ⟨b, off, none⟩) ns.length cap, .int .i64 ((i : Int) + 1), .string s, u] w1 (RchP w1 s a C)) := fun w1 C u hb hu => hA C u w1 (Nat.lt_of_lt_of_le hlt hb.size) (hN.below hb hlt) hu
  have HC : Hid (∀ w1 C u, Below w.heap.size w w1 → BsIn w1 u s.size C → Calls Tryd.prog 43 #[.slice (some ⟨b, off, none⟩) ns.length cap, .int .i64 ((i : Int) + 1), .string s, u] w1 (ClsP w1 s a C)) := fun w1 C u hb hu => closed_any ns b off cap (i + 1) hl s hs a hA C u w1 (Nat.lt_of_lt_of_le hlt hb.size) (hN.below hb hlt) hu
  clear hA hN hv hop hn
  go_enter Tryd.func31, Tryd.ntmps31
  go_wp2_with fail
  refine Calls.mono (HC.out _ A _ HT.out HV.out) ?_
  rintro e w1 ⟨u1, B1, rfl, hb, hr, hi⟩
  have HB1 := hid (HT.out.trans (hb.mono HT.out.size))
  have HR1 := hid hr
  have HI1 := hid hi
  have HL1 := hid hb
  clear hb hr hi
  obtain ⟨bb1, oo1, dd1, rfl⟩ := HR1.out.form
  go_wp2_with fail
  go_ret
  exact ⟨_, _, rfl, HB1.out, HR1.out, img_star _ n a HOP.out HI1.out⟩
set_option maxHeartbeats 4000000 in
theorem reach_plus (ns : List Nd) (b off cap i : Nat) (hl : ns.length ≤ 60) (n : Nd) (hn : ns[i]? = some n) (hop : n.op = 6) (hi1 : i + 1 < ns.length) (s : ByteArray) (hs : s.size ≤ 1000000) (a : Rx) (hA : RchOk ns b off cap (i + 1) s a) : RchOk ns b off cap i s (.one n a) := by
  intro A v w hlt hN hv
  obtain ⟨c0, c1, c2, c3, c4⟩ := (hN.below (new_one w (.cells (rowB s.size fun _ => false) 4)) hlt) i n hn
  rw [hop] at c0
  have hmk := mkB s.size hs
  have i0 : (0 : Int) ≤ (i : Int) := by omega
  have i1 : (i : Int) < (ns.length : Int) := by omega
  have i2 : (i : Int) + 1 < (ns.length : Int) := by omega
  obtain ⟨b1, o1, d1, rfl⟩ := hv.form
  have HV := hid (hv.below (two_below w s n 6))
  have HT := hid (two_below w s n 6)
  have HOP := hid hop
  have HA : Hid (∀ w1 C u, Below w.heap.size w w1 → BsIn w1 u s.size C → Calls Tryd.prog 31 #[.slice (some ⟨b, off, none⟩) ns.length cap, .int .i64 ((i : Int) + 1), .string s, u] w1 (RchP w1 s a C)) := fun w1 C u hb hu => hA C u w1 (Nat.lt_of_lt_of_le hlt hb.size) (hN.below hb hlt) hu
  have HC : Hid (∀ w1 C u, Below w.heap.size w w1 → BsIn w1 u s.size C → Calls Tryd.prog 43 #[.slice (some ⟨b, off, none⟩) ns.length cap, .int .i64 ((i : Int) + 1), .string s, u] w1 (ClsP w1 s a C)) := fun w1 C u hb hu => closed_any ns b off cap (i + 1) hl s hs a hA C u w1 (Nat.lt_of_lt_of_le hlt hb.size) (hN.below hb hlt) hu
  clear hA hN hv hop hn
  go_enter Tryd.func31, Tryd.ntmps31
  go_wp2_with fail
  refine Calls.mono (HA.out _ A _ HT.out HV.out) ?_
  rintro e w1 ⟨u1, B1, rfl, hb, hr, hi⟩
  have HB1 := hid (HT.out.trans (hb.mono HT.out.size))
  have HR1 := hid hr
  have HI1 := hid hi
  have HL1 := hid hb
  clear hb hr hi
  obtain ⟨bb1, oo1, dd1, rfl⟩ := HR1.out.form
  go_wp2_with fail
  refine Calls.mono (HC.out _ B1 _ HB1.out HR1.out) ?_
  rintro e w2 ⟨u2, B2, rfl, hb, hr, hi⟩
  have HB2 := hid (HB1.out.trans (hb.mono HB1.out.size))
  have HR2 := hid hr
  have HI2 := hid hi
  have HL2 := hid hb
  clear hb hr hi
  obtain ⟨bb2, oo2, dd2, rfl⟩ := HR2.out.form
  go_wp2_with fail
  go_ret
  exact ⟨_, _, rfl, HB2.out, HR2.out, img_plus _ n a HOP.out HI1.out HI2.out⟩
end Go.Proofs.YtphcncgdodhlbaaDoor
namespace Go.Proofs.YtphcncgdodhlbaaDoor
set_option linter.unusedSimpArgs false
set_option linter.unusedVariables false
set_option maxRecDepth 100000
open Go.RowKit

/-- The node at a tree's top. -/
def Rx.top : Rx → Nd
  | .leaf n => n
  | .one n _ => n
  | .two n _ _ => n
/-- Does a part want brackets? -/
def brk (parent op : Int) (second : Bool) : Bool :=
  if op = 2 then !decide (parent = 4) else if op = 4 then !second || !decide (parent = 4) else if op = 3 then (decide (parent = 3) && !second) || decide (parent = 5) || decide (parent = 6) || decide (parent = 7) else false
def brT (x : Bool) (s : List UInt8) : List UInt8 := if x then 40 :: (s ++ [41]) else s
def signT (op : Int) : UInt8 := if op = 5 then 42 else if op = 6 then 43 else 63
/-- The text. -/
def Rx.txt : Rx → List UInt8
  | .leaf n => if n.op = 1 then textL n.c else if n.op = 8 then [94] else if n.op = 9 then [36] else []
  | .one n a => brT (brk n.op a.top.op false) a.txt ++ [signT n.op]
  | .two n a b => brT (brk n.op a.top.op false) a.txt ++ ((if n.op = 4 then [124] else []) ++ brT (brk n.op b.top.op true) b.txt)
theorem Rx.flat_top (t : Rx) : ∃ r, t.flat = t.top :: r := by cases t <;> exact ⟨_, rfl⟩
theorem brT_len (x : Bool) (s : List UInt8) : (brT x s).length ≤ s.length + 2 := by
  cases x <;> simp [brT]
theorem textL_len (k : C4) : (textL k).length ≤ 2306 := by
  have := runs256_len k
  unfold textL
  split
  · simp
  · split
    · omega
    · simp; omega
theorem Rx.txt_len : ∀ t : Rx, t.txt.length ≤ 2400 * t.flat.length
  | .leaf n => by
    have := textL_len n.c
    unfold Rx.txt
    split
    · simp [Rx.flat]; omega
    · split
      · simp [Rx.flat]
      · split <;> simp [Rx.flat]
  | .one n a => by
    have := txt_len a
    have := brT_len (brk n.op a.top.op false) a.txt
    simp [Rx.txt, Rx.flat]; omega
  | .two n a b => by
    have := txt_len a
    have := txt_len b
    have := brT_len (brk n.op a.top.op false) a.txt
    have := brT_len (brk n.op b.top.op true) b.txt
    have : (if n.op = 4 then [(124 : UInt8)] else []).length ≤ 1 := by split <;> simp
    simp [Rx.txt, Rx.flat]; omega
end Go.Proofs.YtphcncgdodhlbaaDoor
namespace Go.Proofs.YtphcncgdodhlbaaDoor
set_option linter.unusedSimpArgs false
set_option linter.unusedVariables false
set_option maxRecDepth 100000
open Go.RowKit
theorem rpos : ∀ (t : Rx) (p q : List Nd), (p ++ t.flat ++ q)[p.length]? = some t.top
  | .leaf n, p, q => by simp [Rx.flat, Rx.top]
  | .one n a, p, q => by simp [Rx.flat, Rx.top]
  | .two n a b, p, q => by simp [Rx.flat, Rx.top]
theorem rleaf_op {n : Nd} (h : prt n.op = 0) (hr : 1 ≤ n.op ∧ n.op ≤ 9) : n.op = 1 ∨ n.op = 2 ∨ n.op = 8 ∨ n.op = 9 := by
  have e3 : n.op ≠ 3 := by intro e; rw [e] at h; simp [prt] at h
  have e4 : n.op ≠ 4 := by intro e; rw [e] at h; simp [prt] at h
  have e5 : n.op ≠ 5 := by intro e; rw [e] at h; simp [prt] at h
  have e6 : n.op ≠ 6 := by intro e; rw [e] at h; simp [prt] at h
  have e7 : n.op ≠ 7 := by intro e; rw [e] at h; simp [prt] at h
  omega
theorem reach_tree (b off cap : Nat) (s : ByteArray) (hs : s.size ≤ 1000000) : ∀ (t : Rx), t.Ok → ∀ (p q : List Nd), (∀ n ∈ t.flat, (1 ≤ n.op ∧ n.op ≤ 9) ∧ n.c.ok) → (p ++ t.flat ++ q).length ≤ 60 → RchOk (p ++ t.flat ++ q) b off cap p.length s t
  | .leaf n, h, p, q, hr, hl => by
    have hg := hr n (by simp [Rx.flat])
    have hat := rpos (.leaf n) p q
    rcases rleaf_op h hg.1 with e | e | e | e
    · exact reach_byte _ b off cap _ hl n hat e hg.2 s hs
    · exact reach_empty _ b off cap _ hl n hat e s hs
    · exact reach_begin _ b off cap _ hl n hat e s hs
    · exact reach_end _ b off cap _ hl n hat e s hs
  | .one n a, h, p, q, hr, hl => by
    have hpos := rpos (.one n a) p q
    have hap := rpos a (p ++ [n]) q
    have ih := reach_tree b off cap s hs a h.2 (p ++ [n]) q (fun m hm => hr m (by simp [Rx.flat, hm])) (by simpa [Rx.flat] using hl)
    have e : p ++ [n] ++ a.flat ++ q = p ++ (Rx.one n a).flat ++ q := by simp [Rx.flat]
    have ep : (p ++ [n]).length = p.length + 1 := by simp
    rw [e, ep] at ih hap
    have hlt := at_lt hap
    rcases (prt_one n.op).1 h.1 with e | e | e
    · exact reach_star _ b off cap _ hl n hpos e hlt s hs a ih
    · exact reach_plus _ b off cap _ hl n hpos e hlt s hs a ih
    · exact reach_opt _ b off cap _ hl n hpos e hlt s hs a ih
  | .two n a b', h, p, q, hr, hl => by
    have hpos := rpos (.two n a b') p q
    have hap := rpos a (p ++ [n]) (b'.flat ++ q)
    have ih := reach_tree b off cap s hs a h.2.1 (p ++ [n]) (b'.flat ++ q) (fun m hm => hr m (by simp [Rx.flat, hm])) (by simpa [Rx.flat] using hl)
    have hend := endE_mid a h.2.1 (p ++ [n]) (b'.flat ++ q)
    have e : p ++ [n] ++ a.flat ++ (b'.flat ++ q) = p ++ (Rx.two n a b').flat ++ q := by simp [Rx.flat]
    have ep : (p ++ [n]).length = p.length + 1 := by simp
    rw [e, ep] at ih hap hend
    have ih2 := reach_tree b off cap s hs b' h.2.2 (p ++ [n] ++ a.flat) q (fun m hm => hr m (by simp [Rx.flat, hm])) (by simpa [Rx.flat] using hl)
    have e2 : p ++ [n] ++ a.flat ++ b'.flat ++ q = p ++ (Rx.two n a b').flat ++ q := by simp [Rx.flat]
    have ep2 : (p ++ [n] ++ a.flat).length = p.length + 1 + a.flat.length := by simp; omega
    rw [e2, ep2] at ih2
    have hlt := at_lt hap
    have hE : EndAt (p ++ (Rx.two n a b').flat ++ q) b off cap (p.length + 1) (p.length + 1 + a.flat.length) := by
      intro w hN
      have := endOf_at _ b off cap (by unfold maxLen; omega) w hN ((p ++ (Rx.two n a b').flat ++ q).length + 1) (p.length + 1) (by omega)
      rw [show endF (p ++ (Rx.two n a b').flat ++ q) ((p ++ (Rx.two n a b').flat ++ q).length + 1) (p.length + 1) = some (p.length + 1 + a.flat.length) from hend] at this
      exact this
    rcases (prt_two n.op).1 h.1 with e | e
    · exact reach_cat _ b off cap _ _ hl n hpos e hlt s hs a b' ih ih2 hE
    · exact reach_or _ b off cap _ _ hl n hpos e hlt s hs a b' ih ih2 hE
/-- The places of A below k, rising. -/
def plcs (A : Nat → Bool) (k : Nat) : List Nat := (List.range k).filter A
theorem plcs_succ (A : Nat → Bool) (k : Nat) : plcs A (k + 1) = if A k then plcs A k ++ [k] else plcs A k := by
  unfold plcs
  rw [List.range_succ, List.filter_append]
  cases h : A k <;> simp [h]
theorem plcs_len (A : Nat → Bool) (k : Nat) : (plcs A k).length ≤ k := by
  have := List.length_filter_le A (List.range k)
  simpa [plcs] using this
theorem ends_plcs {s : List UInt8} {t : Rx} {i : Nat} {l : List Nat} (h : EndsR s t i l) (hi : i ≤ s.length) {B : Nat → Bool} (hB : Img s t (upd (fun _ => false) i true) B) : plcs B (s.length + 1) = l := by
  refine rise_eq _ _ (List.Pairwise.filter _ List.pairwise_lt_range) h.1 fun j => ?_
  rw [plcs, List.mem_filter, List.mem_range, h.2 j]
  constructor
  · rintro ⟨hj, hb⟩
    obtain ⟨k, hk, ha, hf⟩ := (hB j (by omega)).1 hb
    unfold upd at ha
    split at ha
    · rename_i e; subst e; exact hf
    · cases ha
  · intro hf
    have := fit_le s t i j hf
    exact ⟨by omega, (hB j (by omega)).2 ⟨i, hi, by simp [upd], hf⟩⟩
set_option maxHeartbeats 8000000 in
theorem endsOf_any (t : Rx) (ht : t.Ok) (v : Value) (s : ByteArray) (hs : s.size ≤ 1000000) (i : Nat) (hi : i ≤ s.size) (l : List Nat) (hE : EndsR s.data.toList t i l) (w : World) (hN : NsIn w v t.flat) (hr : ∀ n ∈ t.flat, (1 ≤ n.op ∧ n.op ≤ 9) ∧ n.c.ok) (hl : t.flat.length ≤ 60) :
    Calls Tryd.prog 18 #[v, .string s, .int .i64 (i : Int)] w fun e w' => ∃ u, e = .returned u ∧ Below w.heap.size w w' ∧ IsIn w' u l := by
  obtain ⟨a, cap, rfl, hm, h | ⟨b, off, rfl, hlt, hn⟩⟩ := hN
  · have := t.flat_pos; rw [h] at this; simp at this
  have hR := reach_tree b off cap s hs t ht [] [] hr (by simpa using hl)
  simp only [List.nil_append, List.append_nil, List.length_nil] at hR
  have hmk := mkB s.size hs
  have HR : Hid (Calls Tryd.prog 31 #[.slice (some ⟨b, off, none⟩) t.flat.length cap, .int .i64 0, .string s, .slice (some ⟨w.heap.size, 0, none⟩) (s.size + 1) (s.size + 1)] (w.alloc (.cells ((rowB s.size fun _ => false).setIfInBounds i (.bool true)) 4)) (RchP (w.alloc (.cells ((rowB s.size fun _ => false).setIfInBounds i (.bool true)) 4)) s t (upd (fun _ => false) i true))) := by
    show Calls _ _ _ _ _
    rw [rowB_set]
    exact hR _ _ _ (by simp; omega) (hn.below (new_one w _) hlt) ((BsRow.new' w s.size _).isIn _)
  have HEP : Hid (∀ B, Img s.data.toList t (upd (fun _ => false) i true) B → plcs B (s.size + 1) = l) := fun B hB => by
    have := ends_plcs hE (by rw [sl]; exact hi) hB
    rw [sl] at this
    exact this
  have i0 : (0 : Int) ≤ (i : Int) := by omega
  have i1 : (i : Int) < (s.size : Int) + 1 := by omega
  have e1 : IntKind.i64.wrap ((s.size : Int) + 1) = (s.size : Int) + 1 := by rw [IntKind.wrap_i64]; omega
  have f0 := (BsRow.new' w s.size fun _ => false).free i
  have g0 := (BsRow.new' w s.size fun _ => false).at i hi
  rw [Nat.zero_add] at g0
  clear hR hE hn hr ht
  go_enter Tryd.func18, Tryd.ntmps18
  go_wp2_with fail
  refine Calls.mono HR.out ?_
  rintro e w1 ⟨u1, B, rfl, hb1, hr1, hi1⟩
  have HPL := hid (HEP.out B hi1)
  have HB1 := hid ((new_one w _).trans (hb1.mono (by simp)))
  obtain ⟨b1, o1, d1, rfl, l1, hx⟩ := hr1
  have HL := hid l1
  have HX := hid hx
  clear hi1 hb1 HEP HR f0 g0 l1 hx hmk i0 i1 e1
  go_wp2_with fail
  go_loopw [9, 10] (fun vo vi wr => ∃ k : Nat, k ≤ s.size + 1 ∧ vi = .int .i64 k ∧ IsOwn wr w1.heap.size vo (plcs B k) ∧ Below w1.heap.size w1 wr) (fun _ v _ => s.size + 1 - (intOf v).toNat)
  case atStart => exact ⟨0, by omega, rfl, IsOwn.nil _ _, Below.refl _ _⟩
  case round =>
    obtain ⟨k, hk, rfl, hO, hb⟩ := hrel
    obtain ⟨ao, co, rfl⟩ := hO.form
    have k0 : (0 : Int) ≤ (k : Int) := by omega
    have hpl := plcs_len B k
    have HO := hid hO
    have HB := hid hb
    by_cases hkl : k < s.size + 1
    · have k1 : (k : Int) < (s.size : Int) + 1 := by omega
      have HKL := hid (show k < s.size + 1 from hkl)
      have a0 := (HX.out.below hb HL.out) k (by omega)
      clear hO hb
      cases hx : B k
      · rw [hx] at a0
        have HP : Hid (plcs B (k + 1) = plcs B k) := by show _ = _; rw [plcs_succ, hx]; rfl
        clear hx
        go_wp2_with fail
        exact ⟨⟨k + 1, HKL.out, by go_num, by rw [HP.out]; exact HO.out, HB.out⟩, by simp [intOf]; have := HKL.out; omega⟩
      · rw [hx] at a0
        have HP : Hid (plcs B (k + 1) = plcs B k ++ [k]) := by show _ = _; rw [plcs_succ, hx]; rfl
        clear hx
        have HOA := hid (HO.out.kept (new_one wr (.cells #[.int .i64 (k : Int)] 3)))
        go_wp2_with (at_builtin; refine wpList_append_is rfl _ _ rfl w1.heap.size _ rfl (plcs B k) HOA.out wr.heap.size 1 k rfl (by rw [World.cell?_alloc_at (w := wr) _ _ wr.heap.size 0 rfl]; rfl) (by omega) (by have := HB.out.size; simp; omega) ?_)
        intro g cap2 w2 hO2 hg2 _ _
        have HO2 := hid hO2
        have HB2 := hid ((HB.out.trans ((new_one wr (.cells #[.int .i64 (k : Int)] 3)).mono HB.out.size)).trans (HOA.out.grown (by have := HB.out.size; simp; omega) hg2))
        clear hO2 hg2 HOA
        go_wp2_with fail
        exact ⟨⟨k + 1, HKL.out, by go_num, by rw [HP.out]; simpa using HO2.out, HB2.out⟩, by simp [intOf]; have := HKL.out; omega⟩
    · obtain rfl : k = s.size + 1 := by omega
      clear hO hb
      go_wp2
      go_ret
      refine ⟨_, rfl, HB1.out.trans (HB.out.mono HB1.out.size), ?_⟩
      rw [← HPL.out]
      exact HO.out.isIn (by unfold maxLen; omega)
end Go.Proofs.YtphcncgdodhlbaaDoor
