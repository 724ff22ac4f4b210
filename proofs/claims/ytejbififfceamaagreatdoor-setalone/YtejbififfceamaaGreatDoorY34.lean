/- The laws' own patterns a+ and ab*, read and scanned. Plain mathematics. The law SetAlone, walked from what the document asks of packages set, syn and find. Scripts as arguments: opened. -/
import Derived.Test.YtejbififfceamaaGreatDoorY07
import Derived.Test.YtejbififfceamaaGreatDoorY33
import Derived.Test.YtejbififfceamaaGreatDoorY08
import Derived.Test.YtejbififfceamaaGreatDoorY20
import Derived.Test.YtejbififfceamaaGreatDoorY16
import Derived.Test.YtejbififfceamaaGreatDoorY19
import Derived.Lib.QuietBelow
import Derived.BigQuiet
import Derived.Deep.QuietTactic
import Derived.Test.YtejbififfceamaaGreatDoorY02
import Derived.Lib.SmallJoins
import Derived.Deep.Strs
namespace Go.Proofs.YtejbififfceamaaGreatDoor
set_option linter.unusedSimpArgs false
set_option linter.unusedVariables false
set_option maxRecDepth 100000
open Go.RowKit
/-- A letter's class. -/
def cB (b : Nat) : C4 := z4.add ((b : Nat) : Int)
theorem cB_has (b : Nat) (hb : b < 256) (i : Nat) (hi : i < 256) : (cB b).has i = decide (b = i) := by
  unfold cB
  rw [C4.has_add z4_ok b i hb hi]
  have : z4.has i = false := by
    have : ∀ k, k < 256 → z4.has k = false := by decide
    exact this i hi
  rw [this]
  rfl
abbrev tB (b : Nat) : Rx := .leaf ⟨1, cB b⟩
theorem fitB (s : List UInt8) (b : Nat) (hb : b < 256) (i j : Nat) : Fit s (tB b) i j ↔ s[i]? = some (UInt8.ofNat b) ∧ j = i + 1 := by
  simp only [Fit, if_true]
  constructor
  · rintro ⟨c, h1, h2, h3⟩
    rw [cB_has b hb c.toNat c.toNat_lt] at h2
    have e : b = c.toNat := by simpa using h2
    refine ⟨?_, h3⟩
    rw [h1, e]
    simp
  · rintro ⟨h1, h3⟩
    refine ⟨_, h1, ?_, h3⟩
    rw [cB_has b hb _ (UInt8.toNat_lt _)]
    simp only [decide_eq_true_eq]
    rw [UInt8.toNat_ofNat']
    omega
/-- a+ -/
abbrev tAp : Rx := .one ⟨6, z4⟩ (tB 97)
/-- ab* -/
abbrev tAbs : Rx := .two ⟨3, z4⟩ (tB 97) (.one ⟨5, z4⟩ (tB 98))
theorem base_a (l : List UInt8) : base (97 :: l) = .ok (⟨1, cB 97⟩, l) := by
  simp [base, rd1, signL, cB]
theorem base_b (l : List UInt8) : base (98 :: l) = .ok (⟨1, cB 98⟩, l) := by
  simp [base, rd1, signL, cB]
theorem read_ap : Whole [97, 43] (.ok tAp) := by
  have h1 : Atom [97, 43] (.ok (posts (.leaf ⟨1, cB 97⟩) [43])) := .ok _ _ _ (by simp) (base_a _)
  have h2 : posts (.leaf ⟨1, cB 97⟩) [43] = (tAp, []) := by simp [posts]
  rw [h2] at h1
  exact .ok _ [cats [tAp]] (.last _ [tAp] [] (.more _ _ _ _ _ rfl h1 (.stop _ rfl)) (by simp))
theorem read_abs : Whole [97, 98, 42] (.ok tAbs) := by
  have h1 : Atom [97, 98, 42] (.ok (posts (.leaf ⟨1, cB 97⟩) [98, 42])) := .ok _ _ _ (by simp) (base_a _)
  have h2 : posts (.leaf ⟨1, cB 97⟩) [98, 42] = (tB 97, [98, 42]) := by simp [posts]
  have h3 : Atom [98, 42] (.ok (posts (.leaf ⟨1, cB 98⟩) [42])) := .ok _ _ _ (by simp) (base_b _)
  have h4 : posts (.leaf ⟨1, cB 98⟩) [42] = (.one ⟨5, z4⟩ (tB 98), []) := by simp [posts]
  rw [h2] at h1
  rw [h4] at h3
  exact .ok _ [cats [tB 97, .one ⟨5, z4⟩ (tB 98)]] (.last _ [tB 97, .one ⟨5, z4⟩ (tB 98)] [] (.more _ _ _ _ _ rfl h1 (.more _ _ _ _ _ rfl h3 (.stop _ rfl))) (by simp))
theorem strB_most {N M : Nat} {R : Nat → Nat → Prop} (h : ∀ i j, R i j → j ≤ M) {i j : Nat} (hs : Str N R i j) : i ≤ M → j ≤ M := by
  induction hs with
  | nil i hi => exact id
  | cons i k j h1 _ ih => exact fun _ => ih (h i k h1)
theorem fitP (s : List UInt8) (i j : Nat) : Fit s tAp i j ↔ ∃ k, Fit s (tB 97) i k ∧ Str s.length (Fit s (tB 97)) k j := by
  show (if (6 : Int) = 5 then _ else if (6 : Int) = 6 then _ else _) ↔ _
  rw [if_neg (by decide), if_pos rfl]
theorem fitS (s : List UInt8) (i j : Nat) : Fit s tAbs i j ↔ ∃ k, Fit s (tB 97) i k ∧ Str s.length (Fit s (tB 98)) k j := by
  show (if (3 : Int) = 3 then _ else _) ↔ _
  rw [if_pos rfl]
  simp only [Fit, if_true]
theorem all_baa : AllR [98, 97, 97] tAp 0 [(1, 3)] := by
  have F := fitB [98, 97, 97] 97 (by decide)
  refine .cons 0 (1, 3) _ ⟨by omega, fun k _ h2 j hj => ?_, ?_, fun c hc => (fit_le _ _ _ _ hc).2⟩ (.nil _ (fun k h1 h2 j hj => ?_))
  · obtain rfl : k = 0 := by omega
    obtain ⟨m, hm, _⟩ := (fitP _ _ _).1 hj
    have := ((F _ _).1 hm).1
    revert this
    decide
  · exact (fitP _ _ _).2 ⟨2, (F _ _).2 ⟨by decide, rfl⟩, .cons 2 3 3 ((F _ _).2 ⟨by decide, rfl⟩) (.nil 3 (by decide))⟩
  · have h3 : 3 ≤ k := h1
    obtain ⟨m, hm, _⟩ := (fitP _ _ _).1 hj
    have := ((F _ _).1 hm).1
    rw [List.getElem?_eq_none (by simpa using h3)] at this
    cases this
theorem all_cc : AllR [99, 99] tAbs 0 [] := by
  have F := fitB [99, 99] 97 (by decide)
  refine .nil _ (fun k h1 h2 j hj => ?_)
  obtain ⟨m, hm, _⟩ := (fitS _ _ _).1 hj
  have := ((F _ _).1 hm).1
  have h2' : k ≤ 2 := h2
  rcases (by omega : k = 0 ∨ k = 1 ∨ k = 2) with rfl | rfl | rfl <;> revert this <;> decide
theorem all_ab {l : List (Nat × Nat)} (h : AllR [97, 98] tAbs 0 l) : 0 < l.length := by
  cases h with
  | nil _ hn =>
    exact absurd ((fitS _ _ _).2 ⟨1, (fitB [97, 98] 97 (by decide) 0 1).2 ⟨by decide, rfl⟩, .nil 1 (by decide)⟩) (hn 0 (Nat.le_refl _) (Nat.zero_le _) 1)
  | cons => simp
theorem cB_only (b : Nat) (hb : b < 256) : (cB b).only = some (UInt8.ofNat b) := by
  have e : (List.range 256).filter (cB b).has = [b] := by
    have e1 : (List.range 256).filter (cB b).has = (List.range 256).filter (fun i => decide (b = i)) := by
      apply List.filter_congr
      intro i hi
      exact cB_has b hb i (List.mem_range.1 hi)
    rw [e1]
    have key : ∀ b, b < 256 → (List.range 256).filter (fun i => decide (b = i)) = [b] := by decide
    exact key b hb
  unfold C4.only
  rw [e]
  rfl
theorem ned_abs : tAbs.ned = [97] := by
  have h1 : (tB 97).whl = some [97] := by
    simp [Rx.whl, cB_only]
  have h2 : tAbs.whl = none := by
    show (if (3 : Int) = 3 then (tB 97).whl.bind (fun x => (none : Option (List UInt8)).map (fun y => x ++ y)) else none) = none
    rw [if_pos rfl, h1]
    rfl
  have h3 : (tB 97).ned = [97] := by
    show ((tB 97).whl).getD [] = [97]
    rw [h1]
    rfl
  have h4 : (Rx.one ⟨5, z4⟩ (tB 98)).ned = [] := rfl
  unfold tAbs Rx.ned
  rw [h2]
  show (if (3 : Int) = 3 then longer (tB 97).ned (Rx.one ⟨5, z4⟩ (tB 98)).ned else []) = [97]
  rw [if_pos rfl, h3, h4]
  rfl
theorem not_cc (x : List UInt8) (hx : x = [97]) : ¬ Stnd x [99, 99] := by
  subst hx
  rintro ⟨i, h1, h2⟩
  have h1' : i + 1 ≤ 2 := h1
  rcases (by omega : i = 0 ∨ i = 1) with rfl | rfl <;> revert h2 <;> decide
end Go.Proofs.YtejbififfceamaaGreatDoor
namespace Go.Proofs.YtejbififfceamaaGreatDoor
set_option linter.unusedSimpArgs false
set_option linter.unusedVariables false
set_option maxRecDepth 100000
open Go.RowKit
/-- The law's own set: a+. -/
def mAp : Mbr := ⟨1, ⟨#[97, 43]⟩, tAp⟩
theorem ap_len : ¬ 60 < tAp.flat.length := by simp [Rx.flat]
theorem add_ap : AddR set0 ⟨#[97, 43]⟩ 1 0 0 ⟨[mAp], 1, false, 0⟩ := .ok tAp (by decide) read_ap ap_len (by simp [set0])
theorem scan_baa : ∃ σ, ScanR ⟨[mAp], 1, false, 0⟩ ⟨#[98, 97, 97]⟩ 0 [(1, 1, 3)] σ := ⟨_, .ok _ (by decide) (AllsR.one mAp all_baa)⟩
theorem HtIn.one {w : World} {v : Value} {x : Nat × Nat × Nat} (h : HtIn w v [x]) : ∃ b off cap, v = .slice (some ⟨b, off, none⟩) 1 cap ∧ w.cell? ⟨b, off, none⟩ = some (.int .i64 (x.1 : Int)) ∧ w.cell? ⟨b, off + 1, none⟩ = some (.int .i64 (x.2.1 : Int)) ∧ w.cell? ⟨b, off + 2, none⟩ = some (.int .i64 (x.2.2 : Int)) := by
  obtain ⟨a, cap, rfl, _, h | ⟨b, off, rfl, _, hat⟩⟩ := h
  · cases h
  · obtain ⟨h0, h1, h2⟩ := hat 0 x rfl
    exact ⟨b, off, cap, rfl, by simpa using h0, by simpa using h1, by simpa using h2⟩
theorem items_atL {σ : SetS} {i : Nat} {m : Mbr} (h : σ.ms[i]? = some m) : σ.items[i]? = some (m.id, m.text) := by
  unfold SetS.items
  rw [List.getElem?_map, h]
  rfl
/-- What is added behind all is greater than all. -/
theorem add_more {σ σ' : SetS} {s : ByteArray} {n : Nat} {k e : Int} (h : AddR σ s n k e σ') : ¬ e = 0 ∨ (e = 0 ∧ n = σ.last + 1) := by
  cases h with
  | bad ms k e _ h => exact Or.inl h
  | full => exact Or.inl (by decide)
  | ok => exact Or.inr ⟨rfl, rfl⟩
/-- Between two rounds: of the first i patterns all is told. -/
structure AlI (Sv : (Nat → Prop) → World → Value → SetS → Prop) (w : World) (u : Value) (F0 : Nat → Prop) (w0 : World) (F : Nat → Prop) (σ : SetS) (t : ByteArray) (xv iv : Value) (hits L r : List (Nat × Nat × Nat)) (i : Nat) (wr : World) : Prop where
  c : Came Sv w u F0 w0 30 F σ wr
  x : HtIn wr xv hits
  it : ItIn wr iv σ.items
  parts : hits = L ++ r
  rest : AllsR t.data.toList (σ.ms.drop i) r
theorem AlI.below {X : World → Prop} {Sv : (Nat → Prop) → World → Value → SetS → Prop} (S : SetC X Sv) {w : World} {u : Value} {F0 : Nat → Prop} {w0 : World} {F : Nat → Prop} {σ : SetS} {t : ByteArray} {xv iv : Value} {hits L r : List (Nat × Nat × Nat)} {i : Nat} {wr w' : World} (h : AlI Sv w u F0 w0 F σ t xv iv hits L r i wr) (hb : Below wr.heap.size wr w') : AlI Sv w u F0 w0 F σ t xv iv hits L r i w' :=
  ⟨h.c.below S hb, h.x.below hb, h.it.below hb, h.parts, h.rest⟩
set_option maxHeartbeats 8000000 in
theorem setAlone_any {X : World → Prop} {Sv : (Nat → Prop) → World → Value → SetS → Prop} (hXb : Lasts X) (S : SetC X Sv) (R : SynR) (A : FindL X) (l : List Stp3) (v : Value) (t : ByteArray) (ht : t.size ≤ maxLen) (w : World) (hX : X w) (hL : PlIn w v l) (wL : ∀ n ∈ l, n.wf) :
    Calls Tryz.prog 4 #[v, .string t] w fun e w' => e = .returned (.bool true) ∧ Below w.heap.size w w' := by
  have HXb := hid hXb
  have HS := hid S
  have HX := hid hX
  have HPA := hid R.parse
  have HFA := hid A.all
  have HPL : Hid (∀ u w' F, Sv F w' u set0 → (∀ k, F k → w.heap.size ≤ k) → Below w.heap.size w w' → _) := fun u w' F hs lo hb => play_any hXb S l v u w w' hX hL wL F set0 hs set0_ok (by simp [set0]) lo hb
  obtain ⟨va, vc, rfl, vm, -⟩ := hL
  have CN : Hid (∀ w', Below w.heap.size w w' → _) := fun w' hb => S.new w' (hXb w w' hX hb)
  clear hXb S hX wL R A
  go_enter Tryz.func4, Tryz.ntmps4
  go_wp2_with fail
  refine Calls.mono (CN.out w (Below.refl _ _)) ?_
  rintro e w1 ⟨z, F1, rfl, hs1, hb1, hF1⟩
  have HC1 : Hid (Came Sv w z F1 w1 0 F1 set0 w1) := Came.refl hs1 set0_ok hF1 hb1
  clear hs1 hb1 hF1
  have CA := hid (HS.out.add F1 w1 z set0 ⟨#[97, 43]⟩ 1 0 0 _ (HXb.out _ _ HX.out HC1.out.b) HC1.out.s set0_ok (by simp [set0]) (by decide) add_ap)
  rw [show errV 0 = .nilIface from rfl] at CA
  go_wp2_with fail
  refine Calls.mono CA.out ?_
  rintro e w2 ⟨rfl, F2, hs, hb, ho⟩
  have HC2 := hid (HC1.out.turn (m := 1) hs hb ho (add_ap.isOk set0_ok) (Nat.le_refl _))
  clear hs hb ho CA
  obtain ⟨σb, hsb⟩ := scan_baa
  have CS := hid (HS.out.scan F2 w2 z _ ⟨#[98, 97, 97]⟩ 0 _ _ (HXb.out _ _ HX.out HC2.out.b) HC2.out.s HC2.out.ok (by decide) hsb)
  rw [show errV 0 = .nilIface from rfl] at CS
  clear hsb
  go_wp2_with fail
  refine Calls.mono CS.out ?_
  rintro e w3 ⟨v3, rfl, F3, ⟨hs, hh⟩, hb, ho⟩
  obtain ⟨hb3, ho3, hc3, rfl, p0, p1, p2⟩ := hh.isIn.one
  have HB3 : Hid (Below w.heap.size w w3) := HC2.out.b.trans (hb.to HC2.out.b.size HC2.out.lo)
  clear hs hb ho CS hh HC1 HC2
  go_wp2_with fail
  refine Calls.mono (CN.out w3 HB3.out) ?_
  rintro e w7 ⟨s, F7, rfl, hs7, hb7, hF7⟩
  have HB7 : Hid (Below w.heap.size w w7) := HB3.out.trans (hb7.mono HB3.out.size)
  have CP := hid (HPL.out s w7 F7 hs7 (fun k hk => Nat.le_trans HB3.out.size (hF7 k hk)) HB7.out)
  clear hs7 hb7 hF7 CN HPL HB3
  go_wp2_with fail
  refine Calls.mono CP.out ?_
  rintro e w8 ⟨rfl, F8, σ8, hc8⟩
  have HC8 := hid hc8
  clear hc8 CP HB7 p0 p1 p2
  rcases scan_case σ8 t with ⟨hits, σA, hscA, hms, hlastA, -⟩ | h4
  · have CS := hid (HS.out.scan F8 w8 s _ t 0 hits σA (HXb.out _ _ HX.out HC8.out.b) HC8.out.s HC8.out.ok ht hscA)
    rw [show errV 0 = .nilIface from rfl] at CS
    go_wp2_with fail
    refine Calls.mono CS.out ?_
    rintro e wA ⟨vA, rfl, FA, ⟨hs, hh⟩, hb, ho⟩
    have HCA := hid (HC8.out.turn (m := 30) hs hb ho (hscA.isOk HC8.out.ok) (by rw [hlastA]; have := HC8.out.last; simp [set0] at this; exact this))
    have HHA := hid hh.isIn
    obtain ⟨h400, hals⟩ : t.size ≤ 400 ∧ AllsR t.data.toList σA.ms hits := by
      rw [hms]
      cases hscA with
      | ok _ h1 h2 => exact ⟨h1, h2⟩
    have HAL := hid hals
    clear hs hb ho CS hh hscA hms HC8 hlastA hals
    have CL := hid (HS.out.list FA wA s _ (HXb.out _ _ HX.out HCA.out.b) HCA.out.s HCA.out.ok)
    go_wp2_with fail
    refine Calls.mono CL.out ?_
    rintro e wB ⟨iv, rfl, hi, hb⟩
    have HI0 : Hid (AlI Sv w s F7 w7 FA σA t vA iv hits [] hits 0 wB) := ⟨HCA.out.below HS.out hb, HHA.out.below hb, hi, rfl, by rw [List.drop_zero]; exact HAL.out⟩
    clear hb CL hi HCA HHA HAL
    go_wp2_with fail
    go_loopw [15, 16] (fun kv v wr => ∃ (i : Nat) (L r : List (Nat × Nat × Nat)), i ≤ σA.ms.length ∧ kv = .int .i64 (L.length : Int) ∧ v = .int .i64 (i : Int) ∧ Hid (AlI Sv w s F7 w7 FA σA t vA iv hits L r i wr)) (fun _ v _ => σA.ms.length - (intOf v).toNat)
    case atStart => exact ⟨0, [], hits, by omega, rfl, rfl, HI0⟩
    case round =>
      clear HI0
      obtain ⟨i, L, r, hi, rfl, rfl, HA⟩ := hrel
      obtain ⟨ia, ic, hiv, him, hic⟩ := HA.out.it
      rw [items_lenF] at hiv
      by_cases hil : i < σA.ms.length
      · obtain ⟨m, hm⟩ : ∃ m, σA.ms[i]? = some m := ⟨σA.ms[i], List.getElem?_eq_getElem hil⟩
        have i0 : (0 : Int) ≤ (i : Int) := by omega
        have i1 : (i : Int) < (σA.ms.length : Int) := by omega
        have h12 := HA.out.c.ok.len
        have hmk := (HA.out.c.ok.each m (List.mem_of_getElem? hm)).1
        obtain ⟨bi, oi, hia, hbi, hit⟩ : ∃ b off, ia = some ⟨b, off, none⟩ ∧ b < wr.heap.size ∧ ItAt wr b off σA.items := by
          rcases hic with h | h
          · have := items_lenF σA
            rw [h] at this
            simp at this
            omega
          · exact h
        subst hia
        subst hiv
        obtain ⟨c0, c1⟩ := hit i _ (items_atL hm)
        have k0 : ¬ (m.id : Int) < 1 := by have := hmk.1; omega
        have k1 : decide ((m.id : Int) < 1) = false := by rw [decide_eq_false_iff_not]; exact k0
        have k2 : ¬ m.id = 0 := by have := hmk.1; omega
        have k3 : decide (m.id < 1) = false := by rw [decide_eq_false_iff_not]; have := hmk.1; omega
        have k4 : decide (m.id = 0) = false := by rw [decide_eq_false_iff_not]; exact k2
        have CP := hid (HPA.out m.text wr m.pat.flat 0 0 (by have := hmk.2.1; unfold maxLen; omega) (.ok m.pat hmk.2.1 hmk.2.2.1 hmk.2.2.2))
        rw [show errV 0 = .nilIface from rfl] at CP
        have HMK := hid hmk
        have HMM := hid hm
        have HIT := hid hit
        have HRI : Hid (HA.out.c.ok.rise = HA.out.c.ok.rise) := rfl
        rcases Nat.eq_zero_or_pos i with hz | hz
        case' inl =>
          have hq0 : decide ((i : Int) > 0) = false := by rw [decide_eq_false_iff_not]; omega
          have hq1 : ¬ (i : Int) > 0 := by omega
          have hq4 : decide (0 < i) = false := by rw [decide_eq_false_iff_not]; omega
          clear hic him hmk hm hit hz
          go_wp2_with fail
          go_quiet (fail)
        case' inr =>
          obtain ⟨d, hd⟩ : ∃ d, i = d + 1 := ⟨i - 1, by omega⟩
          obtain ⟨mp, hmp⟩ : ∃ mp, σA.ms[d]? = some mp := ⟨σA.ms[d], List.getElem?_eq_getElem (by omega)⟩
          have c2 := (hit d _ (items_atL hmp)).1
          have hlt : mp.id < m.id := by
            have hr := HA.out.c.ok.rise
            rw [List.pairwise_iff_getElem] at hr
            have h1 := hr d i (by omega) hil (by omega)
            rw [List.getElem?_eq_getElem (by omega)] at hmp hm
            rw [Option.some.inj hmp, Option.some.inj hm] at h1
            exact h1
          have hq0 : decide ((i : Int) > 0) = true := by rw [decide_eq_true_iff]; omega
          have hq1 : (i : Int) > 0 := by omega
          have hq4 : decide (0 < i) = true := by rw [decide_eq_true_iff]; omega
          have hq5 : decide (m.id ≤ mp.id) = false := by rw [decide_eq_false_iff_not]; omega
          have hw : IntKind.i64.wrap ((i : Int) - 1) = (d : Int) := by rw [IntKind.wrap_i64]; omega
          have hq2 : ¬ (m.id : Int) ≤ (mp.id : Int) := by omega
          have hq3 : decide ((m.id : Int) ≤ (mp.id : Int)) = false := by rw [decide_eq_false_iff_not]; exact hq2
          have d0 : (0 : Int) ≤ (d : Int) := by omega
          have d1 : (d : Int) < (σA.ms.length : Int) := by omega
          clear hic him hmk hm hit hz hd hmp hlt
          go_wp2_with fail
          go_quiet (fail)
        all_goals
          have hbn := below_drewN' wr nq
          have HA2 := hid (HA.out.below HS.out hbn)
          have c1' := (World.cell?_of_block (a := ⟨bi, oi + i * 2 + 1, none⟩) (hbn.block bi hbi)).trans c1
          generalize wr.drewN nq = wq at *
          have CP2 := hid (HPA.out m.text wq m.pat.flat 0 0 (by have := HMK.out.2.1; unfold maxLen; omega) (.ok m.pat HMK.out.2.1 HMK.out.2.2.1 HMK.out.2.2.2))
          rw [show errV 0 = .nilIface from rfl] at CP2
          clear CP hbn HA HIT
          go_wp2_with fail
          refine Calls.mono CP2.out ?_
          rintro e w3 ⟨u3, rfl, hb3', hN3⟩
          have HA3 := hid (HA2.out.below HS.out hb3')
          obtain ⟨ls, rr, hls, hrr, hre⟩ : ∃ l rr, AllR t.data.toList m.pat 0 l ∧ AllsR t.data.toList (σA.ms.drop (i + 1)) rr ∧ r = l.map (fun x => (m.id, x.1, x.2)) ++ rr := by
            have hr := HA3.out.rest
            have e : σA.ms.drop i = m :: σA.ms.drop (i + 1) := by
              rw [List.drop_eq_getElem_cons hil]
              have hm := HMM.out
              rw [List.getElem?_eq_getElem hil] at hm
              rw [Option.some.inj hm]
            rw [e] at hr
            cases hr with
            | cons _ _ l h h1 h2 => exact ⟨l, h, h1, h2, rfl⟩
          have hgd := HMK.out.good
          have CF := hid (HFA.out m.pat u3 t ls w3 (HXb.out _ _ HX.out HA3.out.c.b) HMK.out.isOk hN3 (fun n hn => good_wf (good_nodes _ hgd n hn)) ((meanF_zero _ _).2 ⟨HMK.out.fault, h400⟩) hls)
          obtain ⟨a3, cc3, hu3, -⟩ := hN3
          subst hu3
          have HRR := hid hrr
          have HRE := hid hre
          clear hls hrr hre hb3' CP2 HA2
          go_wp2_with fail
          refine Calls.mono CF.out ?_
          rintro e w4 ⟨u4, rfl, hb4, hs4⟩
          have HA4 := hid (HA3.out.below HS.out hb4)
          have HS4 := hid hs4
          obtain ⟨sa, sc, hsv, hsm, -⟩ := hs4
          obtain ⟨xa, xc, hxv, hxm, -⟩ := HA4.out.x
          subst hsv
          subst hxv
          have hhl : hits.length = L.length + (ls.length + rr.length) := by
            rw [HA4.out.parts, HRE.out]
            simp
          have HB4 : Hid (Below w4.heap.size w4 w4) := Below.refl _ _
          unfold maxLen at hxm hsm
          have HHL := hid hhl
          clear hb4 HA3 CF hhl
          go_wp2_with fail
          have HIT4 := hid (And.intro HMM.out HA4.out.it)
          go_loopw [15, 21] (fun kv v wz => ∃ j q : Nat, j ≤ ls.length ∧ Hid (q = L.length + j) ∧ kv = .int .i64 (q : Int) ∧ v = .int .i64 (j : Int) ∧ Hid (Below w4.heap.size w4 wz)) (fun _ v _ => ls.length - (intOf v).toNat)
          case atStart => exact ⟨0, L.length, by omega, rfl, rfl, rfl, HB4⟩
          case round =>
            clear HB4
            obtain ⟨j, q, hj, HQ, rfl, rfl, HB⟩ := hrel
            by_cases hjl : j < ls.length
            · obtain ⟨p, hp⟩ : ∃ p, ls[j]? = some p := ⟨ls[j], List.getElem?_eq_getElem hjl⟩
              obtain ⟨pa, pb⟩ := p
              have hq := HQ.out
              have hhq : hits[q]? = some (m.id, pa, pb) := by
                rw [HA4.out.parts, HRE.out, hq, List.getElem?_append_right (by omega), Nat.add_sub_cancel_left, List.getElem?_append_left (by simpa using hjl), List.getElem?_map, hp]
                rfl
              obtain ⟨bh, oh, hxa, hbh, hha⟩ : ∃ b off, xa = some ⟨b, off, none⟩ ∧ b < w4.heap.size ∧ HtAt w4 b off hits := by
                obtain ⟨a', c', e, _, h | ⟨b, off, h1, h2, h3⟩⟩ := HA4.out.x
                · rw [h] at hhq; simp at hhq
                · injection e with e1 e2 e3
                  exact ⟨b, off, by rw [e1, h1], h2, h3⟩
              obtain ⟨bs, os, hsa, hbs, hss⟩ : ∃ b off, sa = some ⟨b, off, none⟩ ∧ b < w4.heap.size ∧ SpAt w4 b off ls := by
                obtain ⟨a', c', e, _, h | ⟨b, off, h1, h2, h3⟩⟩ := HS4.out
                · rw [h] at hp; simp at hp
                · injection e with e1 e2 e3
                  exact ⟨b, off, by rw [e1, h1], h2, h3⟩
              subst hxa
              subst hsa
              obtain ⟨x0, x1, x2⟩ := (hha.below HB.out hbh) q _ hhq
              obtain ⟨y0, y1⟩ := (hss.below HB.out hbs) j _ hp
              obtain ⟨z0, zlt⟩ : wr.cell? ⟨bi, oi + i * 2, none⟩ = some (.int .i64 (m.id : Int)) ∧ bi < w4.heap.size := by
                obtain ⟨a', c', e, _, h | ⟨b, off, h1, h2, h3⟩⟩ := HIT4.out.2
                · have := items_lenF σA
                  rw [h] at this
                  simp at this
                  omega
                · injection e with e1 e2 e3
                  rw [h1] at e1
                  injection e1 with e1
                  injection e1 with e4 e5
                  subst e4
                  subst e5
                  exact ⟨((h3.below HB.out h2) i _ (items_atL HIT4.out.1)).1, h2⟩
              have q0 : (0 : Int) ≤ (q : Int) := by omega
              have hhl := HHL.out
              have q1 : (q : Int) < (hits.length : Int) := by rw [hhl]; omega
              have q2 : decide ((q : Int) ≥ (hits.length : Int)) = false := by rw [decide_eq_false_iff_not]; omega
              have q3 : decide (hits.length ≤ q) = false := by rw [decide_eq_false_iff_not]; omega
              have q4 : ¬ (hits.length : Int) ≤ (q : Int) := by omega
              have j0 : (0 : Int) ≤ (j : Int) := by omega
              have j1 : (j : Int) < (ls.length : Int) := by omega
              have he := eqSp
              have wq1 : IntKind.i64.wrap ((q : Int) + 1) = (q : Int) + 1 := by rw [IntKind.wrap_i64]; omega
              have wj1 : IntKind.i64.wrap ((j : Int) + 1) = (j : Int) + 1 := by rw [IntKind.wrap_i64]; omega
              clear hhl
              clear hha hss hhq hp hq
              have HQ2 : Hid (q + 1 = L.length + (j + 1)) := by show _ = _; rw [HQ.out]; omega
              go_wp2_with fail
              go_quiet (fail)
              have HB2 : Hid (Below w4.heap.size w4 (wr.drewN nq)) := HB.out.trans ((below_drewN' wr nq).mono HB.out.size)
              clear HB
              go_wp2
              exact ⟨⟨j + 1, q + 1, by omega, HQ2, by go_num, by go_num, HB2⟩, by simp [intOf]; omega⟩
            · obtain rfl : j = ls.length := by omega
              have j1 : ¬ (ls.length : Int) < (ls.length : Int) := by omega
              have HAN : Hid (AlI Sv w s F7 w7 FA σA t (.slice xa hits.length xc) (.slice (some ⟨bi, oi, none⟩) σA.ms.length ic) hits (L ++ ls.map (fun x => (m.id, x.1, x.2))) rr (i + 1) wr) := by
                have h := HA4.out.below HS.out HB.out
                exact ⟨h.c, h.x, h.it, by rw [h.parts, HRE.out, List.append_assoc], HRR.out⟩
              have HQL : Hid (q = (L ++ ls.map (fun x => (m.id, x.1, x.2))).length) := by show _ = _; rw [HQ.out]; simp
              clear HA4 HB HQ HRE HRR HIT4 HS4
              go_wp2
              go_roundw
              case measure => simp [intOf]; omega
              case rel =>
                exact ⟨i + 1, L ++ ls.map (fun x => (m.id, x.1, x.2)), rr, by omega, by rw [HQL.out], by go_num, HAN⟩
      · subst hiv
        have hlen : i = σA.ms.length := by omega
        have g1 : ¬ (i : Int) < (σA.ms.length : Int) := by omega
        have hL : hits = L := by
          have h := HA.out.rest
          rw [hlen, List.drop_length] at h
          have hp := HA.out.parts
          cases h
          rw [hp, List.append_nil]
        subst hL
        obtain ⟨xa, xc, hxv, -⟩ := HA.out.x.form7
        subst hxv
        obtain ⟨n1, k1, e1, σ1, had⟩ := add_total σA ⟨#[97]⟩
        have CB := hid (HS.out.add FA wr s σA ⟨#[97]⟩ n1 k1 e1 σ1 (HXb.out _ _ HX.out HA.out.c.b) HA.out.c.s HA.out.c.ok (by have := HA.out.c.last; omega) (by decide) had)
        have HMR : Hid (¬ e1 = 0 ∨ (e1 = 0 ∧ n1 = σA.last + 1)) := add_more had
        have HEA : Hid (∀ m ∈ σA.ms, m.id ≤ σA.last) := fun m hm => (HA.out.c.ok.each m hm).2
        have HBW := hid HA.out.c.b
        have HLO := hid HA.out.c.lo
        have HIC := hid hic
        have h12 := HA.out.c.ok.len
        clear had hic him HA
        rcases Nat.eq_zero_or_pos σA.ms.length with hz | hz
        · have g2 : ¬ (σA.ms.length : Int) > 0 := by omega
          rcases HMR.out with he | ⟨he, hn⟩
          · rw [show errV e1 = .iface 32 (.int .i64 e1) by unfold errV; rw [if_neg he]] at CB
            clear HIC
            go_wp2_with fail
            refine Calls.mono CB.out ?_
            rintro e wC ⟨rfl, FC, hs, hb, ho⟩
            have HBC : Hid (Below w.heap.size w wC) := HBW.out.trans (hb.to HBW.out.size HLO.out)
            clear hs hb ho CB
            go_wp2
            go_ret
            exact ⟨rfl, HBC.out⟩
          · subst he
            rw [show errV 0 = .nilIface from rfl] at CB
            have g5 : decide ((0 : Int) < (n1 : Int)) = true := by rw [decide_eq_true_iff]; omega
            have g6 : (0 : Int) < (n1 : Int) := by omega
            have g7 : 0 < n1 := by omega
            have g8 : decide (0 < n1) = true := by rw [decide_eq_true_iff]; omega
            clear HIC hn
            go_wp2_with fail
            refine Calls.mono CB.out ?_
            rintro e wC ⟨rfl, FC, hs, hb, ho⟩
            have HBC : Hid (Below w.heap.size w wC) := HBW.out.trans (hb.to HBW.out.size HLO.out)
            clear hs hb ho CB
            go_wp2
            go_ret
            exact ⟨rfl, HBC.out⟩
        · obtain ⟨d, hd⟩ : ∃ d, σA.ms.length = d + 1 := ⟨σA.ms.length - 1, by omega⟩
          obtain ⟨m, hm⟩ : ∃ m, σA.ms[d]? = some m := ⟨σA.ms[d], List.getElem?_eq_getElem (by omega)⟩
          obtain ⟨bi, oi, rfl, hbi, hit⟩ : ∃ b off, ia = some ⟨b, off, none⟩ ∧ b < wr.heap.size ∧ ItAt wr b off σA.items := by
            rcases HIC.out with h | h
            · have := items_lenF σA
              rw [h] at this
              simp at this
              omega
            · exact h
          have c0 := (hit d _ (items_atL hm)).1
          have g2 : (σA.ms.length : Int) > 0 := by omega
          have hw : IntKind.i64.wrap ((σA.ms.length : Int) - 1) = (d : Int) := by rw [IntKind.wrap_i64]; omega
          have g3 : (0 : Int) ≤ (d : Int) := by omega
          have g4 : (d : Int) < (σA.ms.length : Int) := by omega
          have hml := HEA.out m (List.mem_of_getElem? hm)
          rcases HMR.out with he | ⟨he, hn⟩
          · rw [show errV e1 = .iface 32 (.int .i64 e1) by unfold errV; rw [if_neg he]] at CB
            clear hd hm hit HIC hz
            go_wp2_with fail
            refine Calls.mono CB.out ?_
            rintro e wC ⟨rfl, FC, hs, hb, ho⟩
            have HBC : Hid (Below w.heap.size w wC) := HBW.out.trans (hb.to HBW.out.size HLO.out)
            clear hs hb ho CB
            go_wp2
            go_ret
            exact ⟨rfl, HBC.out⟩
          · subst he
            rw [show errV 0 = .nilIface from rfl] at CB
            have g5 : decide ((m.id : Int) < (n1 : Int)) = true := by rw [decide_eq_true_iff]; omega
            have g6 : (m.id : Int) < (n1 : Int) := by omega
            clear hd hm hit HIC hz hn
            go_wp2_with fail
            refine Calls.mono CB.out ?_
            rintro e wC ⟨rfl, FC, hs, hb, ho⟩
            have HBC : Hid (Below w.heap.size w wC) := HBW.out.trans (hb.to HBW.out.size HLO.out)
            clear hs hb ho CB
            go_wp2
            go_ret
            exact ⟨rfl, HBC.out⟩
  · have CS := hid (HS.out.scan F8 w8 s _ t 3 [] _ (HXb.out _ _ HX.out HC8.out.b) HC8.out.s HC8.out.ok ht (.full h4))
    rw [show errV 3 = .iface 32 (.int .i64 3) from rfl] at CS
    have g4 : (t.size : Int) > 400 := by omega
    go_wp2_with fail
    refine Calls.mono CS.out ?_
    rintro e wA ⟨vA, rfl, FA, ⟨hs, hh⟩, hb, ho⟩
    have HBA : Hid (Below w.heap.size w wA) := HC8.out.b.trans (hb.to HC8.out.b.size HC8.out.lo)
    clear hs hb ho CS hh HC8
    go_wp2
    go_ret
    exact ⟨rfl, HBA.out⟩
end Go.Proofs.YtejbififfceamaaGreatDoor
namespace Go.Proofs.YtejbififfceamaaGreatDoor
set_option linter.unusedSimpArgs false
set_option linter.unusedVariables false
set_option maxRecDepth 100000
open Go.ChangeShapes Go.WideShapes Go.ChangeAt Go.RowKit Go.Deep Go.Joins

theorem cellsPlay : Tryz.prog.cellsOf 31 = 3 := by kernel_rfl
theorem cellsStr : Tryz.prog.cellsOf 9 = 1 := by kernel_rfl
theorem open_play {H : Type} {enc : TypeId × Value → H} {W : World} {base : Nat} {sp : Nat → Bool} {held : Bool} {fuel : Nat} {cs : List Value} {x : DataW H × List MemPlace}
    (h : DataW.trod enc Tryz.prog W base sp held fuel 31 cs = some x) : ∃ n : Stp3, cs = n.cells ∧ n.wf := by
  obtain ⟨y0, y1, y2, k, hxy, hl, u0, u1, u2⟩ := trod_struct3 Tryz.underlying31 h
  rw [cellsPlay] at hl
  match cs, hl with
  | [c0, c1, c2], _ =>
    simp only [cellsInt, cellsStr, List.drop, List.take] at u0 u1 u2
    obtain ⟨q, e0, d0, w⟩ := DataW.trod_int Tryz.underlying3 u0
    obtain ⟨t, e1, d1, ht⟩ := DataW.trod_string Tryz.underlying9 u1
    obtain ⟨p, e2, d2, wp⟩ := DataW.trod_int Tryz.underlying3 u2
    simp only [List.cons.injEq, and_true] at e0 e1 e2
    subst e0 e1 e2
    exact ⟨⟨q, t, p⟩, rfl, w, ht, wp⟩
theorem open_plays {H : Type} {enc : TypeId × Value → H} {W : World} {base : Nat} {sp : Nat → Bool} {held : Bool} {v : Value} {d : DataW H} {p : List MemPlace}
    (hval : Value.okWide Tryz.prog W .any base 22 v) (h : DataW.Trod enc Tryz.prog W 0 sp held 22 v d p) : ∃ ss : List Stp3, PlIn W v ss ∧ ∀ n ∈ ss, n.wf := by
  obtain ⟨a0, len0, cap0, rfl⟩ := okWide_slice Tryz.underlying22 hval
  obtain ⟨fuel, hf⟩ := h
  rcases open_slice Tryz.underlying22 hf with ⟨hc, _⟩ | ⟨a, len, cap, m, n, D, Pl, hc, hb, hl, hm, hmm, _, hx⟩
  · simp [Value.cells] at hc
    obtain ⟨rfl, rfl, rfl⟩ := hc
    exact ⟨[], ⟨none, 0, rfl, by simp, Or.inl rfl⟩, by simp⟩
  · simp [Value.cells] at hc
    obtain ⟨rfl, rfl, rfl⟩ := hc
    have hlm : len0 ≤ m := by rw [hmm]; split <;> omega
    have each : ∀ i, i < len0 → ∃ n : Stp3, W.cells? 0 (a.add (i * 3)) 3 = some n.cells ∧ n.wf := by
      intro i hi
      obtain ⟨cs', h1, h2⟩ := hx i (by omega)
      rw [cellsPlay] at h1
      obtain ⟨n, rfl, hw⟩ := open_play h2
      exact ⟨n, h1, hw⟩
    obtain ⟨q, hq⟩ := choose_lt each
    refine ⟨(List.range len0).map q, ⟨some a, cap0, by simp, by simp; omega, ?_⟩, ?_⟩
    · rcases Nat.eq_zero_or_pos len0 with h0 | h0
      · subst h0; exact Or.inl rfl
      right
      obtain ⟨b, off, spot⟩ := a
      have cells : ∀ i, i < len0 → ∀ j, j < 3 → W.cell? ((⟨b, off, spot⟩ : Addr).add (i * 3 + j)) = (q i).cells[j]? := by
        intro i hi j hj
        obtain ⟨_, _, hcell⟩ := World.cells?_some (hq i hi).1
        have := hcell j hj
        rwa [add_add] at this
      have hspot : spot = none := by
        have := cells 0 h0 0 (by omega)
        simpa [Addr.add, Stp3.cells] using World.cell?_spot this
      subst hspot
      have plain : ∀ k, (⟨b, off, none⟩ : Addr).add k = ⟨b, off + k, none⟩ := by
        intro k
        rcases k with _ | k <;> simp [Addr.add]
      refine ⟨b, off, rfl, ?_, ?_⟩
      · have := cells 0 h0 0 (by omega)
        rw [plain] at this
        rcases Nat.lt_or_ge b W.heap.size with h' | h'
        · exact h'
        · simp [World.cell?, Array.getElem?_eq_none h', Stp3.cells] at this
      · intro i n hn
        have hi : i < len0 := by
          rcases Nat.lt_or_ge i len0 with h' | h'
          · exact h'
          · simp [h'] at hn
        have en : q i = n := by simpa [hi] using hn
        subst en
        have c := cells i hi
        refine ⟨?_, ?_, ?_⟩
        · have := c 0 (by omega); rw [plain] at this; simpa [Nat.add_assoc, Stp3.cells] using this
        · have := c 1 (by omega); rw [plain] at this; simpa [Nat.add_assoc, Stp3.cells] using this
        · have := c 2 (by omega); rw [plain] at this; simpa [Nat.add_assoc, Stp3.cells] using this
    · intro n hn
      obtain ⟨i, hi, rfl⟩ := List.mem_map.1 hn
      exact (hq i (List.mem_range.1 hi)).2
end Go.Proofs.YtejbififfceamaaGreatDoor
