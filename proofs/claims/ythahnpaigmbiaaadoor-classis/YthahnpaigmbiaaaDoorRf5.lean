/- What the document's own functions answer: ClassText, walked. -/
import Derived.Test.YthahnpaigmbiaaaDoorRf4
set_option linter.unusedSimpArgs false
set_option linter.unusedVariables false
namespace Go.Proofs.YthahnpaigmbiaaaDoor
open Go.RowKit

theorem textL_dotR {k : C4} (hk : k.ok) (h1 : (((cnt k.not.has 256 : Nat) : Int) == 1) = true) (h2 : k.has 10 = false) : textL k = [46] := by
  apply textL_dot
  rw [← dot_iff hk, h1, h2]; rfl
theorem not_dotR {k : C4} (hk : k.ok) (h : (((cnt k.not.has 256 : Nat) : Int) == 1) = false ∨ k.has 10 = true) : k.eqb dotC = false := by
  rw [← dot_iff hk]
  rcases h with h | h <;> rw [h] <;> simp
theorem textL_oneR {k : C4} (hk : k.ok) (h : k.eqb dotC = false) (h2 : (((cnt k.has 256 : Nat) : Int) == 1) = true) : textL k = runsL k.has 256 0 := by
  rw [textL_one k h (by rw [many_one hk]; exact h2), runs256, C4.p_eq k hk]
theorem textL_moreR {k : C4} (hk : k.ok) (h : k.eqb dotC = false) (h2 : (((cnt k.has 256 : Nat) : Int) == 1) = false) : textL k = 91 :: (runsL k.has 256 0 ++ [93]) := by
  rw [textL_more k h (by rw [many_one hk]; exact h2), runs256, C4.p_eq k hk]

theorem runsL_succ (p : Nat → Bool) (f i : Nat) : runsL p (f + 1) i = if i < 256 then (if i < rEnd p (256 - i) i then rt i (rEnd p (256 - i) i - 1) else []) ++ runsL p f (rEnd p (256 - i) i + 1) else [] := rfl
theorem runsL_fuel (p : Nat → Bool) : ∀ (f i : Nat), 256 ≤ f + i → runsL p (f + 1) i = runsL p f i
  | 0, i, h => by rw [runsL_succ, if_neg (by omega)]; rfl
  | f + 1, i, h => by
    have hle := rEnd_le p (256 - i) i
    rw [runsL_succ p (f + 1) i, runsL_succ p f i]
    split
    · rw [runsL_fuel p f _ (by omega)]
    · rfl
theorem count_ex (k : C4) (hk : k.ok) (w : World) :
    Calls Tryd.prog 12 #[k.v] w fun e w' => ∃ c : Nat, e = .returned (.int .i64 c) ∧ Hid (c = cnt k.has 256) ∧ c ≤ 256 ∧ Below w.heap.size w w' := by
  refine (count_any k hk w).mono ?_
  rintro e w' ⟨rfl, hb⟩
  exact ⟨cnt k.has 256, rfl, Eq.refl _, cnt_le _ _, hb⟩
theorem byteTextR_sub (j : Nat) (h0 : 0 < j) (h : j ≤ 256) (w : World) :
    Calls Tryd.prog 25 #[.int .i64 ((j : Int) - 1)] w fun e w' => e = .returned (.string ⟨(bt (j - 1)).toArray⟩) ∧ Below w.heap.size w w' := by
  have h1 := byteTextR_any (j - 1) (by omega) w
  have e : ((j - 1 : Nat) : Int) = (j : Int) - 1 := by omega
  rw [e] at h1
  exact h1
/-- What stands at the loop's head: the text so far, and what is left. -/
def CtInv (k : C4) (w : World) (i : Nat) (acc : List UInt8) (wr : World) : Prop :=
  i ≤ 256 ∧ acc.length ≤ 9 * i ∧ (∃ f, 256 ≤ f + i ∧ acc ++ runsL k.has (f + 1) i = runsL k.has 256 0) ∧ (cnt k.has 256 = 1 → acc = []) ∧ Below w.heap.size w wr ∧ Hb wr w.heap.size k
theorem CtInv.start (k : C4) (w wr : World) (h5 : Below w.heap.size w wr) (h6 : Hb wr w.heap.size k) : CtInv k w 0 [] wr :=
  ⟨by omega, by simp, ⟨256, by omega, by rw [List.nil_append]; exact runsL_fuel k.has 256 0 (by omega)⟩, fun _ => rfl, h5, h6⟩
theorem CtInv.no {k : C4} {w wr w1 : World} {i : Nat} {acc : List UInt8} (h : CtInv k w i acc wr) (hi : i < 256) (hn : k.has i = false) (hb : Below wr.heap.size wr w1) : CtInv k w (i + 1) acc w1 := by
  obtain ⟨h1, h2, ⟨f, hf, ht⟩, h4, h5, h6⟩ := h
  obtain ⟨f, rfl⟩ : ∃ g, f = g + 1 := ⟨f - 1, by omega⟩
  refine ⟨by omega, by omega, ⟨f, by omega, ?_⟩, h4, h5.trans (hb.mono h5.size), h6.below hb h6.lt⟩
  rw [← runsL_no k.has (f + 1) i hi hn]
  exact ht
theorem CtInv.yes {k : C4} {w wr w1 : World} {i en : Nat} {acc : List UInt8} (h : CtInv k w i acc wr) (hi : i < 256) (he : rEnd k.has (256 - i) i = en) (hlt : i < en) (hen : en ≤ 256) (hc : ¬ cnt k.has 256 = 1) (hb : Below w.heap.size w w1) (hK : Hb w1 w.heap.size k) : CtInv k w en (acc ++ rt i (en - 1)) w1 := by
  obtain ⟨h1, h2, ⟨f, hf, ht⟩, h4, h5, h6⟩ := h
  have hl := rt_len i (en - 1)
  refine ⟨hen, by simp; omega, ⟨f, by omega, ?_⟩, fun h => absurd h hc, hb, hK⟩
  rw [List.append_assoc, ← runsL_yes k.has f i en hi he hlt]
  exact ht
theorem CtInv.single {k : C4} {w wr : World} {i : Nat} {acc : List UInt8} (h : CtInv k w i acc wr) (hi : i < 256) (hc : cnt k.has 256 = 1) (hp : k.has i = true) : runsL k.has 256 0 = bt i := by
  obtain ⟨h1, h2, ⟨f, hf, ht⟩, h4, h5, h6⟩ := h
  rw [← ht, h4 hc, List.nil_append, one_run k.has f i hi hc hp]
theorem CtInv.fin {k : C4} {w wr : World} {acc : List UInt8} (h : CtInv k w 256 acc wr) : runsL k.has 256 0 = acc := by
  obtain ⟨h1, h2, ⟨f, hf, ht⟩, h4, h5, h6⟩ := h
  rw [← ht, runsL, if_neg (by omega), List.append_nil]
theorem CtInv.noSingle {k : C4} {w wr : World} {acc : List UInt8} (h : CtInv k w 256 acc wr) : ¬ cnt k.has 256 = 1 := by
  intro hc
  have h1 := h.fin
  have h2 : acc = [] := h.2.2.2.1 hc
  rw [h2] at h1
  have ⟨i, hi, hp⟩ : ∃ i, i < 256 ∧ k.has i = true := by
    by_cases e : ∃ i, i < 256 ∧ k.has i = true
    · exact e
    · exfalso
      have : cnt k.has 256 = cnt (fun _ => false) 256 := by
        apply cnt_congr
        intro i hi
        cases hp : k.has i
        · rfl
        · exact absurd ⟨i, hi, hp⟩ e
      have h0 : ∀ n, cnt (fun _ => false) n = 0 := by
        intro n
        induction n with
        | zero => rfl
        | succ n ih => rw [cnt, ih]; rfl
      rw [this, h0] at hc
      omega
  have := dec_runs k.has i 256 0 512 (by omega) (by omega)
  rw [h1, dec_nil, hp] at this
  simp [hi] at this

set_option maxHeartbeats 1000000 in
set_option maxRecDepth 100000 in
theorem classText_dot (k : C4) (hk : k.ok) (h1 : (((cnt k.not.has 256 : Nat) : Int) == 1) = true) (h2 : k.has 10 = false) (w : World) :
    Calls Tryd.prog 14 #[k.v] w fun e w' => e = .returned (.string ⟨(textL k).toArray⟩) ∧ Below w.heap.size w w' := by
  have HT : Hid _ := textL_dotR hk h1 h2
  go_enter Tryd.func14, Tryd.ntmps14
  go_wp2_with fail
  refine (count_any k hk _).mono ?_
  rintro e w1 ⟨rfl, hb1⟩
  have hK1 := (Hb.new w k _ rfl).below hb1 (Hb.new w k _ rfl).lt
  have hB1 : Below w.heap.size w w1 := ((Below.refl _ _).alloc (Nat.le_refl _) _).trans (hb1.mono (by simp))
  obtain ⟨c0, c1, c2, c3, e0, e1, e2, e3⟩ := hK1.all
  go_wp2_with fail
  refine (others_any k hk _).mono ?_
  rintro e w2 ⟨rfl, hb2⟩
  have hK2 := hK1.below hb2 hK1.lt
  have hB2 := hB1.trans (hb2.mono hB1.size)
  go_wp2_with fail
  refine (count_any k.not (C4.not_ok hk) _).mono ?_
  rintro e w3 ⟨rfl, hb3⟩
  have hK3 := hK2.below hb3 hK2.lt
  have hB3 := hB2.trans (hb3.mono hB2.size)
  clear c0 c1 c2 c3 e0 e1 e2 e3
  obtain ⟨c0, c1, c2, c3, e0, e1, e2, e3⟩ := hK3.all
  go_wp2_with fail
  refine (in_any k hk 10 (by decide) _).mono ?_
  rintro e w4 ⟨rfl, hb4⟩
  have hB4 := hB3.trans (hb4.mono hB3.size)
  go_wp2
  go_ret
  exact ⟨ret_str (by rw [HT.out]), hB4⟩
set_option maxHeartbeats 4000000 in
set_option maxRecDepth 100000 in
theorem classText_loop (k : C4) (hk : k.ok) (h1 : k.eqb dotC = false) (w : World) (hq : ((((cnt k.not.has 256 : Nat) : Int) == 1) = true ∧ k.has 10 = true) ∨ (((cnt k.not.has 256 : Nat) : Int) == 1) = false) :
    Calls Tryd.prog 14 #[k.v] w fun e w' => e = .returned (.string ⟨(textL k).toArray⟩) ∧ Below w.heap.size w w' := by
  have H1 := (show Hid _ from h1)
  have HQ := (show Hid _ from hq)
  clear h1 hq
  go_enter Tryd.func14, Tryd.ntmps14
  go_wp2_with fail
  refine (count_ex k hk _).mono ?_
  rintro e w1 ⟨cc, rfl, HC, hcc, hb1⟩
  have hK1 := (Hb.new w k _ rfl).below hb1 (Hb.new w k _ rfl).lt
  have hB1 : Below w.heap.size w w1 := ((Below.refl _ _).alloc (Nat.le_refl _) _).trans (hb1.mono (by simp))
  obtain ⟨c0, c1, c2, c3, e0, e1, e2, e3⟩ := hK1.all
  go_wp2_with fail
  refine (others_any k hk _).mono ?_
  rintro e w2 ⟨rfl, hb2⟩
  have hK2 := hK1.below hb2 hK1.lt
  have hB2 := hB1.trans (hb2.mono hB1.size)
  go_wp2_with fail
  refine (count_ex k.not (C4.not_ok hk) _).mono ?_
  rintro e w3 ⟨cd, rfl, HD, hcd, hb3⟩
  have hK3 := hK2.below hb3 hK2.lt
  have hB3 := hB2.trans (hb3.mono hB2.size)
  clear c0 c1 c2 c3 e0 e1 e2 e3
  obtain ⟨c0, c1, c2, c3, e0, e1, e2, e3⟩ := hK3.all
  go_wp2_with fail
  refine (in_any k hk 10 (by decide) _).mono ?_
  rintro e w4 ⟨rfl, hb4⟩
  have hK4 := hK3.below hb4 hK3.lt
  have hB4 := hB3.trans (hb4.mono hB3.size)
  clear c0 c1 c2 c3 e0 e1 e2 e3 hK1 hK2 hK3 hB1 hB2 hB3 hb1 hb2 hb3 hb4
  have HI : Hid (CtInv k w 0 [] w4) := CtInv.start k w w4 hB4 hK4
  clear hB4 hK4
  have hq : (((cd : Int) == 1) = true ∧ k.has 10 = true) ∨ ((cd : Int) == 1) = false := by rw [HD.out]; exact HQ.out
  clear HQ HD
  rcases hq with ⟨hq1, hq2⟩ | hq1
  all_goals
    go_wp2_with fail
    go_loopw [6, 7] (fun s v wr => ∃ (i : Nat) (acc : List UInt8), i ≤ 256 ∧ acc.length ≤ 2304 ∧ v = .int .i64 i ∧ s = .string ⟨acc.toArray⟩ ∧ Hid (CtInv k w i acc wr)) (fun _ v _ => 256 - (intOf v).toNat)
    case atStart => exact ⟨0, [], by omega, by simp, rfl, rfl, HI⟩
    case round =>
      obtain ⟨i, acc, hi, hal, rfl, rfl, HV⟩ := hrel
      have hK := HV.out.2.2.2.2.2
      have hB := HV.out.2.2.2.2.1
      obtain ⟨c0, c1, c2, c3, e0, e1, e2, e3⟩ := hK.all
      by_cases hlt : i < 256
      · have i1 : (i : Int) < 256 := by omega
        go_wp2_with fail
        refine (in_any k hk i hlt _).mono ?_
        rintro e w5 ⟨rfl, hb5⟩
        cases hn : k.has i
        · have HV2 : Hid _ := CtInv.no HV.out hlt hn hb5
          go_wp2
          exact ⟨⟨i + 1, acc, by omega, by omega, by go_num, rfl, HV2⟩, by simp [intOf]; omega⟩
        · have hK5 := hK.below hb5 hK.lt
          have hB5 := hB.trans (hb5.mono hB.size)
          clear c0 c1 c2 c3 e0 e1 e2 e3
          go_wp2_with fail
          go_loopw [7] (fun v wr => ∃ j : Nat, i ≤ j ∧ j ≤ 256 ∧ (j = i ∨ i < j) ∧ v = .int .i64 j ∧ Hid (rEnd k.has (256 - j) j = rEnd k.has (256 - i) i) ∧ Hid (Below w.heap.size w wr) ∧ Hid (Hb wr w.heap.size k)) (fun v _ => 256 - (intOf v).toNat)
          case atStart => exact ⟨i, by omega, by omega, Or.inl rfl, rfl, Eq.refl _, hB5, hK5⟩
          case round =>
            obtain ⟨j, hij, hj, hor, rfl, HE, HBr, HKr⟩ := hrel
            have hlb := bt_len i
            have hlb2 := bt_len (j - 1)
            obtain ⟨c0, c1, c2, c3, e0, e1, e2, e3⟩ := HKr.out.all
            by_cases hjl : j < 256
            · have j1 : (j : Int) < 256 := by omega
              go_wp2_with fail
              refine (in_any k hk j hjl _).mono ?_
              rintro e w6 ⟨rfl, hb6⟩
              have hB6 := HBr.out.trans (hb6.mono HBr.out.size)
              have hK6 := HKr.out.below hb6 HKr.out.lt
              cases hn2 : k.has j
              · have HEJ : Hid (rEnd k.has (256 - i) i = j) := by
                  show _ = _
                  rw [← HE.out, rEnd_no k.has j hjl hn2]
                have hij2 : i < j := by
                  rcases hor with h | h
                  · rw [h, hn] at hn2; cases hn2
                  · exact h
                have HEn : Hid (rEnd k.has (256 - i) i = j) := HEJ
                by_cases hc1 : cc = 1
                · have hc1b : ((cc : Int) == 1) = true := by simp [hc1]
                  have HX : Hid (textL k = bt i) := by
                    show _ = _
                    rw [textL_oneR hk H1.out (by rw [← HC.out]; exact hc1b)]
                    exact CtInv.single HV.out hlt (by rw [← HC.out]; exact hc1) hn
                  clear hc1
                  go_wp2_with fail
                  refine (byteTextR_any i hlt _).mono ?_
                  rintro e w7 ⟨rfl, hb7⟩
                  go_wp2
                  go_ret
                  exact ⟨ret_str (by rw [HX.out]), (hB6).trans (hb7.mono (hB6).size)⟩
                · have hc1b : ((cc : Int) == 1) = false := by simp; omega
                  have HV3 : Hid (∀ w' : World, Below w.heap.size w w' → Hb w' w.heap.size k → CtInv k w j (acc ++ rt i (j - 1)) w') := fun w' hb' hK' => CtInv.yes HV.out hlt HEn.out (by omega) (by omega) (by rw [← HC.out]; exact hc1) hb' hK'
                  have hacc : (acc ++ rt i (j - 1)).length ≤ 2304 := by
                    have h1 := (HV3.out _ (hB6) (hK6)).2.1
                    omega
                  clear hc1
                  go_wp2_with fail
                  refine (byteTextR_any i hlt _).mono ?_
                  rintro e w7 ⟨rfl, hb7⟩
                  have hB7 : Hid (Below w.heap.size w w7) := (hB6).trans (hb7.mono (hB6).size)
                  have hK7 : Hid (Hb w7 w.heap.size k) := (hK6).below hb7 (hK6).lt
                  by_cases d1 : j = i + 1
                  · have t1 : ¬ (2 : Int) < (j : Int) - (i : Int) := by omega
                    have t2 : ¬ (1 : Int) < (j : Int) - (i : Int) := by omega
                    have D1 := (show Hid _ from d1)
                    clear d1
                    go_wp2
                    refine ⟨⟨j, acc ++ rt i (j - 1), by omega, hacc, rfl, ?_, HV3.out _ hB7.out hK7.out⟩, by simp [intOf]; omega⟩
                    rw [cat_str, rt, if_pos (by have := D1.out; omega)]
                  · by_cases d2 : j = i + 2
                    · have t1 : ¬ (2 : Int) < (j : Int) - (i : Int) := by omega
                      have t2 : (1 : Int) < (j : Int) - (i : Int) := by omega
                      have D2 := (show Hid _ from d2)
                      clear d1 d2
                      go_wp2_with fail
                      refine (byteTextR_sub j (by omega) (by omega) _).mono ?_
                      rintro e w8 ⟨rfl, hb8⟩
                      have hB8 := hB7.out.trans (hb8.mono hB7.out.size)
                      have hK8 := hK7.out.below hb8 hK7.out.lt
                      go_wp2
                      refine ⟨⟨j, acc ++ rt i (j - 1), by omega, hacc, rfl, ?_, HV3.out _ hB8 hK8⟩, by simp [intOf]; omega⟩
                      rw [cat_str, cat_str, rt, if_neg (by have := D2.out; omega), if_pos (by have := D2.out; omega), List.append_assoc]
                    · have t1 : (2 : Int) < (j : Int) - (i : Int) := by omega
                      have t2 : (1 : Int) < (j : Int) - (i : Int) := by omega
                      go_wp2_with fail
                      refine (byteTextR_sub j (by omega) (by omega) _).mono ?_
                      rintro e w8 ⟨rfl, hb8⟩
                      have hB8 := hB7.out.trans (hb8.mono hB7.out.size)
                      have hK8 := hK7.out.below hb8 hK7.out.lt
                      go_wp2
                      refine ⟨⟨j, acc ++ rt i (j - 1), by omega, hacc, rfl, ?_, HV3.out _ hB8 hK8⟩, by simp [intOf]; omega⟩
                      have q1 : ({ data := #[45] } : ByteArray) = ⟨([45] : List UInt8).toArray⟩ := rfl
                      rw [q1, cat_str, cat_str, cat_str, rt, if_neg (by omega), if_neg (by omega)]
                      simp
              · have HE2 : Hid (rEnd k.has (256 - (j + 1)) (j + 1) = rEnd k.has (256 - i) i) := by
                  show _ = _
                  rw [← HE.out, rEnd_yes k.has j hjl hn2]
                go_wp2
                exact ⟨⟨j + 1, by omega, by omega, by omega, by go_num, HE2, hB6, hK6⟩, by simp [intOf]; omega⟩
            · have j1 : ¬ (j : Int) < 256 := by omega
              have HEJ : Hid (rEnd k.has (256 - i) i = j) := by
                show _ = _
                rw [← HE.out, show 256 - j = 0 from by omega, rEnd]
              have hij2 : i < j := by omega
              have HEn : Hid (rEnd k.has (256 - i) i = j) := HEJ
              by_cases hc1 : cc = 1
              · have hc1b : ((cc : Int) == 1) = true := by simp [hc1]
                have HX : Hid (textL k = bt i) := by
                  show _ = _
                  rw [textL_oneR hk H1.out (by rw [← HC.out]; exact hc1b)]
                  exact CtInv.single HV.out hlt (by rw [← HC.out]; exact hc1) hn
                clear hc1
                go_wp2_with fail
                refine (byteTextR_any i hlt _).mono ?_
                rintro e w7 ⟨rfl, hb7⟩
                go_wp2
                go_ret
                exact ⟨ret_str (by rw [HX.out]), (HBr.out).trans (hb7.mono (HBr.out).size)⟩
              · have hc1b : ((cc : Int) == 1) = false := by simp; omega
                have HV3 : Hid (∀ w' : World, Below w.heap.size w w' → Hb w' w.heap.size k → CtInv k w j (acc ++ rt i (j - 1)) w') := fun w' hb' hK' => CtInv.yes HV.out hlt HEn.out (by omega) (by omega) (by rw [← HC.out]; exact hc1) hb' hK'
                have hacc : (acc ++ rt i (j - 1)).length ≤ 2304 := by
                  have h1 := (HV3.out _ (HBr.out) (HKr.out)).2.1
                  omega
                clear hc1
                go_wp2_with fail
                refine (byteTextR_any i hlt _).mono ?_
                rintro e w7 ⟨rfl, hb7⟩
                have hB7 : Hid (Below w.heap.size w w7) := (HBr.out).trans (hb7.mono (HBr.out).size)
                have hK7 : Hid (Hb w7 w.heap.size k) := (HKr.out).below hb7 (HKr.out).lt
                by_cases d1 : j = i + 1
                · have t1 : ¬ (2 : Int) < (j : Int) - (i : Int) := by omega
                  have t2 : ¬ (1 : Int) < (j : Int) - (i : Int) := by omega
                  have D1 := (show Hid _ from d1)
                  clear d1
                  go_wp2
                  refine ⟨⟨j, acc ++ rt i (j - 1), by omega, hacc, rfl, ?_, HV3.out _ hB7.out hK7.out⟩, by simp [intOf]; omega⟩
                  rw [cat_str, rt, if_pos (by have := D1.out; omega)]
                · by_cases d2 : j = i + 2
                  · have t1 : ¬ (2 : Int) < (j : Int) - (i : Int) := by omega
                    have t2 : (1 : Int) < (j : Int) - (i : Int) := by omega
                    have D2 := (show Hid _ from d2)
                    clear d1 d2
                    go_wp2_with fail
                    refine (byteTextR_sub j (by omega) (by omega) _).mono ?_
                    rintro e w8 ⟨rfl, hb8⟩
                    have hB8 := hB7.out.trans (hb8.mono hB7.out.size)
                    have hK8 := hK7.out.below hb8 hK7.out.lt
                    go_wp2
                    refine ⟨⟨j, acc ++ rt i (j - 1), by omega, hacc, rfl, ?_, HV3.out _ hB8 hK8⟩, by simp [intOf]; omega⟩
                    rw [cat_str, cat_str, rt, if_neg (by have := D2.out; omega), if_pos (by have := D2.out; omega), List.append_assoc]
                  · have t1 : (2 : Int) < (j : Int) - (i : Int) := by omega
                    have t2 : (1 : Int) < (j : Int) - (i : Int) := by omega
                    go_wp2_with fail
                    refine (byteTextR_sub j (by omega) (by omega) _).mono ?_
                    rintro e w8 ⟨rfl, hb8⟩
                    have hB8 := hB7.out.trans (hb8.mono hB7.out.size)
                    have hK8 := hK7.out.below hb8 hK7.out.lt
                    go_wp2
                    refine ⟨⟨j, acc ++ rt i (j - 1), by omega, hacc, rfl, ?_, HV3.out _ hB8 hK8⟩, by simp [intOf]; omega⟩
                    have q1 : ({ data := #[45] } : ByteArray) = ⟨([45] : List UInt8).toArray⟩ := rfl
                    rw [q1, cat_str, cat_str, cat_str, rt, if_neg (by omega), if_neg (by omega)]
                    simp
      · have hi2 : i = 256 := by omega
        subst hi2
        have HX : Hid (textL k = 91 :: (acc ++ [93])) := by
          show _ = _
          rw [textL_moreR hk H1.out (by simp; have := CtInv.noSingle HV.out; omega), CtInv.fin HV.out]
        go_wp2
        go_ret
        refine ⟨ret_str ?_, hB⟩
        rw [HX.out]
        have q1 : ({ data := #[91] } : ByteArray) = ⟨([91] : List UInt8).toArray⟩ := rfl
        have q2 : ({ data := #[93] } : ByteArray) = ⟨([93] : List UInt8).toArray⟩ := rfl
        rw [q1, q2, cat_str, cat_str]
        simp
theorem classText_any (k : C4) (hk : k.ok) (w : World) :
    Calls Tryd.prog 14 #[k.v] w fun e w' => e = .returned (.string ⟨(textL k).toArray⟩) ∧ Below w.heap.size w w' := by
  cases h1 : (((cnt k.not.has 256 : Nat) : Int) == 1)
  · exact classText_loop k hk (not_dotR hk (Or.inl h1)) w (Or.inr h1)
  · cases h2 : k.has 10
    · exact classText_dot k hk h1 h2 w
    · exact classText_loop k hk (not_dotR hk (Or.inr h2)) w (Or.inl ⟨h1, h2⟩)
end Go.Proofs.YthahnpaigmbiaaaDoor
