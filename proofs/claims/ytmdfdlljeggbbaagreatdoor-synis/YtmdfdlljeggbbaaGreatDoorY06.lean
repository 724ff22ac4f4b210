/- What the document's own functions answer: ClassText, walked. What the document's own functions answer: partText, TextOf. append, of nodes. -/
import Derived.Test.YtmdfdlljeggbbaaGreatDoorY05
import Derived.Test.YtmdfdlljeggbbaaGreatDoorY04
import Derived.Test.YtmdfdlljeggbbaaGreatDoorY03
import Derived.Test.YtmdfdlljeggbbaaGreatDoorY02
import Derived.OwnWalk
import Derived.KernelRfl
namespace Go.Proofs.YtmdfdlljeggbbaaGreatDoor
set_option linter.unusedSimpArgs false
set_option linter.unusedVariables false
open Go.RowKit

theorem textL_dotR {k : C4} (hk : k.ok) (h1 : (((cnt k.not.has 256 : Nat) : Int) == 1) = true) (h2 : k.has 10 = false) : textL k = [46] := by
  apply textL_dot
  rw [← dot_iff hk, h1, h2]; rfl
theorem not_dotR {k : C4} (hk : k.ok) (h : (((cnt k.not.has 256 : Nat) : Int) == 1) = false ∨ k.has 10 = true) : k.eqb dotC = false := by
  rw [← dot_iff hk]
  rcases h with h | h <;> rw [h] <;> simp
theorem textL_oneR {k : C4} (hk : k.ok) (h : k.eqb dotC = false) (h2 : (((cnt k.has 256 : Nat) : Int) == 1) = true) : textL k = runsL k.has 256 0 := by
  rw [textL_one k h (by rw [many_one hk]; exact h2), runs256, C4.p_eq k hk]
theorem textL_moreR {k : C4} (hk : k.ok) (h : k.eqb dotC = false) (h2 : (((cnt k.has 256 : Nat) : Int) == 1) = false) : textL k = 91 :: (runsL k.has 256 0 ++ [93]) := by
  rw [textL_more k h (by rw [many_one hk]; exact h2), runs256, C4.p_eq k hk]

theorem runsL_succ (p : Nat → Bool) (f i : Nat) : runsL p (f + 1) i = if i < 256 then (if i < rEnd p (256 - i) i then rt i (rEnd p (256 - i) i - 1) else []) ++ runsL p f (rEnd p (256 - i) i + 1) else [] := rfl
theorem runsL_fuel (p : Nat → Bool) : ∀ (f i : Nat), 256 ≤ f + i → runsL p (f + 1) i = runsL p f i
  | 0, i, h => by rw [runsL_succ, if_neg (by omega)]; rfl
  | f + 1, i, h => by
    have hle := rEnd_le p (256 - i) i
    rw [runsL_succ p (f + 1) i, runsL_succ p f i]
    split
    · rw [runsL_fuel p f _ (by omega)]
    · rfl
theorem count_ex (k : C4) (hk : k.ok) (w : World) :
    Calls Tryz.prog 11 #[k.v] w fun e w' => ∃ c : Nat, e = .returned (.int .i64 c) ∧ Hid (c = cnt k.has 256) ∧ c ≤ 256 ∧ Below w.heap.size w w' := by
  refine (count_any k hk w).mono ?_
  rintro e w' ⟨rfl, hb⟩
  exact ⟨cnt k.has 256, rfl, Eq.refl _, cnt_le _ _, hb⟩
theorem byteTextR_sub (j : Nat) (h0 : 0 < j) (h : j ≤ 256) (w : World) :
    Calls Tryz.prog 26 #[.int .i64 ((j : Int) - 1)] w fun e w' => e = .returned (.string ⟨(bt (j - 1)).toArray⟩) ∧ Below w.heap.size w w' := by
  have h1 := byteTextR_any (j - 1) (by omega) w
  have e : ((j - 1 : Nat) : Int) = (j : Int) - 1 := by omega
  rw [e] at h1
  exact h1
/-- What stands at the loop's head: the text so far, and what is left. -/
def CtInv (k : C4) (w : World) (i : Nat) (acc : List UInt8) (wr : World) : Prop :=
  i ≤ 256 ∧ acc.length ≤ 9 * i ∧ (∃ f, 256 ≤ f + i ∧ acc ++ runsL k.has (f + 1) i = runsL k.has 256 0) ∧ (cnt k.has 256 = 1 → acc = []) ∧ Below w.heap.size w wr ∧ Hb wr w.heap.size k
theorem CtInv.start (k : C4) (w wr : World) (h5 : Below w.heap.size w wr) (h6 : Hb wr w.heap.size k) : CtInv k w 0 [] wr :=
  ⟨by omega, by simp, ⟨256, by omega, by rw [List.nil_append]; exact runsL_fuel k.has 256 0 (by omega)⟩, fun _ => rfl, h5, h6⟩
theorem CtInv.no {k : C4} {w wr w1 : World} {i : Nat} {acc : List UInt8} (h : CtInv k w i acc wr) (hi : i < 256) (hn : k.has i = false) (hb : Below wr.heap.size wr w1) : CtInv k w (i + 1) acc w1 := by
  obtain ⟨h1, h2, ⟨f, hf, ht⟩, h4, h5, h6⟩ := h
  obtain ⟨f, rfl⟩ : ∃ g, f = g + 1 := ⟨f - 1, by omega⟩
  refine ⟨by omega, by omega, ⟨f, by omega, ?_⟩, h4, h5.trans (hb.mono h5.size), h6.below hb h6.lt⟩
  rw [← runsL_no k.has (f + 1) i hi hn]
  exact ht
theorem CtInv.yes {k : C4} {w wr w1 : World} {i en : Nat} {acc : List UInt8} (h : CtInv k w i acc wr) (hi : i < 256) (he : rEnd k.has (256 - i) i = en) (hlt : i < en) (hen : en ≤ 256) (hc : ¬ cnt k.has 256 = 1) (hb : Below w.heap.size w w1) (hK : Hb w1 w.heap.size k) : CtInv k w en (acc ++ rt i (en - 1)) w1 := by
  obtain ⟨h1, h2, ⟨f, hf, ht⟩, h4, h5, h6⟩ := h
  have hl := rt_len i (en - 1)
  refine ⟨hen, by simp; omega, ⟨f, by omega, ?_⟩, fun h => absurd h hc, hb, hK⟩
  rw [List.append_assoc, ← runsL_yes k.has f i en hi he hlt]
  exact ht
theorem CtInv.single {k : C4} {w wr : World} {i : Nat} {acc : List UInt8} (h : CtInv k w i acc wr) (hi : i < 256) (hc : cnt k.has 256 = 1) (hp : k.has i = true) : runsL k.has 256 0 = bt i := by
  obtain ⟨h1, h2, ⟨f, hf, ht⟩, h4, h5, h6⟩ := h
  rw [← ht, h4 hc, List.nil_append, one_run k.has f i hi hc hp]
theorem CtInv.fin {k : C4} {w wr : World} {acc : List UInt8} (h : CtInv k w 256 acc wr) : runsL k.has 256 0 = acc := by
  obtain ⟨h1, h2, ⟨f, hf, ht⟩, h4, h5, h6⟩ := h
  rw [← ht, runsL, if_neg (by omega), List.append_nil]
theorem CtInv.noSingle {k : C4} {w wr : World} {acc : List UInt8} (h : CtInv k w 256 acc wr) : ¬ cnt k.has 256 = 1 := by
  intro hc
  have h1 := h.fin
  have h2 : acc = [] := h.2.2.2.1 hc
  rw [h2] at h1
  have ⟨i, hi, hp⟩ : ∃ i, i < 256 ∧ k.has i = true := by
    by_cases e : ∃ i, i < 256 ∧ k.has i = true
    · exact e
    · exfalso
      have : cnt k.has 256 = cnt (fun _ => false) 256 := by
        apply cnt_congr
        intro i hi
        cases hp : k.has i
        · rfl
        · exact absurd ⟨i, hi, hp⟩ e
      have h0 : ∀ n, cnt (fun _ => false) n = 0 := by
        intro n
        induction n with
        | zero => rfl
        | succ n ih => rw [cnt, ih]; rfl
      rw [this, h0] at hc
      omega
  have := dec_runs k.has i 256 0 512 (by omega) (by omega)
  rw [h1, dec_nil, hp] at this
  simp [hi] at this

set_option maxHeartbeats 1000000 in
set_option maxRecDepth 100000 in
theorem classText_dot (k : C4) (hk : k.ok) (h1 : (((cnt k.not.has 256 : Nat) : Int) == 1) = true) (h2 : k.has 10 = false) (w : World) :
    Calls Tryz.prog 13 #[k.v] w fun e w' => e = .returned (.string ⟨(textL k).toArray⟩) ∧ Below w.heap.size w w' := by
  have HT : Hid _ := textL_dotR hk h1 h2
  go_enter Tryz.func13, Tryz.ntmps13
  go_wp2_with fail
  refine (count_any k hk _).mono ?_
  rintro e w1 ⟨rfl, hb1⟩
  have hK1 := (Hb.new w k _ rfl).below hb1 (Hb.new w k _ rfl).lt
  have hB1 : Below w.heap.size w w1 := ((Below.refl _ _).alloc (Nat.le_refl _) _).trans (hb1.mono (by simp))
  obtain ⟨c0, c1, c2, c3, e0, e1, e2, e3⟩ := hK1.all
  go_wp2_with fail
  refine (others_any k hk _).mono ?_
  rintro e w2 ⟨rfl, hb2⟩
  have hK2 := hK1.below hb2 hK1.lt
  have hB2 := hB1.trans (hb2.mono hB1.size)
  go_wp2_with fail
  refine (count_any k.not (C4.not_ok hk) _).mono ?_
  rintro e w3 ⟨rfl, hb3⟩
  have hK3 := hK2.below hb3 hK2.lt
  have hB3 := hB2.trans (hb3.mono hB2.size)
  clear c0 c1 c2 c3 e0 e1 e2 e3
  obtain ⟨c0, c1, c2, c3, e0, e1, e2, e3⟩ := hK3.all
  go_wp2_with fail
  refine (in_any k hk 10 (by decide) _).mono ?_
  rintro e w4 ⟨rfl, hb4⟩
  have hB4 := hB3.trans (hb4.mono hB3.size)
  go_wp2
  go_ret
  exact ⟨ret_str (by rw [HT.out]), hB4⟩
set_option maxHeartbeats 4000000 in
set_option maxRecDepth 100000 in
theorem classText_loop (k : C4) (hk : k.ok) (h1 : k.eqb dotC = false) (w : World) (hq : ((((cnt k.not.has 256 : Nat) : Int) == 1) = true ∧ k.has 10 = true) ∨ (((cnt k.not.has 256 : Nat) : Int) == 1) = false) :
    Calls Tryz.prog 13 #[k.v] w fun e w' => e = .returned (.string ⟨(textL k).toArray⟩) ∧ Below w.heap.size w w' := by
  have H1 := (show Hid _ from h1)
  have HQ := (show Hid _ from hq)
  clear h1 hq
  go_enter Tryz.func13, Tryz.ntmps13
  go_wp2_with fail
  refine (count_ex k hk _).mono ?_
  rintro e w1 ⟨cc, rfl, HC, hcc, hb1⟩
  have hK1 := (Hb.new w k _ rfl).below hb1 (Hb.new w k _ rfl).lt
  have hB1 : Below w.heap.size w w1 := ((Below.refl _ _).alloc (Nat.le_refl _) _).trans (hb1.mono (by simp))
  obtain ⟨c0, c1, c2, c3, e0, e1, e2, e3⟩ := hK1.all
  go_wp2_with fail
  refine (others_any k hk _).mono ?_
  rintro e w2 ⟨rfl, hb2⟩
  have hK2 := hK1.below hb2 hK1.lt
  have hB2 := hB1.trans (hb2.mono hB1.size)
  go_wp2_with fail
  refine (count_ex k.not (C4.not_ok hk) _).mono ?_
  rintro e w3 ⟨cd, rfl, HD, hcd, hb3⟩
  have hK3 := hK2.below hb3 hK2.lt
  have hB3 := hB2.trans (hb3.mono hB2.size)
  clear c0 c1 c2 c3 e0 e1 e2 e3
  obtain ⟨c0, c1, c2, c3, e0, e1, e2, e3⟩ := hK3.all
  go_wp2_with fail
  refine (in_any k hk 10 (by decide) _).mono ?_
  rintro e w4 ⟨rfl, hb4⟩
  have hK4 := hK3.below hb4 hK3.lt
  have hB4 := hB3.trans (hb4.mono hB3.size)
  clear c0 c1 c2 c3 e0 e1 e2 e3 hK1 hK2 hK3 hB1 hB2 hB3 hb1 hb2 hb3 hb4
  have HI : Hid (CtInv k w 0 [] w4) := CtInv.start k w w4 hB4 hK4
  clear hB4 hK4
  have hq : (((cd : Int) == 1) = true ∧ k.has 10 = true) ∨ ((cd : Int) == 1) = false := by rw [HD.out]; exact HQ.out
  clear HQ HD
  rcases hq with ⟨hq1, hq2⟩ | hq1
  all_goals
    go_wp2_with fail
    go_loopw [6, 7] (fun s v wr => ∃ (i : Nat) (acc : List UInt8), i ≤ 256 ∧ acc.length ≤ 2304 ∧ v = .int .i64 i ∧ s = .string ⟨acc.toArray⟩ ∧ Hid (CtInv k w i acc wr)) (fun _ v _ => 256 - (intOf v).toNat)
    case atStart => exact ⟨0, [], by omega, by simp, rfl, rfl, HI⟩
    case round =>
      obtain ⟨i, acc, hi, hal, rfl, rfl, HV⟩ := hrel
      have hK := HV.out.2.2.2.2.2
      have hB := HV.out.2.2.2.2.1
      obtain ⟨c0, c1, c2, c3, e0, e1, e2, e3⟩ := hK.all
      by_cases hlt : i < 256
      · have i1 : (i : Int) < 256 := by omega
        go_wp2_with fail
        refine (in_any k hk i hlt _).mono ?_
        rintro e w5 ⟨rfl, hb5⟩
        cases hn : k.has i
        · have HV2 : Hid _ := CtInv.no HV.out hlt hn hb5
          go_wp2
          exact ⟨⟨i + 1, acc, by omega, by omega, by go_num, rfl, HV2⟩, by simp [intOf]; omega⟩
        · have hK5 := hK.below hb5 hK.lt
          have hB5 := hB.trans (hb5.mono hB.size)
          clear c0 c1 c2 c3 e0 e1 e2 e3
          go_wp2_with fail
          go_loopw [7] (fun v wr => ∃ j : Nat, i ≤ j ∧ j ≤ 256 ∧ (j = i ∨ i < j) ∧ v = .int .i64 j ∧ Hid (rEnd k.has (256 - j) j = rEnd k.has (256 - i) i) ∧ Hid (Below w.heap.size w wr) ∧ Hid (Hb wr w.heap.size k)) (fun v _ => 256 - (intOf v).toNat)
          case atStart => exact ⟨i, by omega, by omega, Or.inl rfl, rfl, Eq.refl _, hB5, hK5⟩
          case round =>
            obtain ⟨j, hij, hj, hor, rfl, HE, HBr, HKr⟩ := hrel
            have hlb := bt_len i
            have hlb2 := bt_len (j - 1)
            obtain ⟨c0, c1, c2, c3, e0, e1, e2, e3⟩ := HKr.out.all
            by_cases hjl : j < 256
            · have j1 : (j : Int) < 256 := by omega
              go_wp2_with fail
              refine (in_any k hk j hjl _).mono ?_
              rintro e w6 ⟨rfl, hb6⟩
              have hB6 := HBr.out.trans (hb6.mono HBr.out.size)
              have hK6 := HKr.out.below hb6 HKr.out.lt
              cases hn2 : k.has j
              · have HEJ : Hid (rEnd k.has (256 - i) i = j) := by
                  show _ = _
                  rw [← HE.out, rEnd_no k.has j hjl hn2]
                have hij2 : i < j := by
                  rcases hor with h | h
                  · rw [h, hn] at hn2; cases hn2
                  · exact h
                have HEn : Hid (rEnd k.has (256 - i) i = j) := HEJ
                by_cases hc1 : cc = 1
                · have hc1b : ((cc : Int) == 1) = true := by simp [hc1]
                  have HX : Hid (textL k = bt i) := by
                    show _ = _
                    rw [textL_oneR hk H1.out (by rw [← HC.out]; exact hc1b)]
                    exact CtInv.single HV.out hlt (by rw [← HC.out]; exact hc1) hn
                  clear hc1
                  go_wp2_with fail
                  refine (byteTextR_any i hlt _).mono ?_
                  rintro e w7 ⟨rfl, hb7⟩
                  go_wp2
                  go_ret
                  exact ⟨ret_str (by rw [HX.out]), (hB6).trans (hb7.mono (hB6).size)⟩
                · have hc1b : ((cc : Int) == 1) = false := by simp; omega
                  have HV3 : Hid (∀ w' : World, Below w.heap.size w w' → Hb w' w.heap.size k → CtInv k w j (acc ++ rt i (j - 1)) w') := fun w' hb' hK' => CtInv.yes HV.out hlt HEn.out (by omega) (by omega) (by rw [← HC.out]; exact hc1) hb' hK'
                  have hacc : (acc ++ rt i (j - 1)).length ≤ 2304 := by
                    have h1 := (HV3.out _ (hB6) (hK6)).2.1
                    omega
                  clear hc1
                  go_wp2_with fail
                  refine (byteTextR_any i hlt _).mono ?_
                  rintro e w7 ⟨rfl, hb7⟩
                  have hB7 : Hid (Below w.heap.size w w7) := (hB6).trans (hb7.mono (hB6).size)
                  have hK7 : Hid (Hb w7 w.heap.size k) := (hK6).below hb7 (hK6).lt
                  by_cases d1 : j = i + 1
                  · have t1 : ¬ (2 : Int) < (j : Int) - (i : Int) := by omega
                    have t2 : ¬ (1 : Int) < (j : Int) - (i : Int) := by omega
                    have D1 := (show Hid _ from d1)
                    clear d1
                    go_wp2
                    refine ⟨⟨j, acc ++ rt i (j - 1), by omega, hacc, rfl, ?_, HV3.out _ hB7.out hK7.out⟩, by simp [intOf]; omega⟩
                    rw [cat_str, rt, if_pos (by have := D1.out; omega)]
                  · by_cases d2 : j = i + 2
                    · have t1 : ¬ (2 : Int) < (j : Int) - (i : Int) := by omega
                      have t2 : (1 : Int) < (j : Int) - (i : Int) := by omega
                      have D2 := (show Hid _ from d2)
                      clear d1 d2
                      go_wp2_with fail
                      refine (byteTextR_sub j (by omega) (by omega) _).mono ?_
                      rintro e w8 ⟨rfl, hb8⟩
                      have hB8 := hB7.out.trans (hb8.mono hB7.out.size)
                      have hK8 := hK7.out.below hb8 hK7.out.lt
                      go_wp2
                      refine ⟨⟨j, acc ++ rt i (j - 1), by omega, hacc, rfl, ?_, HV3.out _ hB8 hK8⟩, by simp [intOf]; omega⟩
                      rw [cat_str, cat_str, rt, if_neg (by have := D2.out; omega), if_pos (by have := D2.out; omega), List.append_assoc]
                    · have t1 : (2 : Int) < (j : Int) - (i : Int) := by omega
                      have t2 : (1 : Int) < (j : Int) - (i : Int) := by omega
                      go_wp2_with fail
                      refine (byteTextR_sub j (by omega) (by omega) _).mono ?_
                      rintro e w8 ⟨rfl, hb8⟩
                      have hB8 := hB7.out.trans (hb8.mono hB7.out.size)
                      have hK8 := hK7.out.below hb8 hK7.out.lt
                      go_wp2
                      refine ⟨⟨j, acc ++ rt i (j - 1), by omega, hacc, rfl, ?_, HV3.out _ hB8 hK8⟩, by simp [intOf]; omega⟩
                      have q1 : ({ data := #[45] } : ByteArray) = ⟨([45] : List UInt8).toArray⟩ := rfl
                      rw [q1, cat_str, cat_str, cat_str, rt, if_neg (by omega), if_neg (by omega)]
                      simp
              · have HE2 : Hid (rEnd k.has (256 - (j + 1)) (j + 1) = rEnd k.has (256 - i) i) := by
                  show _ = _
                  rw [← HE.out, rEnd_yes k.has j hjl hn2]
                go_wp2
                exact ⟨⟨j + 1, by omega, by omega, by omega, by go_num, HE2, hB6, hK6⟩, by simp [intOf]; omega⟩
            · have j1 : ¬ (j : Int) < 256 := by omega
              have HEJ : Hid (rEnd k.has (256 - i) i = j) := by
                show _ = _
                rw [← HE.out, show 256 - j = 0 from by omega, rEnd]
              have hij2 : i < j := by omega
              have HEn : Hid (rEnd k.has (256 - i) i = j) := HEJ
              by_cases hc1 : cc = 1
              · have hc1b : ((cc : Int) == 1) = true := by simp [hc1]
                have HX : Hid (textL k = bt i) := by
                  show _ = _
                  rw [textL_oneR hk H1.out (by rw [← HC.out]; exact hc1b)]
                  exact CtInv.single HV.out hlt (by rw [← HC.out]; exact hc1) hn
                clear hc1
                go_wp2_with fail
                refine (byteTextR_any i hlt _).mono ?_
                rintro e w7 ⟨rfl, hb7⟩
                go_wp2
                go_ret
                exact ⟨ret_str (by rw [HX.out]), (HBr.out).trans (hb7.mono (HBr.out).size)⟩
              · have hc1b : ((cc : Int) == 1) = false := by simp; omega
                have HV3 : Hid (∀ w' : World, Below w.heap.size w w' → Hb w' w.heap.size k → CtInv k w j (acc ++ rt i (j - 1)) w') := fun w' hb' hK' => CtInv.yes HV.out hlt HEn.out (by omega) (by omega) (by rw [← HC.out]; exact hc1) hb' hK'
                have hacc : (acc ++ rt i (j - 1)).length ≤ 2304 := by
                  have h1 := (HV3.out _ (HBr.out) (HKr.out)).2.1
                  omega
                clear hc1
                go_wp2_with fail
                refine (byteTextR_any i hlt _).mono ?_
                rintro e w7 ⟨rfl, hb7⟩
                have hB7 : Hid (Below w.heap.size w w7) := (HBr.out).trans (hb7.mono (HBr.out).size)
                have hK7 : Hid (Hb w7 w.heap.size k) := (HKr.out).below hb7 (HKr.out).lt
                by_cases d1 : j = i + 1
                · have t1 : ¬ (2 : Int) < (j : Int) - (i : Int) := by omega
                  have t2 : ¬ (1 : Int) < (j : Int) - (i : Int) := by omega
                  have D1 := (show Hid _ from d1)
                  clear d1
                  go_wp2
                  refine ⟨⟨j, acc ++ rt i (j - 1), by omega, hacc, rfl, ?_, HV3.out _ hB7.out hK7.out⟩, by simp [intOf]; omega⟩
                  rw [cat_str, rt, if_pos (by have := D1.out; omega)]
                · by_cases d2 : j = i + 2
                  · have t1 : ¬ (2 : Int) < (j : Int) - (i : Int) := by omega
                    have t2 : (1 : Int) < (j : Int) - (i : Int) := by omega
                    have D2 := (show Hid _ from d2)
                    clear d1 d2
                    go_wp2_with fail
                    refine (byteTextR_sub j (by omega) (by omega) _).mono ?_
                    rintro e w8 ⟨rfl, hb8⟩
                    have hB8 := hB7.out.trans (hb8.mono hB7.out.size)
                    have hK8 := hK7.out.below hb8 hK7.out.lt
                    go_wp2
                    refine ⟨⟨j, acc ++ rt i (j - 1), by omega, hacc, rfl, ?_, HV3.out _ hB8 hK8⟩, by simp [intOf]; omega⟩
                    rw [cat_str, cat_str, rt, if_neg (by have := D2.out; omega), if_pos (by have := D2.out; omega), List.append_assoc]
                  · have t1 : (2 : Int) < (j : Int) - (i : Int) := by omega
                    have t2 : (1 : Int) < (j : Int) - (i : Int) := by omega
                    go_wp2_with fail
                    refine (byteTextR_sub j (by omega) (by omega) _).mono ?_
                    rintro e w8 ⟨rfl, hb8⟩
                    have hB8 := hB7.out.trans (hb8.mono hB7.out.size)
                    have hK8 := hK7.out.below hb8 hK7.out.lt
                    go_wp2
                    refine ⟨⟨j, acc ++ rt i (j - 1), by omega, hacc, rfl, ?_, HV3.out _ hB8 hK8⟩, by simp [intOf]; omega⟩
                    have q1 : ({ data := #[45] } : ByteArray) = ⟨([45] : List UInt8).toArray⟩ := rfl
                    rw [q1, cat_str, cat_str, cat_str, rt, if_neg (by omega), if_neg (by omega)]
                    simp
      · have hi2 : i = 256 := by omega
        subst hi2
        have HX : Hid (textL k = 91 :: (acc ++ [93])) := by
          show _ = _
          rw [textL_moreR hk H1.out (by simp; have := CtInv.noSingle HV.out; omega), CtInv.fin HV.out]
        go_wp2
        go_ret
        refine ⟨ret_str ?_, hB⟩
        rw [HX.out]
        have q1 : ({ data := #[91] } : ByteArray) = ⟨([91] : List UInt8).toArray⟩ := rfl
        have q2 : ({ data := #[93] } : ByteArray) = ⟨([93] : List UInt8).toArray⟩ := rfl
        rw [q1, q2, cat_str, cat_str]
        simp
theorem classText_any (k : C4) (hk : k.ok) (w : World) :
    Calls Tryz.prog 13 #[k.v] w fun e w' => e = .returned (.string ⟨(textL k).toArray⟩) ∧ Below w.heap.size w w' := by
  cases h1 : (((cnt k.not.has 256 : Nat) : Int) == 1)
  · exact classText_loop k hk (not_dotR hk (Or.inl h1)) w (Or.inr h1)
  · cases h2 : k.has 10
    · exact classText_dot k hk h1 h2 w
    · exact classText_loop k hk (not_dotR hk (Or.inr h2)) w (Or.inl ⟨h1, h2⟩)
end Go.Proofs.YtmdfdlljeggbbaaGreatDoor
namespace Go.Proofs.YtmdfdlljeggbbaaGreatDoor
set_option linter.unusedSimpArgs false
set_option linter.unusedVariables false
set_option maxRecDepth 100000
open Go.RowKit

theorem str_br (s : List UInt8) : (⟨#[40]⟩ : ByteArray) ++ ⟨s.toArray⟩ ++ ⟨#[41]⟩ = ⟨(brT true s).toArray⟩ := by
  have h1 : (⟨#[40]⟩ : ByteArray) = ⟨[40].toArray⟩ := rfl
  have h2 : (⟨#[41]⟩ : ByteArray) = ⟨[41].toArray⟩ := rfl
  rw [h1, h2, cat_str, cat_str]
  rfl
set_option maxHeartbeats 4000000 in
theorem partText_of (ns : List Nd) (b off cap i : Nat) (n : Nd) (hn : ns[i]? = some n) (hop : 1 ≤ n.op ∧ n.op ≤ 9) (hm : ns.length ≤ 60) (s : List UInt8) (hlen : s.length ≤ 1000000) (p : Int) (hp : p = 3 ∨ p = 4 ∨ p = 5 ∨ p = 6 ∨ p = 7) (x : Bool) (w : World) (hlt : b < w.heap.size) (hN : NsAt w b off ns)
    (hT : Calls Tryz.prog 5 #[.slice (some ⟨b, off, none⟩) ns.length cap, .int .i64 i] w fun e w' => e = .returned (.string ⟨s.toArray⟩) ∧ Below w.heap.size w w') :
    Calls Tryz.prog 14 #[.slice (some ⟨b, off, none⟩) ns.length cap, .int .i64 p, .int .i64 i, .bool x] w fun e w' => e = .returned (.string ⟨(brT (brk p n.op x) s).toArray⟩) ∧ Below w.heap.size w w' := by
  have hil : i < ns.length := by
    rcases Nat.lt_or_ge i ns.length with h' | h'
    · exact h'
    · rw [List.getElem?_eq_none h'] at hn; cases hn
  have HT : Hid _ := hT
  have HC : Hid (∀ w', Below w.heap.size w w' → w'.cell? ⟨b, off + i * 5, none⟩ = some (.int .i64 n.op)) := fun w' hb => ((hN.below hb hlt) i n hn).1
  have i0 : (0 : Int) ≤ (i : Int) := by omega
  have i1 : (i : Int) < (ns.length : Int) := by omega
  have hz := size_str s
  have HB := (show Hid _ from str_br s)
  clear hn hT hN
  by_cases h2 : n.op = 2
  · rw [h2] at HC ⊢
    clear h2 hop
    rcases hp with rfl | rfl | rfl | rfl | rfl
    all_goals
      go_enter Tryz.func14, Tryz.ntmps14
      go_wp2_with fail
      refine Calls.mono HT.out ?_
      rintro e w1 ⟨rfl, hb⟩
      have q := HC.out w1 hb
      have B1 : Hid _ := hb
      clear hb
      go_wp2
      go_ret
      exact ⟨by first | exact ret_str HB.out | rfl, B1.out⟩
  by_cases h3 : n.op = 3
  · rw [h3] at HC ⊢
    clear h2 h3 hop
    rcases hp with rfl | rfl | rfl | rfl | rfl <;> cases x
    all_goals
      go_enter Tryz.func14, Tryz.ntmps14
      go_wp2_with fail
      refine Calls.mono HT.out ?_
      rintro e w1 ⟨rfl, hb⟩
      have q := HC.out w1 hb
      have B1 : Hid _ := hb
      clear hb
      go_wp2
      go_ret
      exact ⟨by first | exact ret_str HB.out | rfl, B1.out⟩
  by_cases h4 : n.op = 4
  · rw [h4] at HC ⊢
    clear h2 h3 h4 hop
    rcases hp with rfl | rfl | rfl | rfl | rfl <;> cases x
    all_goals
      go_enter Tryz.func14, Tryz.ntmps14
      go_wp2_with fail
      refine Calls.mono HT.out ?_
      rintro e w1 ⟨rfl, hb⟩
      have q := HC.out w1 hb
      have B1 : Hid _ := hb
      clear hb
      go_wp2
      go_ret
      exact ⟨by first | exact ret_str HB.out | rfl, B1.out⟩
  have HF : Hid (brk p n.op x = false) := by show _ = _; unfold brk; rw [if_neg h2, if_neg h4, if_neg h3]
  have p2 : (n.op == 2) = false := by simp [h2]
  have p3 : (n.op == 3) = false := by simp [h3]
  have p4 : (n.op == 4) = false := by simp [h4]
  clear h2 h3 h4 hop hp
  rw [HF.out]
  go_enter Tryz.func14, Tryz.ntmps14
  go_wp2_with fail
  refine Calls.mono HT.out ?_
  rintro e w1 ⟨rfl, hb⟩
  have q := HC.out w1 hb
  have B1 : Hid _ := hb
  clear hb
  go_wp2
  go_ret
  exact ⟨rfl, B1.out⟩
/-- The contract of TextOf at i. -/
def TxtOk (ns : List Nd) (b off cap i : Nat) (s : List UInt8) : Prop := ∀ w : World, b < w.heap.size → NsAt w b off ns →
  Calls Tryz.prog 5 #[.slice (some ⟨b, off, none⟩) ns.length cap, .int .i64 i] w fun e w' => e = .returned (.string ⟨s.toArray⟩) ∧ Below w.heap.size w w'
set_option maxHeartbeats 4000000 in
theorem txt_leaf (ns : List Nd) (b off cap i : Nat) (n : Nd) (hn : ns[i]? = some n) (hop : n.op = 1 ∨ n.op = 2 ∨ n.op = 8 ∨ n.op = 9) (hc : n.c.ok) (hm : ns.length ≤ 60) : TxtOk ns b off cap i (Rx.leaf n).txt := by
  intro w hlt hN
  have hil : i < ns.length := by
    rcases Nat.lt_or_ge i ns.length with h' | h'
    · exact h'
    · rw [List.getElem?_eq_none h'] at hn; cases hn
  obtain ⟨c0, c1, c2, c3, c4⟩ := hN i n hn
  have i0 : (0 : Int) ≤ (i : Int) := by omega
  have i1 : (i : Int) < (ns.length : Int) := by omega
  have HC : Hid _ := classText_any n.c hc
  obtain ⟨op, c⟩ := n
  simp only at *
  clear hn hN
  rcases hop with rfl | rfl | rfl | rfl
  · have e : (Rx.leaf ⟨1, c⟩).txt = textL c := by unfold Rx.txt; exact if_pos rfl
    rw [e]
    go_enter Tryz.func5, Tryz.ntmps5
    go_wp2_with fail
    refine Calls.mono (HC.out _) ?_
    rintro e w1 ⟨rfl, hb⟩
    have B1 : Hid _ := hb
    clear hb
    go_wp2
    go_ret
    exact ⟨rfl, B1.out⟩
  · have e : (Rx.leaf ⟨2, c⟩).txt = [] := by unfold Rx.txt; simp
    rw [e]
    go_enter Tryz.func5, Tryz.ntmps5
    go_wp2
    go_ret
    exact ⟨rfl, Below.refl _ _⟩
  · have e : (Rx.leaf ⟨8, c⟩).txt = [94] := by unfold Rx.txt; simp
    rw [e]
    go_enter Tryz.func5, Tryz.ntmps5
    go_wp2
    go_ret
    exact ⟨rfl, Below.refl _ _⟩
  · have e : (Rx.leaf ⟨9, c⟩).txt = [36] := by unfold Rx.txt; simp
    rw [e]
    go_enter Tryz.func5, Tryz.ntmps5
    go_wp2
    go_ret
    exact ⟨rfl, Below.refl _ _⟩
/-- The contract of partText at i. -/
def PtxOk (ns : List Nd) (b off cap i : Nat) (p : Int) (x : Bool) (s : List UInt8) : Prop := ∀ w : World, b < w.heap.size → NsAt w b off ns →
  Calls Tryz.prog 14 #[.slice (some ⟨b, off, none⟩) ns.length cap, .int .i64 p, .int .i64 i, .bool x] w fun e w' => e = .returned (.string ⟨s.toArray⟩) ∧ Below w.heap.size w w'
theorem cat_sign (s : List UInt8) (c : UInt8) : (⟨s.toArray⟩ : ByteArray) ++ ⟨#[c]⟩ = ⟨(s ++ [c]).toArray⟩ := cat_str s [c]
set_option maxHeartbeats 4000000 in
theorem txt_one (ns : List Nd) (b off cap i : Nat) (n : Nd) (hn : ns[i]? = some n) (hop : n.op = 5 ∨ n.op = 6 ∨ n.op = 7) (hm : ns.length ≤ 60) (s : List UInt8) (hs : s.length ≤ 1000000) (hP : PtxOk ns b off cap (i + 1) n.op false s) : TxtOk ns b off cap i (s ++ [signT n.op]) := by
  intro w hlt hN
  have hil : i < ns.length := by
    rcases Nat.lt_or_ge i ns.length with h' | h'
    · exact h'
    · rw [List.getElem?_eq_none h'] at hn; cases hn
  obtain ⟨c0, c1, c2, c3, c4⟩ := hN i n hn
  have i0 : (0 : Int) ≤ (i : Int) := by omega
  have i1 : (i : Int) < (ns.length : Int) := by omega
  have HC : Hid _ := hP w hlt hN
  rw [arg_succ] at HC
  have hz := size_str s
  obtain ⟨op, c⟩ := n
  simp only at *
  clear hn hN hP
  rcases hop with rfl | rfl | rfl
  all_goals
    go_enter Tryz.func5, Tryz.ntmps5
    go_wp2_with fail
    refine Calls.mono HC.out ?_
    rintro e w1 ⟨rfl, hb⟩
    have B1 : Hid _ := hb
    clear hb
    go_wp2
    go_ret
    exact ⟨ret_str (cat_sign s _), B1.out⟩
theorem cat_or (s t : List UInt8) : (⟨s.toArray⟩ : ByteArray) ++ ⟨#[124]⟩ ++ ⟨t.toArray⟩ = ⟨(s ++ ([124] ++ t)).toArray⟩ := by
  rw [cat_sign, cat_str, List.append_assoc]
set_option maxHeartbeats 4000000 in
theorem txt_two (ns : List Nd) (b off cap i k : Nat) (n : Nd) (hn : ns[i]? = some n) (hop : n.op = 3 ∨ n.op = 4) (hm : ns.length ≤ 60) (s t : List UInt8) (hs : s.length ≤ 1000000) (ht : t.length ≤ 1000000) (hP : PtxOk ns b off cap (i + 1) n.op false s) (hQ : PtxOk ns b off cap k n.op true t)
    (hE : ∀ w : World, b < w.heap.size → NsAt w b off ns → Calls Tryz.prog 12 #[.slice (some ⟨b, off, none⟩) ns.length cap, .int .i64 (i + 1 : Nat)] w fun e w' => e = .returned (.int .i64 k) ∧ w' = w) : TxtOk ns b off cap i (s ++ ((if n.op = 4 then [124] else []) ++ t)) := by
  intro w hlt hN
  have hil : i < ns.length := by
    rcases Nat.lt_or_ge i ns.length with h' | h'
    · exact h'
    · rw [List.getElem?_eq_none h'] at hn; cases hn
  obtain ⟨c0, c1, c2, c3, c4⟩ := hN i n hn
  have i0 : (0 : Int) ≤ (i : Int) := by omega
  have i1 : (i : Int) < (ns.length : Int) := by omega
  have HC : Hid _ := hP w hlt hN
  rw [arg_succ] at HC
  have HE : Hid (∀ w', Below w.heap.size w w' → Calls Tryz.prog 12 #[.slice (some ⟨b, off, none⟩) ns.length cap, .int .i64 ((i : Int) + 1)] w' fun e w'' => e = .returned (.int .i64 k) ∧ w'' = w') := fun w' hb => by
    have := hE w' (Nat.lt_of_lt_of_le hlt hb.size) (hN.below hb hlt)
    rw [arg_succ] at this
    exact this
  have HQ : Hid (∀ w', Below w.heap.size w w' → Calls Tryz.prog 14 #[.slice (some ⟨b, off, none⟩) ns.length cap, .int .i64 n.op, .int .i64 k, .bool true] w' fun e w'' => e = .returned (.string ⟨t.toArray⟩) ∧ Below w'.heap.size w' w'') := fun w' hb => hQ w' (Nat.lt_of_lt_of_le hlt hb.size) (hN.below hb hlt)
  have hz := size_str s
  have hz2 := size_str t
  have hzs : ((⟨s.toArray⟩ : ByteArray) ++ ⟨#[124]⟩).size = s.length + 1 := by rw [cat_sign, size_str]; simp
  obtain ⟨op, c⟩ := n
  simp only at *
  clear hn hN hP hQ hE
  rcases hop with rfl | rfl
  · go_enter Tryz.func5, Tryz.ntmps5
    go_wp2_with fail
    refine Calls.mono HC.out ?_
    rintro e w1 ⟨rfl, hb⟩
    have B1 : Hid _ := hb
    clear hb
    go_wp2_with fail
    refine Calls.mono (HE.out _ B1.out) ?_
    rintro e w1 ⟨rfl, rfl⟩
    go_wp2_with fail
    refine Calls.mono (HQ.out _ B1.out) ?_
    rintro e w2 ⟨rfl, hb⟩
    have B2 : Hid (Below w.heap.size w w2) := B1.out.trans (hb.mono B1.out.size)
    clear hb
    go_wp2
    go_ret
    exact ⟨ret_str (cat_str s t), B2.out⟩
  · go_enter Tryz.func5, Tryz.ntmps5
    go_wp2_with fail
    refine Calls.mono HC.out ?_
    rintro e w1 ⟨rfl, hb⟩
    have B1 : Hid _ := hb
    clear hb
    go_wp2_with fail
    refine Calls.mono (HE.out _ B1.out) ?_
    rintro e w1 ⟨rfl, rfl⟩
    go_wp2_with fail
    refine Calls.mono (HQ.out _ B1.out) ?_
    rintro e w2 ⟨rfl, hb⟩
    have B2 : Hid (Below w.heap.size w w2) := B1.out.trans (hb.mono B1.out.size)
    clear hb
    go_wp2
    go_ret
    exact ⟨ret_str (cat_or s t), B2.out⟩
theorem txt_pos : ∀ (t : Rx) (p q : List Nd), (p ++ t.flat ++ q)[p.length]? = some t.top
  | .leaf n, p, q => by simp [Rx.flat, Rx.top]
  | .one n a, p, q => by simp [Rx.flat, Rx.top]
  | .two n a b, p, q => by simp [Rx.flat, Rx.top]
theorem txt_tree (b off cap : Nat) : ∀ (t : Rx), t.Ok → ∀ (p q : List Nd), (∀ n ∈ t.flat, (1 ≤ n.op ∧ n.op ≤ 9) ∧ n.c.ok) → (p ++ t.flat ++ q).length ≤ 60 → TxtOk (p ++ t.flat ++ q) b off cap p.length t.txt
  | .leaf n, h, p, q, hr, hl => by
    have h0 : prt n.op = 0 := h
    have hg := hr n (by simp [Rx.flat])
    have hop : n.op = 1 ∨ n.op = 2 ∨ n.op = 8 ∨ n.op = 9 := by
      have := hg.1
      have e3 : n.op ≠ 3 := by intro e; rw [e] at h0; simp [prt] at h0
      have e4 : n.op ≠ 4 := by intro e; rw [e] at h0; simp [prt] at h0
      have e5 : n.op ≠ 5 := by intro e; rw [e] at h0; simp [prt] at h0
      have e6 : n.op ≠ 6 := by intro e; rw [e] at h0; simp [prt] at h0
      have e7 : n.op ≠ 7 := by intro e; rw [e] at h0; simp [prt] at h0
      omega
    exact txt_leaf _ b off cap _ n (txt_pos (.leaf n) p q) hop hg.2 hl
  | .one n a, h, p, q, hr, hl => by
    have ih := txt_tree b off cap a h.2 (p ++ [n]) q (fun m hm => hr m (by simp [Rx.flat, hm])) (by simpa [Rx.flat] using hl)
    have e : p ++ [n] ++ a.flat ++ q = p ++ (Rx.one n a).flat ++ q := by simp [Rx.flat]
    have ep : (p ++ [n]).length = p.length + 1 := by simp
    have hat := txt_pos a (p ++ [n]) q
    rw [e, ep] at ih hat
    have hal := Rx.txt_len a
    have hfl : a.flat.length ≤ 60 := by simp [Rx.flat] at hl; omega
    have hbl := brT_len (brk n.op a.top.op false) a.txt
    have hat2 : a.top ∈ (Rx.one n a).flat := by
      obtain ⟨r, e⟩ := a.flat_top
      simp [Rx.flat, e]
    have hop := (prt_one n.op).1 h.1
    have hP : PtxOk (p ++ (Rx.one n a).flat ++ q) b off cap (p.length + 1) n.op false (brT (brk n.op a.top.op false) a.txt) := fun w hlt hN => partText_of _ b off cap _ a.top hat (hr _ hat2).1 hl a.txt (by omega) n.op (by omega) false w hlt hN (ih w hlt hN)
    exact txt_one _ b off cap _ n (txt_pos (.one n a) p q) hop hl _ (by omega) hP
  | .two n a b', h, p, q, hr, hl => by
    have ih := txt_tree b off cap a h.2.1 (p ++ [n]) (b'.flat ++ q) (fun m hm => hr m (by simp [Rx.flat, hm])) (by simpa [Rx.flat] using hl)
    have e : p ++ [n] ++ a.flat ++ (b'.flat ++ q) = p ++ (Rx.two n a b').flat ++ q := by simp [Rx.flat]
    have ep : (p ++ [n]).length = p.length + 1 := by simp
    have hat := txt_pos a (p ++ [n]) (b'.flat ++ q)
    have hend := endE_mid a h.2.1 (p ++ [n]) (b'.flat ++ q)
    rw [e, ep] at ih hat hend
    have ih2 := txt_tree b off cap b' h.2.2 (p ++ [n] ++ a.flat) q (fun m hm => hr m (by simp [Rx.flat, hm])) (by simpa [Rx.flat] using hl)
    have e2 : p ++ [n] ++ a.flat ++ b'.flat ++ q = p ++ (Rx.two n a b').flat ++ q := by simp [Rx.flat]
    have ep2 : (p ++ [n] ++ a.flat).length = p.length + 1 + a.flat.length := by simp; omega
    have hbt := txt_pos b' (p ++ [n] ++ a.flat) q
    rw [e2, ep2] at ih2 hbt
    have hfl : a.flat.length + b'.flat.length ≤ 60 := by simp [Rx.flat] at hl; omega
    have hal := Rx.txt_len a
    have hbl := Rx.txt_len b'
    have hal2 := brT_len (brk n.op a.top.op false) a.txt
    have hbl2 := brT_len (brk n.op b'.top.op true) b'.txt
    have hat2 : a.top ∈ (Rx.two n a b').flat := by
      obtain ⟨r, e⟩ := a.flat_top
      simp [Rx.flat, e]
    have hbt2 : b'.top ∈ (Rx.two n a b').flat := by
      obtain ⟨r, e⟩ := b'.flat_top
      simp [Rx.flat, e]
    have hop := (prt_two n.op).1 h.1
    have hP : PtxOk (p ++ (Rx.two n a b').flat ++ q) b off cap (p.length + 1) n.op false (brT (brk n.op a.top.op false) a.txt) := fun w hlt hN => partText_of _ b off cap _ a.top hat (hr _ hat2).1 hl a.txt (by omega) n.op (by omega) false w hlt hN (ih w hlt hN)
    have hQ : PtxOk (p ++ (Rx.two n a b').flat ++ q) b off cap (p.length + 1 + a.flat.length) n.op true (brT (brk n.op b'.top.op true) b'.txt) := fun w hlt hN => partText_of _ b off cap _ b'.top hbt (hr _ hbt2).1 hl b'.txt (by omega) n.op (by omega) true w hlt hN (ih2 w hlt hN)
    refine txt_two _ b off cap _ (p.length + 1 + a.flat.length) n (txt_pos (.two n a b') p q) hop hl _ _ (by omega) (by omega) hP hQ ?_
    intro w hlt hN
    have := endOf_at _ b off cap (by unfold maxLen; omega) w hN ((p ++ (Rx.two n a b').flat ++ q).length + 1) (p.length + 1) (by omega)
    rw [show endF (p ++ (Rx.two n a b').flat ++ q) ((p ++ (Rx.two n a b').flat ++ q).length + 1) (p.length + 1) = some (p.length + 1 + a.flat.length) from hend] at this
    exact this
theorem textOf_any (t : Rx) (ht : t.Ok) (v : Value) (w : World) (hN : NsIn w v t.flat) (hr : ∀ n ∈ t.flat, (1 ≤ n.op ∧ n.op ≤ 9) ∧ n.c.ok) (hl : t.flat.length ≤ 60) :
    Calls Tryz.prog 5 #[v, .int .i64 0] w fun e w' => e = .returned (.string ⟨t.txt.toArray⟩) ∧ Below w.heap.size w w' := by
  obtain ⟨a, cap, rfl, hm, h | ⟨b, off, rfl, hlt, hn⟩⟩ := hN
  · have := t.flat_pos; rw [h] at this; simp at this
  · have := txt_tree b off cap t ht [] [] hr (by simpa using hl)
    simp only [List.nil_append, List.append_nil, List.length_nil] at this
    exact this w hlt hn
end Go.Proofs.YtmdfdlljeggbbaaGreatDoor
namespace Go.Proofs.YtmdfdlljeggbbaaGreatDoor
set_option linter.unusedSimpArgs false
set_option linter.unusedVariables false
set_option maxRecDepth 100000
open Go.RowKit

theorem grown_cells {w4 w5 : World} {r : Nat} {xs : List Value} (h : w4.grownBy w5 (some r)) {g : Nat} (hg : g < w4.heap.size) (hne : g ≠ r) (hc : ∀ (j : Nat) u, xs[j]? = some u → w4.cell? ⟨g, j, none⟩ = some u) : ∀ (j : Nat) u, xs[j]? = some u → w5.cell? ⟨g, j, none⟩ = some u := by
  intro j u hj
  rw [World.cell?_of_block (a := ⟨g, j, none⟩) (h.block g hg (by intro e; injection e with e; exact hne e))]
  exact hc j u hj
/-- append, of nodes of the call's own to nodes of the call's own. -/
theorem wpList_append_ns {ops : Array Oper} {rest : List Oper} {o : Oper} {a : Act} {Q : Exit → Act → World → Prop} {w : World} (hgd : o.guard = none) (s x : Operand)
    (ho : o.op = .call { callee := .builtin .append, args := #[s, x], argTypes := #[22, 22] })
    (B : Nat) (v : Value) (hs : a.eval s = v) (ns : List Nd) (hown : NsOwn w B v ns) (g2 m2 c2 : Nat) (ms : List Nd) (hx : a.eval x = .slice (some ⟨g2, 0, none⟩) m2 c2) (hm2 : m2 = ms.length)
    (hnews : ∀ j u, (nsCells ms)[j]? = some u → w.cell? ⟨g2, j, none⟩ = some u) (hm : 0 < ms.length) (hbytes : (ns.length + ms.length) * 40 ≤ 140737488355328) (hbase : B ≤ w.heap.size)
    (h : ∀ g cap w', NsOwn w' B (.slice (some ⟨g, 0, none⟩) (ns.length + ms.length) cap) (ns ++ ms) → w.grownBy w' v.ownBlock → B ≤ g → g < w'.heap.size → wpList Tryz.prog ops Q rest (a.put o.dst (.slice (some ⟨g, 0, none⟩) (ns.length + ms.length) cap)) w') : wpList Tryz.prog ops Q (o :: rest) a w := by
  subst hm2
  have hinfo : (Tryz.prog.info? 41).map (fun i => (i.zero, i.size, i.bytes)) = some (some (.agg #[.int .i64 0, .int .u64 0, .int .u64 0, .int .u64 0, .int .u64 0]), 5, 40) := by kernel_rfl
  obtain ⟨i0, hi, hz0, hz1, hz2⟩ := info_parts hinfo
  refine wpList_append_lies w hgd s x 22 ho B 41 i0 _ 5 40 Tryz.underlying22 hi hz0 hz1 hz2 rfl (by decide) v ns.length (nsCells ns) hs hown ⟨g2, 0, none⟩ ms.length c2 (nsCells ms) hx (nsCells_len ms) ?_ (nsCells_one ms) hm (by unfold maxLen; omega) hbytes hbase w.heap.size rfl ?_
  · intro j u hj
    have e : (⟨g2, 0, none⟩ : Addr).add j = ⟨g2, j, none⟩ := by
      rcases j with _ | j <;> simp [Addr.add]
    rw [e]
    exact hnews j u hj
  · intro g cap w' h1 h2 h3 h4
    have e : NsOwn w' B (.slice (some ⟨g, 0, none⟩) (ns.length + ms.length) cap) (ns ++ ms) := by
      unfold NsOwn
      rw [nsCells_append, List.length_append]
      exact h1
    have hg : B ≤ g := by
      rcases h3 with h3 | h3
      · rcases hown.2 with ⟨hv, _⟩ | ⟨g', cap', cur, hv, hb, _⟩
        · rw [hv] at h3; cases h3
        · rw [hv] at h3
          injection h3 with h3
          simp at h3
          omega
      · omega
    exact h g cap w' e h2 hg h4
end Go.Proofs.YtmdfdlljeggbbaaGreatDoor
