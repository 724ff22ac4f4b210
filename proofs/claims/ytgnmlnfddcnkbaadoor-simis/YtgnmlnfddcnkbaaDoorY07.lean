/- What the document's own functions answer: StepsFault. (Made by wip/tools/genstf.py.) What winnowfansame.Ints answers. The law SimIs, walked from what the document asks of package sim. (Made by wip/tools/gensmi.py.) The program of a tree, as the landed package prog lays it: plain mathematics. -/
import Derived.Test.YtgnmlnfddcnkbaaDoorY03
import Derived.Test.YtgnmlnfddcnkbaaDoorY06
import Derived.Test.YtgnmlnfddcnkbaaDoorY04
import Derived.Test.YtgnmlnfddcnkbaaDoorY05
namespace Go.Proofs.YtgnmlnfddcnkbaaDoor
set_option linter.unusedSimpArgs false
set_option linter.unusedVariables false
set_option maxRecDepth 100000
open Go.RowKit

theorem cell_new7_0 (w : World) (a0 a1 a2 a3 a4 a5 a6 : Value) (t : TypeId) : (w.alloc (.cells #[a0, a1, a2, a3, a4, a5, a6] t)).cell? ⟨w.heap.size, 0, none⟩ = some a0 := by simp
theorem cell_new7_5 (w : World) (a0 a1 a2 a3 a4 a5 a6 : Value) (t : TypeId) : (w.alloc (.cells #[a0, a1, a2, a3, a4, a5, a6] t)).cell? ⟨w.heap.size, 5, none⟩ = some a5 := by simp
theorem cell_new7_6 (w : World) (a0 a1 a2 a3 a4 a5 a6 : Value) (t : TypeId) : (w.alloc (.cells #[a0, a1, a2, a3, a4, a5, a6] t)).cell? ⟨w.heap.size, 6, none⟩ = some a6 := by simp
theorem scan_at (ss : List St) (h200 : ¬ 200 < ss.length) (h0 : 0 < ss.length) (i : Nat) (n : St) (hn : ss[i]? = some n) (HS : stScan ss.length ss = stScan ss.length (ss.drop i)) :
    (stRange ss.length n → stepsF ss = 1) ∧ (¬ stRange ss.length n → stShape n → stepsF ss = 2) ∧ (¬ stRange ss.length n → ¬ stShape n → stScan ss.length ss = stScan ss.length (ss.drop (i + 1))) := by
  have hz : ¬ ss.length = 0 := by omega
  refine ⟨fun h => ?_, fun h h2 => ?_, fun h h2 => ?_⟩
  · rw [stepsF, if_neg h200, if_neg hz, HS, stScan_drop _ ss i n hn, stBad_range h]; rfl
  · rw [stepsF, if_neg h200, if_neg hz, HS, stScan_drop _ ss i n hn, stBad_shape h h2]; rfl
  · rw [HS, stScan_drop _ ss i n hn, stBad_ok h h2]; rfl
set_option maxHeartbeats 16000000 in
theorem stepsFault_at (ss : List St) (ho : SsOk ss) (b off cap : Nat) (hm : ss.length ≤ maxLen) (w : World) (hlt : b < w.heap.size) (hN : SsAt w b off ss) (h0 : 0 < ss.length) :
    Calls Tryd.prog 15 #[.slice (some ⟨b, off, none⟩) ss.length cap] w fun e w' => e = .returned (.int .i64 (stepsF ss)) ∧ Below w.heap.size w w' := by
  unfold maxLen at hm
  by_cases h200 : 200 < ss.length
  · have g200 : (200 : Int) < (ss.length : Int) := by omega
    have HF : Hid (stepsF ss = 3) := by show _ = _; rw [stepsF, if_pos h200]
    go_enter Tryd.func15, Tryd.ntmps15
    go_wp2
    go_ret
    exact ⟨by rw [HF.out]; rfl, Below.refl _ _⟩
  · have g200 : (ss.length : Int) ≤ 200 := by omega
    have z0 : ((ss.length : Int) == 0) = false := by rw [beq_eq_false_iff_ne]; omega
    go_enter Tryd.func15, Tryd.ntmps15
    go_wp2
    go_loopw [3] (fun v wr => ∃ i : Nat, i ≤ ss.length ∧ v = .int .i64 i ∧ Hid (stScan ss.length ss = stScan ss.length (ss.drop i)) ∧ Below w.heap.size w wr) (fun v _ => ss.length - (intOf v).toNat)
    case atStart => exact ⟨0, by omega, rfl, Eq.refl _, Below.refl _ _⟩
    case round =>
      obtain ⟨i, hi, rfl, HS, hB⟩ := hrel
      by_cases hil : i < ss.length
      · obtain ⟨n, hn⟩ : ∃ n, ss[i]? = some n := ⟨ss[i], List.getElem?_eq_getElem hil⟩
        have hno : n.c.ok := ho n (List.mem_of_getElem? hn)
        obtain ⟨c0, c1, c2, c3, c4, c5, c6⟩ := hN.below hB hlt i n hn
        obtain ⟨F1, F2, F3⟩ := scan_at ss h200 h0 i n hn HS.out
        replace F1 := hid F1
        replace F2 := hid F2
        replace F3 := hid F3
        have HB1 : Hid (∀ o, Below w.heap.size w (wr.alloc o)) := fun o => hB.alloc hB.size o
        have i0 : (0 : Int) ≤ (i : Int) := by omega
        have i1 : (i : Int) < (ss.length : Int) := by omega
        clear hn hN ho HS
        by_cases o1 : n.op < 1
        · skip
          have HF := hid (F1.out (by unfold stRange; omega))
          clear F1 F2 F3
          go_wp2
          go_ret
          exact ⟨by rw [HF.out]; rfl, HB1.out _⟩
        by_cases o5 : 5 < n.op
        · skip
          have HF := hid (F1.out (by unfold stRange; omega))
          clear F1 F2 F3
          go_wp2
          go_ret
          exact ⟨by rw [HF.out]; rfl, HB1.out _⟩
        have hop : n.op = 1 ∨ n.op = 2 ∨ n.op = 3 ∨ n.op = 4 ∨ n.op = 5 := by omega
        rcases hop with hop | hop | hop | hop | hop
        · rw [hop] at c0
          clear o1 o5
          by_cases x0 : n.x < 0
          · skip
            have HF := hid (F1.out (by unfold stRange; omega))
            clear F1 F2 F3
            go_wp2
            go_ret
            exact ⟨by rw [HF.out]; rfl, HB1.out _⟩
          by_cases x1 : (ss.length : Int) ≤ n.x
          · skip
            have x2 : ¬ n.x < (ss.length : Int) := by omega
            have HF := hid (F1.out (by unfold stRange; omega))
            clear F1 F2 F3
            go_wp2
            go_ret
            exact ⟨by rw [HF.out]; rfl, HB1.out _⟩
          have x2 : n.x < (ss.length : Int) := by omega
          have NR : ¬ stRange ss.length n := by unfold stRange; omega
          by_cases yz : n.y = 0
          · rw [yz] at c6
            have HS2 := hid (F3.out NR (by unfold stShape; omega))
            clear F1 F2 F3 NR
            go_wp2
            exact ⟨⟨i + 1, by omega, by go_num, HS2, HB1.out _⟩, by simp [intOf]; omega⟩
          · have yn : (n.y != 0) = true := by simp [yz]
            have HF := hid (F2.out NR (by unfold stShape; omega))
            clear F1 F2 F3 NR
            go_wp2
            go_ret
            exact ⟨by rw [HF.out]; rfl, HB1.out _⟩
        · rw [hop] at c0
          clear o1 o5
          by_cases x0 : n.x < 0
          · skip
            have HF := hid (F1.out (by unfold stRange; omega))
            clear F1 F2 F3
            go_wp2
            go_ret
            exact ⟨by rw [HF.out]; rfl, HB1.out _⟩
          by_cases x1 : (ss.length : Int) ≤ n.x
          · skip
            have x2 : ¬ n.x < (ss.length : Int) := by omega
            have HF := hid (F1.out (by unfold stRange; omega))
            clear F1 F2 F3
            go_wp2
            go_ret
            exact ⟨by rw [HF.out]; rfl, HB1.out _⟩
          have x2 : n.x < (ss.length : Int) := by omega
          by_cases y0 : n.y < 0
          · skip
            have HF := hid (F1.out (by unfold stRange; omega))
            clear F1 F2 F3
            go_wp2
            go_ret
            exact ⟨by rw [HF.out]; rfl, HB1.out _⟩
          by_cases y1 : (ss.length : Int) ≤ n.y
          · skip
            have HF := hid (F1.out (by unfold stRange; omega))
            clear F1 F2 F3
            go_wp2
            go_ret
            exact ⟨by rw [HF.out]; rfl, HB1.out _⟩
          have y2 : n.y < (ss.length : Int) := by omega
          have NR : ¬ stRange ss.length n := by unfold stRange; omega
          go_wp2_with fail
          refine (count_b n.c hno _).mono ?_
          rintro e w1 ⟨c, rfl, HC, hc, hb3⟩
          have HB2 := hid ((HB1.out _).trans (hb3.mono (HB1.out _).size))
          have k0 := hb3.cell (p := ⟨wr.heap.size, 0, none⟩) (by simp)
          have k5 := hb3.cell (p := ⟨wr.heap.size, 5, none⟩) (by simp)
          have k6 := hb3.cell (p := ⟨wr.heap.size, 6, none⟩) (by simp)
          simp only [cell_new7_0, cell_new7_5, cell_new7_6] at k0 k5 k6
          clear hb3
          by_cases hz : n.c.eqb z4 = true
          · have gz : ¬ (0 : Int) < (c : Int) := fun h => (HC.out.1 h) hz
            have NS : ¬ stShape n := fun h => by rcases h with ⟨h1, h2⟩ | ⟨h1, h2⟩ | ⟨h1, h2⟩ <;> first | exact h2 hz | omega
            clear hz
            have HS2 := hid (F3.out NR (NS))
            clear F1 F2 F3 NR
            go_wp2
            exact ⟨⟨i + 1, by omega, by go_num, HS2, HB2.out⟩, by simp [intOf]; omega⟩
          · have gz : (0 : Int) < (c : Int) := HC.out.2 hz
            have HF := hid (F2.out NR (Or.inl ⟨by omega, hz⟩))
            clear F1 F2 F3 NR
            go_wp2
            go_ret
            exact ⟨by rw [HF.out]; rfl, HB2.out⟩
        · rw [hop] at c0
          clear o1 o5
          by_cases x0 : n.x < 0
          · skip
            have HF := hid (F1.out (by unfold stRange; omega))
            clear F1 F2 F3
            go_wp2
            go_ret
            exact ⟨by rw [HF.out]; rfl, HB1.out _⟩
          by_cases x1 : (ss.length : Int) ≤ n.x
          · skip
            have x2 : ¬ n.x < (ss.length : Int) := by omega
            have HF := hid (F1.out (by unfold stRange; omega))
            clear F1 F2 F3
            go_wp2
            go_ret
            exact ⟨by rw [HF.out]; rfl, HB1.out _⟩
          have x2 : n.x < (ss.length : Int) := by omega
          have NR : ¬ stRange ss.length n := by unfold stRange; omega
          go_wp2_with fail
          refine (count_b n.c hno _).mono ?_
          rintro e w1 ⟨c, rfl, HC, hc, hb3⟩
          have HB2 := hid ((HB1.out _).trans (hb3.mono (HB1.out _).size))
          have k0 := hb3.cell (p := ⟨wr.heap.size, 0, none⟩) (by simp)
          have k5 := hb3.cell (p := ⟨wr.heap.size, 5, none⟩) (by simp)
          have k6 := hb3.cell (p := ⟨wr.heap.size, 6, none⟩) (by simp)
          simp only [cell_new7_0, cell_new7_5, cell_new7_6] at k0 k5 k6
          clear hb3
          by_cases hz : n.c.eqb z4 = true
          · have gz : ¬ (0 : Int) < (c : Int) := fun h => (HC.out.1 h) hz
            by_cases yz : n.y = 0
            · rw [yz] at k6
              have NS : ¬ stShape n := fun h => by rcases h with ⟨h1, h2⟩ | ⟨h1, h2⟩ | ⟨h1, h2⟩ <;> first | exact h2 hz | omega
              clear hz
              have HS2 := hid (F3.out NR (NS))
              clear F1 F2 F3 NR
              go_wp2
              exact ⟨⟨i + 1, by omega, by go_num, HS2, HB2.out⟩, by simp [intOf]; omega⟩
            · have yn : (n.y != 0) = true := by simp [yz]
              clear hz
              have HF := hid (F2.out NR (Or.inr (Or.inl ⟨by omega, yz⟩)))
              clear F1 F2 F3 NR
              go_wp2
              go_ret
              exact ⟨by rw [HF.out]; rfl, HB2.out⟩
          · have gz : (0 : Int) < (c : Int) := HC.out.2 hz
            have HF := hid (F2.out NR (Or.inl ⟨by omega, hz⟩))
            clear F1 F2 F3 NR
            go_wp2
            go_ret
            exact ⟨by rw [HF.out]; rfl, HB2.out⟩
        · rw [hop] at c0
          clear o1 o5
          by_cases x0 : n.x < 0
          · skip
            have HF := hid (F1.out (by unfold stRange; omega))
            clear F1 F2 F3
            go_wp2
            go_ret
            exact ⟨by rw [HF.out]; rfl, HB1.out _⟩
          by_cases x1 : (ss.length : Int) ≤ n.x
          · skip
            have x2 : ¬ n.x < (ss.length : Int) := by omega
            have HF := hid (F1.out (by unfold stRange; omega))
            clear F1 F2 F3
            go_wp2
            go_ret
            exact ⟨by rw [HF.out]; rfl, HB1.out _⟩
          have x2 : n.x < (ss.length : Int) := by omega
          have NR : ¬ stRange ss.length n := by unfold stRange; omega
          go_wp2_with fail
          refine (count_b n.c hno _).mono ?_
          rintro e w1 ⟨c, rfl, HC, hc, hb3⟩
          have HB2 := hid ((HB1.out _).trans (hb3.mono (HB1.out _).size))
          have k0 := hb3.cell (p := ⟨wr.heap.size, 0, none⟩) (by simp)
          have k5 := hb3.cell (p := ⟨wr.heap.size, 5, none⟩) (by simp)
          have k6 := hb3.cell (p := ⟨wr.heap.size, 6, none⟩) (by simp)
          simp only [cell_new7_0, cell_new7_5, cell_new7_6] at k0 k5 k6
          clear hb3
          by_cases hz : n.c.eqb z4 = true
          · have gz : ¬ (0 : Int) < (c : Int) := fun h => (HC.out.1 h) hz
            by_cases yz : n.y = 0
            · rw [yz] at k6
              have NS : ¬ stShape n := fun h => by rcases h with ⟨h1, h2⟩ | ⟨h1, h2⟩ | ⟨h1, h2⟩ <;> first | exact h2 hz | omega
              clear hz
              have HS2 := hid (F3.out NR (NS))
              clear F1 F2 F3 NR
              go_wp2
              exact ⟨⟨i + 1, by omega, by go_num, HS2, HB2.out⟩, by simp [intOf]; omega⟩
            · have yn : (n.y != 0) = true := by simp [yz]
              clear hz
              have HF := hid (F2.out NR (Or.inr (Or.inl ⟨by omega, yz⟩)))
              clear F1 F2 F3 NR
              go_wp2
              go_ret
              exact ⟨by rw [HF.out]; rfl, HB2.out⟩
          · have gz : (0 : Int) < (c : Int) := HC.out.2 hz
            have HF := hid (F2.out NR (Or.inl ⟨by omega, hz⟩))
            clear F1 F2 F3 NR
            go_wp2
            go_ret
            exact ⟨by rw [HF.out]; rfl, HB2.out⟩
        · rw [hop] at c0
          clear o1 o5
          have NR : ¬ stRange ss.length n := by unfold stRange; omega
          go_wp2_with fail
          refine (count_b n.c hno _).mono ?_
          rintro e w1 ⟨c, rfl, HC, hc, hb3⟩
          have HB2 := hid ((HB1.out _).trans (hb3.mono (HB1.out _).size))
          have k0 := hb3.cell (p := ⟨wr.heap.size, 0, none⟩) (by simp)
          have k5 := hb3.cell (p := ⟨wr.heap.size, 5, none⟩) (by simp)
          have k6 := hb3.cell (p := ⟨wr.heap.size, 6, none⟩) (by simp)
          simp only [cell_new7_0, cell_new7_5, cell_new7_6] at k0 k5 k6
          clear hb3
          by_cases hz : n.c.eqb z4 = true
          · have gz : ¬ (0 : Int) < (c : Int) := fun h => (HC.out.1 h) hz
            by_cases yz : n.y = 0
            · rw [yz] at k6
              by_cases xz : n.x = 0
              · rw [xz] at k5
                have NS : ¬ stShape n := fun h => by rcases h with ⟨h1, h2⟩ | ⟨h1, h2⟩ | ⟨h1, h2⟩ <;> first | exact h2 hz | omega
                clear hz
                have HS2 := hid (F3.out NR (NS))
                clear F1 F2 F3 NR
                go_wp2
                exact ⟨⟨i + 1, by omega, by go_num, HS2, HB2.out⟩, by simp [intOf]; omega⟩
              · have xn : (n.x != 0) = true := by simp [xz]
                clear hz
                have HF := hid (F2.out NR (Or.inr (Or.inr ⟨hop, xz⟩)))
                clear F1 F2 F3 NR
                go_wp2
                go_ret
                exact ⟨by rw [HF.out]; rfl, HB2.out⟩
            · have yn : (n.y != 0) = true := by simp [yz]
              clear hz
              have HF := hid (F2.out NR (Or.inr (Or.inl ⟨by omega, yz⟩)))
              clear F1 F2 F3 NR
              go_wp2
              go_ret
              exact ⟨by rw [HF.out]; rfl, HB2.out⟩
          · have gz : (0 : Int) < (c : Int) := HC.out.2 hz
            have HF := hid (F2.out NR (Or.inl ⟨by omega, hz⟩))
            clear F1 F2 F3 NR
            go_wp2
            go_ret
            exact ⟨by rw [HF.out]; rfl, HB2.out⟩
      · have hi2 : i = ss.length := by omega
        subst hi2
        have e0 : stScan ss.length ss = 0 := by rw [HS.out, List.drop_length]; rfl
        have HF : Hid (stepsF ss = 0) := by
          show _ = _
          rw [stepsF, if_neg h200, if_neg (by omega), e0]
        go_wp2
        go_ret
        exact ⟨by rw [HF.out]; rfl, hB⟩
set_option maxHeartbeats 1000000 in
theorem stepsFault_nil (a : Option Addr) (cap : Nat) (w : World) :
    Calls Tryd.prog 15 #[.slice a 0 cap] w fun e w' => e = .returned (.int .i64 4) ∧ Below w.heap.size w w' := by
  go_enter Tryd.func15, Tryd.ntmps15
  go_wp2
  go_ret
  exact ⟨rfl, Below.refl _ _⟩
theorem stepsFault_any (ss : List St) (ho : SsOk ss) (v : Value) (w : World) (hN : SsIn w v ss) :
    Calls Tryd.prog 15 #[v] w fun e w' => e = .returned (.int .i64 (stepsF ss)) ∧ Below w.heap.size w w' := by
  obtain ⟨a, cap, rfl, hm, h | ⟨b, off, rfl, hlt, hn⟩⟩ := hN
  · subst h
    exact stepsFault_nil a cap w
  · by_cases h0 : 0 < ss.length
    · exact stepsFault_at ss ho b off cap hm w hlt hn h0
    · have : ss = [] := List.eq_nil_of_length_eq_zero (by omega)
      subst this
      exact stepsFault_nil _ cap w
end Go.Proofs.YtgnmlnfddcnkbaaDoor
namespace Go.Proofs.YtgnmlnfddcnkbaaDoor
set_option linter.unusedSimpArgs false
set_option linter.unusedVariables false
set_option maxRecDepth 100000
open Go.RowKit
set_option maxHeartbeats 1000000 in
theorem ints_len (x y : List Nat) (a1 a2 : Option Addr) (c1 c2 : Nat) (h1 : x.length ≤ maxLen) (h2 : y.length ≤ maxLen) (hne : x.length ≠ y.length) (w : World) :
    Calls Tryd.prog 10 #[.slice a1 x.length c1, .slice a2 y.length c2] w fun e w' => e = .returned (.bool (x == y)) ∧ Below w.heap.size w w' := by
  have e : (x == y) = false := by
    rw [beq_eq_false_iff_ne]
    intro e
    exact hne (by rw [e])
  rw [e]
  have hb : ((x.length : Int) != (y.length : Int)) = true := by rw [bne_iff_ne]; omega
  clear hne e
  go_enter Tryd.func10, Tryd.ntmps10
  go_wp2
  go_ret
  exact ⟨rfl, Below.refl _ _⟩
set_option maxHeartbeats 4000000 in
theorem ints_same (x y : List Nat) (b1 o1 b2 o2 : Nat) (c1 c2 : Nat) (h1 : x.length ≤ maxLen) (hlen : x.length = y.length) (w : World) (hl1 : b1 < w.heap.size) (hl2 : b2 < w.heap.size) (hx : IsAt w b1 o1 x) (hy : IsAt w b2 o2 y) :
    Calls Tryd.prog 10 #[.slice (some ⟨b1, o1, none⟩) x.length c1, .slice (some ⟨b2, o2, none⟩) x.length c2] w fun e w' => e = .returned (.bool (x == y)) ∧ Below w.heap.size w w' := by
  unfold maxLen at h1
  have HL := (show Hid _ from hlen)
  clear hlen
  go_enter Tryd.func10, Tryd.ntmps10
  go_wp2
  go_loopw [5] (fun v wr => ∃ i : Nat, i ≤ x.length ∧ v = .int .i64 i ∧ Hid ((x == y) = (x.drop i == y.drop i)) ∧ Below w.heap.size w wr) (fun v _ => x.length - (intOf v).toNat)
  case atStart => exact ⟨0, by omega, rfl, Eq.refl _, Below.refl _ _⟩
  case round =>
    obtain ⟨i, hi, rfl, HS, hB⟩ := hrel
    by_cases hil : i < x.length
    · obtain ⟨n, hn⟩ : ∃ n, x[i]? = some n := ⟨x[i], List.getElem?_eq_getElem hil⟩
      obtain ⟨m, hm⟩ : ∃ m, y[i]? = some m := ⟨y[i]'(by rw [← HL.out]; exact hil), List.getElem?_eq_getElem (by rw [← HL.out]; exact hil)⟩
      have a0 := (hx.below hB hl1) i n hn
      have d0 := (hy.below hB hl2) i m hm
      have HD : Hid ((x.drop i == y.drop i) = (n == m && x.drop (i + 1) == y.drop (i + 1))) := by show _ = _; rw [drop_at x i n hn, drop_at y i m hm]; rfl
      have i0 : (0 : Int) ≤ (i : Int) := by omega
      have i1 : (i : Int) < (x.length : Int) := by omega
      clear hn hm
      by_cases hq : n = m
      · subst hq
        have HF : Hid ((x == y) = (x.drop (i + 1) == y.drop (i + 1))) := by show _ = _; rw [HS.out, HD.out]; simp
        go_wp2_with fail
        try go_quiet (fail)
        go_wp2
        exact ⟨⟨i + 1, by omega, by go_num, HF, by first | exact hB | exact hB.trans ((below_drewN' wr _).mono hB.size)⟩, by simp [intOf]; omega⟩
      · have HF : Hid ((x == y) = false) := by show _ = _; rw [HS.out, HD.out]; simp [hq]
        have pq : ((n : Int) != (m : Int)) = true := by rw [bne_iff_ne]; omega
        clear hq
        go_wp2_with fail
        try go_quiet (fail)
        go_wp2
        go_ret
        exact ⟨by rw [HF.out]; rfl, by first | exact hB | exact hB.trans ((below_drewN' wr _).mono hB.size)⟩
    · have HF : Hid ((x == y) = true) := by
        show _ = _
        have e1 : x.drop i = [] := List.drop_eq_nil_of_le (by omega)
        have e2 : y.drop i = [] := List.drop_eq_nil_of_le (by have := HL.out; omega)
        rw [HS.out, e1, e2]; rfl
      go_wp2
      go_ret
      exact ⟨by rw [HF.out]; rfl, hB⟩
set_option maxHeartbeats 1000000 in
theorem ints_nil (a1 a2 : Option Addr) (c1 c2 : Nat) (w : World) :
    Calls Tryd.prog 10 #[.slice a1 0 c1, .slice a2 0 c2] w fun e w' => e = .returned (.bool true) ∧ Below w.heap.size w w' := by
  go_enter Tryd.func10, Tryd.ntmps10
  go_wp2
  go_loop [5] (fun v => v = .int .i64 0) (fun _ => 0)
  case atStart => rfl
  case round =>
    subst hrel
    go_wp2
    go_ret
    exact ⟨rfl, Below.refl _ _⟩
theorem ints_any (x y : List Nat) (v u : Value) (w : World) (hx : IsIn w v x) (hy : IsIn w u y) :
    Calls Tryd.prog 10 #[v, u] w fun e w' => e = .returned (.bool (x == y)) ∧ Below w.heap.size w w' := by
  obtain ⟨a1, c1, rfl, h1, hx⟩ := hx
  obtain ⟨a2, c2, rfl, h2, hy⟩ := hy
  by_cases hlen : x.length = y.length
  · rcases hx with hx | ⟨b1, o1, rfl, hl1, hx⟩
    · subst hx
      have : y = [] := List.eq_nil_of_length_eq_zero (by simpa using hlen.symm)
      subst this
      exact ints_nil a1 a2 c1 c2 w
    · rcases hy with hy | ⟨b2, o2, rfl, hl2, hy⟩
      · subst hy
        have : x = [] := List.eq_nil_of_length_eq_zero (by simpa using hlen)
        subst this
        exact ints_nil _ a2 c1 c2 w
      · rw [← hlen]
        exact ints_same x y b1 o1 b2 o2 c1 c2 h1 hlen w hl1 hl2 hx hy
  · exact ints_len x y a1 a2 c1 c2 h1 h2 hlen w
end Go.Proofs.YtgnmlnfddcnkbaaDoor
namespace Go.Proofs.YtgnmlnfddcnkbaaDoor
set_option linter.unusedSimpArgs false
set_option linter.unusedVariables false
set_option maxRecDepth 100000
open Go.RowKit
theorem lastI_nil : lastI [] = -1 := rfl
theorem lastI_some {l : List Nat} {x : Nat} (h : l[l.length - 1]? = some x) : lastI l = (x : Int) := by
  unfold lastI
  rw [List.getLast?_eq_getElem?, h]
set_option maxHeartbeats 8000000 in
theorem simIs_fault {X : World → Prop} (hXb : Lasts X) (P : SimC X) (L : SimL X) (ss : List St) (v : Value) (s : ByteArray) (hs : s.size ≤ maxLen) (i : Int) (w : World) (hX : X w) (hS : SsIn w v ss) (wS : ∀ n ∈ ss, n.wf) (hE : w.cell? ⟨1, 0, none⟩ = some (rty 25)) (h0 : 1 < w.heap.size) (hf : ¬ stepsF ss = 0) :
    Calls Tryd.prog 5 #[v, .string s, .int .i64 i] w fun e w' => e = .returned (.bool true) ∧ Below w.heap.size w w' := by
  have HOS : SsOk ss := fun s hs => C4.wf_ok (wS s hs).2.1
  have hv : simE ss s.size i = stepsF ss := by unfold simE; rw [if_neg hf]
  have hne : ¬ simE ss s.size i = 0 := by rw [hv]; exact hf
  have HSF : Hid (∀ w', Below w.heap.size w w' → _) := fun w' hb => stepsFault_any ss HOS v w' (hS.below hb)
  have HP : Hid (∀ w', Below w.heap.size w w' → _) := fun w' hb => P.bad ss v s i w' (hS.below hb) wS hs hne
  have HL : Hid (∀ w', Below w.heap.size w w' → _) := fun w' hb => L.bad ss v s i w' (hS.below hb) wS hs hne
  have HE1 : Hid (∀ w', Below w.heap.size w w' → _) := fun w' hb => error_self (simE ss s.size i) w' ((hb.cell (p := ⟨1, 0, none⟩) h0).trans hE)
  rw [show errV (simE ss s.size i) = .iface 45 (.int .i64 (simE ss s.size i)) by unfold errV; rw [if_neg hne]] at HP HL HE1
  rw [hv] at HP HL HE1
  have fz : (stepsF ss == 0) = false := by rw [beq_eq_false_iff_ne]; exact hf
  have B := hid (Below.refl w.heap.size w)
  obtain ⟨va, vc, rfl, vm⟩ := ssIn_form hS
  unfold maxLen at hs vm
  clear hS P L hX hXb
  go_enter Tryd.func5, Tryd.ntmps5
  go_wp2_with fail
  refine Calls.mono (HSF.out _ B.out) ?_
  rintro e w1 ⟨rfl, hb⟩
  replace B := hid (B.out.trans (hb.mono B.out.size))
  clear hb
  go_wp2_with fail
  refine Calls.mono (HP.out _ B.out) ?_
  rintro e w2 ⟨u, rfl, hb, hu⟩
  replace B := hid (B.out.trans (hb.mono B.out.size))
  clear hb
  obtain ⟨ua, uc, rfl, _⟩ := isIn_form hu
  have HU := hid hu
  simp only [List.length_nil]
  clear hu
  go_wp2_with fail
  refine Calls.mono (HE1.out _ B.out) ?_
  rintro e w3 ⟨rfl, hb⟩
  replace B := hid (B.out.trans (hb.mono B.out.size))
  clear hb
  have HI := hid (ints_nil ua none uc 0 w3)
  go_wp2_with fail
  refine Calls.mono HI.out ?_
  rintro e w4 ⟨rfl, hb⟩
  replace B := hid (B.out.trans (hb.mono B.out.size))
  clear hb
  go_wp2_with fail
  refine Calls.mono (HL.out _ B.out) ?_
  rintro e w5 ⟨rfl, hb⟩
  replace B := hid (B.out.trans (hb.mono B.out.size))
  clear hb
  go_wp2_with fail
  refine Calls.mono (HE1.out _ B.out) ?_
  rintro e w6 ⟨rfl, hb⟩
  replace B := hid (B.out.trans (hb.mono B.out.size))
  clear hb
  go_wp2
  go_ret
  exact ⟨rfl, B.out⟩
set_option maxHeartbeats 8000000 in
theorem simIs_full {X : World → Prop} (hXb : Lasts X) (P : SimC X) (L : SimL X) (ss : List St) (v : Value) (s : ByteArray) (hs : s.size ≤ maxLen) (i : Int) (w : World) (hX : X w) (hS : SsIn w v ss) (wS : ∀ n ∈ ss, n.wf) (hE : w.cell? ⟨1, 0, none⟩ = some (rty 25)) (h0 : 1 < w.heap.size) (hf : stepsF ss = 0) (h4 : 400 < s.size) :
    Calls Tryd.prog 5 #[v, .string s, .int .i64 i] w fun e w' => e = .returned (.bool true) ∧ Below w.heap.size w w' := by
  have HOS : SsOk ss := fun s hs => C4.wf_ok (wS s hs).2.1
  have hv : simE ss s.size i = 3 := by unfold simE; rw [if_pos hf, if_pos h4]
  have hne : ¬ simE ss s.size i = 0 := by rw [hv]; decide
  have HSF : Hid (∀ w', Below w.heap.size w w' → _) := fun w' hb => stepsFault_any ss HOS v w' (hS.below hb)
  have HP : Hid (∀ w', Below w.heap.size w w' → _) := fun w' hb => P.bad ss v s i w' (hS.below hb) wS hs hne
  have HL : Hid (∀ w', Below w.heap.size w w' → _) := fun w' hb => L.bad ss v s i w' (hS.below hb) wS hs hne
  have HE1 : Hid (∀ w', Below w.heap.size w w' → _) := fun w' hb => error_self (simE ss s.size i) w' ((hb.cell (p := ⟨1, 0, none⟩) h0).trans hE)
  rw [show errV (simE ss s.size i) = .iface 45 (.int .i64 (simE ss s.size i)) by unfold errV; rw [if_neg hne]] at HP HL HE1
  rw [hv] at HP HL HE1
  rw [hf] at HSF
  have g4 : (400 : Int) < (s.size : Int) := by omega
  have B := hid (Below.refl w.heap.size w)
  obtain ⟨va, vc, rfl, vm⟩ := ssIn_form hS
  unfold maxLen at hs vm
  clear hS P L hX hXb
  go_enter Tryd.func5, Tryd.ntmps5
  go_wp2_with fail
  refine Calls.mono (HSF.out _ B.out) ?_
  rintro e w1 ⟨rfl, hb⟩
  replace B := hid (B.out.trans (hb.mono B.out.size))
  clear hb
  go_wp2_with fail
  refine Calls.mono (HP.out _ B.out) ?_
  rintro e w2 ⟨u, rfl, hb, hu⟩
  replace B := hid (B.out.trans (hb.mono B.out.size))
  clear hb
  obtain ⟨ua, uc, rfl, _⟩ := isIn_form hu
  have HU := hid hu
  simp only [List.length_nil]
  clear hu
  go_wp2_with fail
  refine Calls.mono (HE1.out _ B.out) ?_
  rintro e w3 ⟨rfl, hb⟩
  replace B := hid (B.out.trans (hb.mono B.out.size))
  clear hb
  have HI := hid (ints_nil ua none uc 0 w3)
  go_wp2_with fail
  refine Calls.mono HI.out ?_
  rintro e w4 ⟨rfl, hb⟩
  replace B := hid (B.out.trans (hb.mono B.out.size))
  clear hb
  go_wp2_with fail
  refine Calls.mono (HL.out _ B.out) ?_
  rintro e w5 ⟨rfl, hb⟩
  replace B := hid (B.out.trans (hb.mono B.out.size))
  clear hb
  go_wp2_with fail
  refine Calls.mono (HE1.out _ B.out) ?_
  rintro e w6 ⟨rfl, hb⟩
  replace B := hid (B.out.trans (hb.mono B.out.size))
  clear hb
  go_wp2
  go_ret
  exact ⟨rfl, B.out⟩
set_option maxHeartbeats 8000000 in
theorem simIs_low {X : World → Prop} (hXb : Lasts X) (P : SimC X) (L : SimL X) (ss : List St) (v : Value) (s : ByteArray) (hs : s.size ≤ maxLen) (i : Int) (w : World) (hX : X w) (hS : SsIn w v ss) (wS : ∀ n ∈ ss, n.wf) (hE : w.cell? ⟨1, 0, none⟩ = some (rty 25)) (h0 : 1 < w.heap.size) (hf : stepsF ss = 0) (h4 : ¬ 400 < s.size) (hi : i < 0) :
    Calls Tryd.prog 5 #[v, .string s, .int .i64 i] w fun e w' => e = .returned (.bool true) ∧ Below w.heap.size w w' := by
  have HOS : SsOk ss := fun s hs => C4.wf_ok (wS s hs).2.1
  have hv : simE ss s.size i = 1 := by unfold simE; rw [if_pos hf, if_neg h4, if_neg (by omega)]
  have hne : ¬ simE ss s.size i = 0 := by rw [hv]; decide
  have HSF : Hid (∀ w', Below w.heap.size w w' → _) := fun w' hb => stepsFault_any ss HOS v w' (hS.below hb)
  have HP : Hid (∀ w', Below w.heap.size w w' → _) := fun w' hb => P.bad ss v s i w' (hS.below hb) wS hs hne
  have HL : Hid (∀ w', Below w.heap.size w w' → _) := fun w' hb => L.bad ss v s i w' (hS.below hb) wS hs hne
  have HE1 : Hid (∀ w', Below w.heap.size w w' → _) := fun w' hb => error_self (simE ss s.size i) w' ((hb.cell (p := ⟨1, 0, none⟩) h0).trans hE)
  rw [show errV (simE ss s.size i) = .iface 45 (.int .i64 (simE ss s.size i)) by unfold errV; rw [if_neg hne]] at HP HL HE1
  rw [hv] at HP HL HE1
  rw [hf] at HSF
  have g4 : ¬ (400 : Int) < (s.size : Int) := by omega
  have B := hid (Below.refl w.heap.size w)
  obtain ⟨va, vc, rfl, vm⟩ := ssIn_form hS
  unfold maxLen at hs vm
  clear hS P L hX hXb
  go_enter Tryd.func5, Tryd.ntmps5
  go_wp2_with fail
  refine Calls.mono (HSF.out _ B.out) ?_
  rintro e w1 ⟨rfl, hb⟩
  replace B := hid (B.out.trans (hb.mono B.out.size))
  clear hb
  go_wp2_with fail
  refine Calls.mono (HP.out _ B.out) ?_
  rintro e w2 ⟨u, rfl, hb, hu⟩
  replace B := hid (B.out.trans (hb.mono B.out.size))
  clear hb
  obtain ⟨ua, uc, rfl, _⟩ := isIn_form hu
  have HU := hid hu
  simp only [List.length_nil]
  clear hu
  go_wp2_with fail
  refine Calls.mono (HE1.out _ B.out) ?_
  rintro e w3 ⟨rfl, hb⟩
  replace B := hid (B.out.trans (hb.mono B.out.size))
  clear hb
  have HI := hid (ints_nil ua none uc 0 w3)
  go_wp2_with fail
  refine Calls.mono HI.out ?_
  rintro e w4 ⟨rfl, hb⟩
  replace B := hid (B.out.trans (hb.mono B.out.size))
  clear hb
  go_wp2_with fail
  refine Calls.mono (HL.out _ B.out) ?_
  rintro e w5 ⟨rfl, hb⟩
  replace B := hid (B.out.trans (hb.mono B.out.size))
  clear hb
  go_wp2_with fail
  refine Calls.mono (HE1.out _ B.out) ?_
  rintro e w6 ⟨rfl, hb⟩
  replace B := hid (B.out.trans (hb.mono B.out.size))
  clear hb
  go_wp2
  go_ret
  exact ⟨rfl, B.out⟩
set_option maxHeartbeats 8000000 in
theorem simIs_high {X : World → Prop} (hXb : Lasts X) (P : SimC X) (L : SimL X) (ss : List St) (v : Value) (s : ByteArray) (hs : s.size ≤ maxLen) (i : Int) (w : World) (hX : X w) (hS : SsIn w v ss) (wS : ∀ n ∈ ss, n.wf) (hE : w.cell? ⟨1, 0, none⟩ = some (rty 25)) (h0 : 1 < w.heap.size) (hf : stepsF ss = 0) (h4 : ¬ 400 < s.size) (hi0 : ¬ i < 0) (hi : (s.size : Int) < i) :
    Calls Tryd.prog 5 #[v, .string s, .int .i64 i] w fun e w' => e = .returned (.bool true) ∧ Below w.heap.size w w' := by
  have HOS : SsOk ss := fun s hs => C4.wf_ok (wS s hs).2.1
  have hv : simE ss s.size i = 1 := by unfold simE; rw [if_pos hf, if_neg h4, if_neg (by omega)]
  have hne : ¬ simE ss s.size i = 0 := by rw [hv]; decide
  have HSF : Hid (∀ w', Below w.heap.size w w' → _) := fun w' hb => stepsFault_any ss HOS v w' (hS.below hb)
  have HP : Hid (∀ w', Below w.heap.size w w' → _) := fun w' hb => P.bad ss v s i w' (hS.below hb) wS hs hne
  have HL : Hid (∀ w', Below w.heap.size w w' → _) := fun w' hb => L.bad ss v s i w' (hS.below hb) wS hs hne
  have HE1 : Hid (∀ w', Below w.heap.size w w' → _) := fun w' hb => error_self (simE ss s.size i) w' ((hb.cell (p := ⟨1, 0, none⟩) h0).trans hE)
  rw [show errV (simE ss s.size i) = .iface 45 (.int .i64 (simE ss s.size i)) by unfold errV; rw [if_neg hne]] at HP HL HE1
  rw [hv] at HP HL HE1
  rw [hf] at HSF
  have g4 : ¬ (400 : Int) < (s.size : Int) := by omega
  have B := hid (Below.refl w.heap.size w)
  obtain ⟨va, vc, rfl, vm⟩ := ssIn_form hS
  unfold maxLen at hs vm
  clear hS P L hX hXb
  go_enter Tryd.func5, Tryd.ntmps5
  go_wp2_with fail
  refine Calls.mono (HSF.out _ B.out) ?_
  rintro e w1 ⟨rfl, hb⟩
  replace B := hid (B.out.trans (hb.mono B.out.size))
  clear hb
  go_wp2_with fail
  refine Calls.mono (HP.out _ B.out) ?_
  rintro e w2 ⟨u, rfl, hb, hu⟩
  replace B := hid (B.out.trans (hb.mono B.out.size))
  clear hb
  obtain ⟨ua, uc, rfl, _⟩ := isIn_form hu
  have HU := hid hu
  simp only [List.length_nil]
  clear hu
  go_wp2_with fail
  refine Calls.mono (HE1.out _ B.out) ?_
  rintro e w3 ⟨rfl, hb⟩
  replace B := hid (B.out.trans (hb.mono B.out.size))
  clear hb
  have HI := hid (ints_nil ua none uc 0 w3)
  go_wp2_with fail
  refine Calls.mono HI.out ?_
  rintro e w4 ⟨rfl, hb⟩
  replace B := hid (B.out.trans (hb.mono B.out.size))
  clear hb
  go_wp2_with fail
  refine Calls.mono (HL.out _ B.out) ?_
  rintro e w5 ⟨rfl, hb⟩
  replace B := hid (B.out.trans (hb.mono B.out.size))
  clear hb
  go_wp2_with fail
  refine Calls.mono (HE1.out _ B.out) ?_
  rintro e w6 ⟨rfl, hb⟩
  replace B := hid (B.out.trans (hb.mono B.out.size))
  clear hb
  go_wp2
  go_ret
  exact ⟨rfl, B.out⟩
set_option maxHeartbeats 8000000 in
theorem simIs_ok {X : World → Prop} (hXb : Lasts X) (P : SimC X) (L : SimL X) (ss : List St) (v : Value) (s : ByteArray) (hs : s.size ≤ maxLen) (i : Nat) (w : World) (hX : X w) (hS : SsIn w v ss) (wS : ∀ n ∈ ss, n.wf) (hE : w.cell? ⟨1, 0, none⟩ = some (rty 25)) (h0 : 1 < w.heap.size) (hf : stepsF ss = 0) (h4 : ¬ 400 < s.size) (hi : i ≤ s.size) :
    Calls Tryd.prog 5 #[v, .string s, .int .i64 (i : Int)] w fun e w' => e = .returned (.bool true) ∧ Below w.heap.size w w' := by
  have HOS : SsOk ss := fun s hs => C4.wf_ok (wS s hs).2.1
  have hz : simE ss s.size i = 0 := (simE_zero _ _ _).2 ⟨hf, by omega, by omega, by omega⟩
  obtain ⟨l, hl⟩ := run_total ss s.data.toList i
  have hll : l.length ≤ 401 := by
    rcases rise_len l 0 (s.size + 1) hl.1 (fun j hj => ⟨Nat.zero_le _, by
      obtain ⟨q, _, _, e⟩ := (hl.2 j).1 hj
      rw [← e, sl]
      exact Nat.mod_lt _ (by omega)⟩) with h | h
    · omega
    · rw [h]; simp
  have HSF : Hid (∀ w', Below w.heap.size w w' → _) := fun w' hb => stepsFault_any ss HOS v w' (hS.below hb)
  rw [hf] at HSF
  have HRO : Hid (∀ w', Below w.heap.size w w' → _) := fun w' hb => runOf_any ss hf HOS v s (by omega) i hi w' (hS.below hb) l hl
  have HP : Hid (∀ w', Below w.heap.size w w' → _) := fun w' hb => P.ends ss v s i l w' (hXb w w' hX hb) (hS.below hb) wS hz hl
  have HL : Hid (∀ w', Below w.heap.size w w' → _) := fun w' hb => L.long ss v s i l w' (hXb w w' hX hb) (hS.below hb) wS hz hl
  have HE1 : Hid (∀ w', Below w.heap.size w w' → _) := fun w' hb => error_self 0 w' ((hb.cell (p := ⟨1, 0, none⟩) h0).trans hE)
  rw [show errV 0 = .nilIface from rfl] at HE1
  have g4 : ¬ (400 : Int) < (s.size : Int) := by omega
  have gi0 : ¬ (i : Int) < 0 := by omega
  have gi1 : ¬ (s.size : Int) < (i : Int) := by omega
  have B := hid (Below.refl w.heap.size w)
  obtain ⟨va, vc, rfl, vm⟩ := ssIn_form hS
  unfold maxLen at hs vm
  clear hS P L hX hXb hz
  go_enter Tryd.func5, Tryd.ntmps5
  go_wp2_with fail
  refine Calls.mono (HSF.out _ B.out) ?_
  rintro e w1 ⟨rfl, hb⟩
  replace B := hid (B.out.trans (hb.mono B.out.size))
  clear hb
  go_wp2_with fail
  refine Calls.mono (HRO.out _ B.out) ?_
  rintro e w2 ⟨r, rfl, hr, hb⟩
  replace B := hid (B.out.trans (hb.mono B.out.size))
  clear hb
  have HR := hid hr
  cases hl' : l with
  | nil =>
    subst hl'
    obtain ⟨ra, rc, rfl, _⟩ := isIn_form hr
    simp only [List.length_nil]
    clear hr
    go_wp2_with fail
    refine Calls.mono (HP.out _ B.out) ?_
    rintro e w3 ⟨u, rfl, hb, hu⟩
    have HR3 := hid (HR.out.below hb)
    replace B := hid (B.out.trans (hb.mono B.out.size))
    clear hb
    obtain ⟨ua, uc, rfl, _⟩ := isIn_form hu
    have HU := hid hu
    clear hu
    go_wp2_with fail
    refine Calls.mono (HE1.out _ B.out) ?_
    rintro e w4 ⟨rfl, hb⟩
    have HI := hid (ints_any [] []  _ _ w4 (HU.out.below hb) (HR3.out.below hb))
    rw [beq_self_eq_true] at HI
    replace B := hid (B.out.trans (hb.mono B.out.size))
    clear hb
    go_wp2_with fail
    refine Calls.mono HI.out ?_
    rintro e w5 ⟨rfl, hb⟩
    replace B := hid (B.out.trans (hb.mono B.out.size))
    clear hb
    go_wp2_with fail
    refine Calls.mono (HL.out _ B.out) ?_
    rintro e w6 ⟨rfl, hb⟩
    replace B := hid (B.out.trans (hb.mono B.out.size))
    clear hb
    go_wp2_with fail
    refine Calls.mono (HE1.out _ B.out) ?_
    rintro e w7 ⟨rfl, hb⟩
    replace B := hid (B.out.trans (hb.mono B.out.size))
    clear hb
    go_wp2
    go_ret
    exact ⟨rfl, B.out⟩
  | cons y l' =>
    have hpos : 0 < l.length := by rw [hl']; simp
    obtain ⟨x, hx⟩ : ∃ x, l[l.length - 1]? = some x := ⟨l[l.length - 1], List.getElem?_eq_getElem (by omega)⟩
    have hlast := lastI_some hx
    obtain ⟨ra, rc, rfl, _, hor⟩ := hr
    rcases hor with hor | ⟨rb, ro, rfl, hrb, hra⟩
    · rw [hor] at hpos; simp at hpos
    have c0 := hra _ _ hx
    rw [hlast] at HL
    clear hl'
    have hp1 : (0 : Int) < (l.length : Int) := by omega
    have hp2 : (0 : Int) ≤ (l.length : Int) - 1 := by omega
    have hp3 : (l.length : Int) - 1 < (l.length : Int) := by omega
    have hp4 : ((l.length : Int) - 1).toNat = l.length - 1 := by omega
    go_wp2_with fail
    refine Calls.mono (HP.out _ B.out) ?_
    rintro e w3 ⟨u, rfl, hb, hu⟩
    have HR3 := hid (HR.out.below hb)
    replace B := hid (B.out.trans (hb.mono B.out.size))
    clear hb
    obtain ⟨ua, uc, rfl, _⟩ := isIn_form hu
    have HU := hid hu
    clear hu
    go_wp2_with fail
    refine Calls.mono (HE1.out _ B.out) ?_
    rintro e w4 ⟨rfl, hb⟩
    have HI := hid (ints_any l l _ _ w4 (HU.out.below hb) (HR3.out.below hb))
    rw [beq_self_eq_true] at HI
    replace B := hid (B.out.trans (hb.mono B.out.size))
    clear hb
    go_wp2_with fail
    refine Calls.mono HI.out ?_
    rintro e w5 ⟨rfl, hb⟩
    replace B := hid (B.out.trans (hb.mono B.out.size))
    clear hb
    go_wp2_with fail
    refine Calls.mono (HL.out _ B.out) ?_
    rintro e w6 ⟨rfl, hb⟩
    replace B := hid (B.out.trans (hb.mono B.out.size))
    clear hb
    go_wp2_with fail
    refine Calls.mono (HE1.out _ B.out) ?_
    rintro e w7 ⟨rfl, hb⟩
    replace B := hid (B.out.trans (hb.mono B.out.size))
    clear hb
    go_wp2
    go_ret
    exact ⟨rfl, B.out⟩
theorem simIs_any {X : World → Prop} (hXb : Lasts X) (P : SimC X) (L : SimL X) (ss : List St) (v : Value) (s : ByteArray) (hs : s.size ≤ maxLen) (i : Int) (w : World) (hX : X w) (hS : SsIn w v ss) (wS : ∀ n ∈ ss, n.wf) (hE : w.cell? ⟨1, 0, none⟩ = some (rty 25)) (h0 : 1 < w.heap.size) :
    Calls Tryd.prog 5 #[v, .string s, .int .i64 i] w fun e w' => e = .returned (.bool true) ∧ Below w.heap.size w w' := by
  by_cases hf : stepsF ss = 0
  · by_cases h4 : 400 < s.size
    · exact simIs_full hXb P L ss v s hs i w hX hS wS hE h0 hf h4
    · by_cases hi0 : i < 0
      · exact simIs_low hXb P L ss v s hs i w hX hS wS hE h0 hf h4 hi0
      · by_cases hi : (s.size : Int) < i
        · exact simIs_high hXb P L ss v s hs i w hX hS wS hE h0 hf h4 hi0 hi
        · obtain ⟨k, rfl⟩ : ∃ k : Nat, i = (k : Int) := ⟨i.toNat, by omega⟩
          exact simIs_ok hXb P L ss v s hs k w hX hS wS hE h0 hf h4 (by omega)
  · exact simIs_fault hXb P L ss v s hs i w hX hS wS hE h0 hf
end Go.Proofs.YtgnmlnfddcnkbaaDoor
namespace Go.Proofs.YtgnmlnfddcnkbaaDoor
set_option linter.unusedSimpArgs false
set_option linter.unusedVariables false
set_option maxRecDepth 100000
open Go.RowKit
/-- A step that is not known yet. -/
abbrev stZ : St := ⟨0, z4, 0, 0⟩
/-- A fork. -/
abbrev stF (x y : Nat) : St := ⟨2, z4, x, y⟩
/-- The last step. -/
abbrev stD : St := ⟨5, z4, 0, 0⟩
/-- The steps of a tree, the first of them being step p. -/
def Rx.cod : Rx → Nat → List St
  | .leaf n, p => if n.op = 1 then [⟨1, n.c, ((p + 1 : Nat) : Int), 0⟩] else if n.op = 8 then [⟨3, z4, ((p + 1 : Nat) : Int), 0⟩] else if n.op = 9 then [⟨4, z4, ((p + 1 : Nat) : Int), 0⟩] else []
  | .one n a, p =>
    if n.op = 5 then stF (p + 1) (p + 1 + (a.cod (p + 1)).length + 1) :: (a.cod (p + 1) ++ [stF (p + 1) (p + 1 + (a.cod (p + 1)).length + 1)])
    else if n.op = 6 then a.cod p ++ [stF p (p + (a.cod p).length + 1)]
    else stF (p + 1) (p + 1 + (a.cod (p + 1)).length) :: a.cod (p + 1)
  | .two n a b, p =>
    if n.op = 3 then a.cod p ++ b.cod (p + (a.cod p).length)
    else stF (p + 1) (p + 1 + (a.cod (p + 1)).length + 1) :: (a.cod (p + 1) ++ (stF (p + 1 + (a.cod (p + 1)).length + 1 + (b.cod (p + 1 + (a.cod (p + 1)).length + 1)).length) (p + 1 + (a.cod (p + 1)).length + 1 + (b.cod (p + 1 + (a.cod (p + 1)).length + 1)).length) :: b.cod (p + 1 + (a.cod (p + 1)).length + 1)))
theorem Rx.cod_len : ∀ (t : Rx) (p : Nat), (t.cod p).length ≤ 2 * t.flat.length
  | .leaf n, p => by
    simp only [Rx.cod, Rx.flat]
    repeat' split
    all_goals simp
  | .one n a, p => by
    have h1 := a.cod_len p
    have h2 := a.cod_len (p + 1)
    simp only [Rx.cod, Rx.flat]
    repeat' split
    all_goals simp
    all_goals omega
  | .two n a b, p => by
    have h1 := a.cod_len p
    have h2 := a.cod_len (p + 1)
    have h3 := b.cod_len (p + (a.cod p).length)
    have h4 := b.cod_len (p + 1 + (a.cod (p + 1)).length + 1)
    simp only [Rx.cod, Rx.flat]
    repeat' split
    all_goals simp
    all_goals omega
/-- The program of a tree. -/
def Rx.prog (t : Rx) : List St := t.cod 0 ++ [stD]
end Go.Proofs.YtgnmlnfddcnkbaaDoor
