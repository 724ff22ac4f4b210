/- Package rex: parts, behind, checkNode, turnedNode. Package rex: Check. The landed builder: the steps of a tree; Of. The landed prog: Of. The program of a pattern as a value that may be: plain mathematics. class.with. class.Of. class.Of at one letter. The program of a pattern as a value that may be; the program of one letter: plain mathematics. Package find: the auto that a finder keeps; its making. -/
import Derived.Test.YtphcncgdodhlbaaDoorY17
import Derived.Test.YtphcncgdodhlbaaDoorY02
import Derived.Handy
import Derived.Test.YtphcncgdodhlbaaDoorY10
import Derived.Test.YtphcncgdodhlbaaDoorY14
import Derived.Test.YtphcncgdodhlbaaDoorY01
import Derived.Test.YtphcncgdodhlbaaDoorY04
import Derived.Test.YtphcncgdodhlbaaDoorY03
namespace Go.Proofs.YtphcncgdodhlbaaDoor
set_option linter.unusedSimpArgs false
set_option linter.unusedVariables false
set_option maxRecDepth 100000
open Go.RowKit

set_option maxHeartbeats 400000 in
theorem rparts_any (op : Int) (w : World) :
    Calls Tryd.prog 79 #[.int .i64 op] w fun e w' => e = .returned (.int .i64 (prt op)) ∧ w' = w := by
  by_cases h3 : op = 3
  · subst h3
    go_enter Tryd.func79, Tryd.ntmps79
    go_wp2
    go_ret
    exact ⟨rfl, rfl⟩
  by_cases h4 : op = 4
  · subst h4
    go_enter Tryd.func79, Tryd.ntmps79
    go_wp2
    go_ret
    exact ⟨rfl, rfl⟩
  by_cases h5 : op = 5
  · subst h5
    go_enter Tryd.func79, Tryd.ntmps79
    go_wp2
    go_ret
    exact ⟨rfl, rfl⟩
  by_cases h6 : op = 6
  · subst h6
    go_enter Tryd.func79, Tryd.ntmps79
    go_wp2
    go_ret
    exact ⟨rfl, rfl⟩
  by_cases h7 : op = 7
  · subst h7
    go_enter Tryd.func79, Tryd.ntmps79
    go_wp2
    go_ret
    exact ⟨rfl, rfl⟩
  have b3 : (op == 3) = false := by simp [h3]
  have b4 : (op == 4) = false := by simp [h4]
  have b5 : (op == 5) = false := by simp [h5]
  have b6 : (op == 6) = false := by simp [h6]
  have b7 : (op == 7) = false := by simp [h7]
  have e0 : prt op = 0 := by unfold prt; simp [h3, h4, h5, h6, h7]
  rw [e0]
  clear h3 h4 h5 h6 h7 e0
  go_enter Tryd.func79, Tryd.ntmps79
  go_wp2
  go_ret
  exact ⟨rfl, rfl⟩
set_option maxHeartbeats 1000000 in
theorem behind_at (ns : List Nd) (b off cap i : Nat) (hm : ns.length ≤ maxLen) (hm2 : ns.length ≤ 2 ^ 62) (hi : i ≤ ns.length) (w : World) (hN : NsAt w b off ns) :
    Calls Tryd.prog 60 #[.slice (some ⟨b, off, none⟩) ns.length cap, .int .i64 i] w fun e w' => e = .returned (.tuple #[.int .i64 (i + (beh (ns.drop i) 1).1 : Nat), .bool (beh (ns.drop i) 1).2]) ∧ w' = w := by
  unfold maxLen at hm
  obtain ⟨k, x, HK, HX⟩ : ∃ k x, Hid (i + (beh (ns.drop i) 1).1 = k) ∧ Hid ((beh (ns.drop i) 1).2 = x) := ⟨_, _, Eq.refl _, Eq.refl _⟩
  rw [HK.out, HX.out]
  go_enter Tryd.func60, Tryd.ntmps60
  go_wp2_with fail
  go_loop [1, 6] (fun v u => ∃ (j m : Nat), j ≤ ns.length ∧ m ≤ j + 1 ∧ v = .int .i64 j ∧ u = .int .i64 m ∧ Hid (j + (beh (ns.drop j) m).1 = k) ∧ Hid ((beh (ns.drop j) m).2 = x)) (fun v _ => ns.length - (intOf v).toNat)
  case atStart => exact ⟨i, 1, by omega, by omega, rfl, rfl, HK, HX⟩
  case round =>
    obtain ⟨j, m, hj, hmj, rfl, rfl, H1, H2⟩ := hrel
    clear HK HX
    cases m with
    | zero =>
      rw [beh_zero] at H1 H2
      obtain rfl := H1.out
      obtain rfl := H2.out
      clear H1 H2
      go_wp2
      go_ret2
      exact ⟨rfl, rfl⟩
    | succ m =>
      have m0 : (0 : Int) < ((m + 1 : Nat) : Int) := by omega
      by_cases hl : j < ns.length
      · obtain ⟨n, hn⟩ : ∃ n, ns[j]? = some n := ⟨ns[j], List.getElem?_eq_getElem hl⟩
        obtain ⟨c0, _⟩ := hN j n hn
        have hp := prt_le n.op
        have i0 : (0 : Int) ≤ (j : Int) := by omega
        have i1 : (j : Int) < (ns.length : Int) := by omega
        rw [beh_step ns j m n hn] at H1 H2
        have H3 : Hid (j + 1 + (beh (ns.drop (j + 1)) (m + prt n.op)).1 = k) := by show _ = _; rw [← H1.out]; simp only; omega
        have H4 : Hid ((beh (ns.drop (j + 1)) (m + prt n.op)).2 = x) := H2.out
        clear hn H1 H2
        go_wp2_with fail
        refine (rparts_any _ _).mono ?_
        rintro e w1 ⟨rfl, rfl⟩
        generalize prt n.op = pr at *
        go_wp2
        refine ⟨⟨j + 1, m + pr, by omega, by omega, by go_num, ?_, H3, H4⟩, by simp [intOf]; omega⟩
        rw [show (m : Int) + 1 + ((pr : Int) - 1) = ((m + pr : Nat) : Int) from by omega]
      · have hj2 : j = ns.length := by omega
        have i1 : ¬ (j : Int) < (ns.length : Int) := by omega
        have d0 : ns.drop j = [] := List.drop_eq_nil_of_le (by omega)
        rw [d0] at H1 H2
        obtain rfl := H1.out
        obtain rfl := H2.out
        have m1 : (((m + 1 : Nat) : Int) == 0) = false := by rw [beq_eq_false_iff_ne]; omega
        clear H1 H2
        go_wp2
        go_ret2
        exact ⟨rfl, rfl⟩
theorem behind_any (ns : List Nd) (v : Value) (i : Nat) (w : World) (hN : NsIn w v ns) (hm2 : ns.length ≤ 2 ^ 62) (hi : i < ns.length) :
    Calls Tryd.prog 60 #[v, .int .i64 i] w fun e w' => e = .returned (.tuple #[.int .i64 (i + (beh (ns.drop i) 1).1 : Nat), .bool (beh (ns.drop i) 1).2]) ∧ w' = w := by
  obtain ⟨a, cap, rfl, hm, h | ⟨b, off, rfl, hlt, hn⟩⟩ := hN
  · subst h
    simp at hi
  · exact behind_at ns b off cap i hm hm2 (by omega) w hn
set_option maxHeartbeats 1000000 in
theorem behind_nil (a : Option Addr) (cap : Nat) (w : World) :
    Calls Tryd.prog 60 #[.slice a 0 cap, .int .i64 0] w fun e w' => e = .returned (.tuple #[.int .i64 0, .bool false]) ∧ w' = w := by
  go_enter Tryd.func60, Tryd.ntmps60
  go_wp2_with fail
  go_loop [1, 6] (fun v u => v = .int .i64 0 ∧ u = .int .i64 1) (fun _ _ => 0)
  case atStart => exact ⟨rfl, rfl⟩
  case round =>
    obtain ⟨rfl, rfl⟩ := hrel
    go_wp2
    go_ret2
    exact ⟨rfl, rfl⟩
set_option maxHeartbeats 1000000 in
theorem checkNode_any (n : Nd) (w : World) :
    Calls Tryd.prog 59 #[n.v] w fun e w' => e = .returned (errV (scanL [n])) ∧ Below w.heap.size w w' := by
  by_cases h1 : n.op < 1
  · have HF : Hid (scanL [n] = 1) := by show _ = _; rw [scanL, if_pos (Or.inl h1)]
    go_enter Tryd.func59, Tryd.ntmps59
    go_wp2
    go_ret
    exact ⟨by rw [HF.out]; rfl, Below.alloc (Below.refl _ _) (Nat.le_refl _) _⟩
  by_cases h9 : 9 < n.op
  · have HF : Hid (scanL [n] = 1) := by show _ = _; rw [scanL, if_pos (Or.inr h9)]
    go_enter Tryd.func59, Tryd.ntmps59
    go_wp2
    go_ret
    exact ⟨by rw [HF.out]; rfl, Below.alloc (Below.refl _ _) (Nat.le_refl _) _⟩
  by_cases hb : n.op = 1
  · have HF : Hid (scanL [n] = 0) := by show _ = _; rw [scanL, if_neg (by omega), if_neg (by simp [hb])]; rfl
    have hb2 : (n.op != 1) = false := by simp [hb]
    clear hb
    go_enter Tryd.func59, Tryd.ntmps59
    go_wp2
    go_ret
    exact ⟨by rw [HF.out]; rfl, Below.alloc (Below.refl _ _) (Nat.le_refl _) _⟩
  have hb2 : (n.op != 1) = true := by simp [hb]
  by_cases hz : n.c.eqb z4 = true
  · have HF : Hid (scanL [n] = 0) := by show _ = _; rw [scanL, if_neg (by omega), if_neg (by simp [hz])]; rfl
    clear hb
    have he : ∀ w, (Op.equalIn 10000 42 (.agg #[.int .u64 n.c.a, .int .u64 n.c.b, .int .u64 n.c.c, .int .u64 n.c.d]) (.agg #[.int .u64 0, .int .u64 0, .int .u64 0, .int .u64 0])).run Tryd.prog w = .ok true w := fun w => (eq4 n.c z4 w).trans (by rw [hz])
    go_enter Tryd.func59, Tryd.ntmps59
    go_wp2
    go_ret
    exact ⟨by rw [HF.out]; rfl, Below.alloc (Below.refl _ _) (Nat.le_refl _) _⟩
  · have HF : Hid (scanL [n] = 2) := by show _ = _; rw [scanL, if_neg (by omega), if_pos ⟨hb, hz⟩]
    clear hb
    have he : ∀ w, (Op.equalIn 10000 42 (.agg #[.int .u64 n.c.a, .int .u64 n.c.b, .int .u64 n.c.c, .int .u64 n.c.d]) (.agg #[.int .u64 0, .int .u64 0, .int .u64 0, .int .u64 0])).run Tryd.prog w = .ok false w := fun w => (eq4 n.c z4 w).trans (by rw [Bool.eq_false_iff.2 hz])
    go_enter Tryd.func59, Tryd.ntmps59
    go_wp2
    go_ret
    exact ⟨by rw [HF.out]; rfl, Below.alloc (Below.refl _ _) (Nat.le_refl _) _⟩
end Go.Proofs.YtphcncgdodhlbaaDoor
namespace Go.Proofs.YtphcncgdodhlbaaDoor
set_option linter.unusedSimpArgs false
set_option linter.unusedVariables false
set_option maxRecDepth 100000
open Go.RowKit

theorem scan_one (n : Nd) : scanL [n] = if n.op < 1 ∨ 9 < n.op then 1 else if ¬ n.op = 1 ∧ ¬ n.c.eqb z4 = true then 2 else 0 := by
  rw [scanL]; rfl
set_option maxHeartbeats 4000000 in
theorem check_at (ns : List Nd) (b off cap : Nat) (hm : ns.length ≤ maxLen) (w : World) (hlt : b < w.heap.size) (hN : NsAt w b off ns) (h0 : 0 < ns.length) :
    Calls Tryd.prog 38 #[.slice (some ⟨b, off, none⟩) ns.length cap] w fun e w' => e = .returned (errV (faultL ns)) ∧ Below w.heap.size w w' := by
  have HM := (show Hid _ from hm)
  unfold maxLen at hm
  by_cases h60 : 60 < ns.length
  · have g60 : (60 : Int) < (ns.length : Int) := by omega
    have HF : Hid (faultL ns = 3) := by show _ = _; rw [faultL, if_pos h60]
    go_enter Tryd.func38, Tryd.ntmps38
    go_wp2
    go_ret
    exact ⟨by rw [HF.out]; rfl, Below.refl _ _⟩
  · have g60 : ¬ (60 : Int) < (ns.length : Int) := by omega
    go_enter Tryd.func38, Tryd.ntmps38
    go_wp2
    go_loopw [14] (fun v wr => ∃ i : Nat, i ≤ ns.length ∧ v = .int .i64 i ∧ Hid (scanL ns = scanL (ns.drop i)) ∧ Below w.heap.size w wr) (fun v _ => ns.length - (intOf v).toNat)
    case atStart => exact ⟨0, by omega, rfl, Eq.refl _, Below.refl _ _⟩
    case round =>
      obtain ⟨i, hi, rfl, HS, hB⟩ := hrel
      have hNr := hN.below hB hlt
      by_cases hil : i < ns.length
      · obtain ⟨n, hn⟩ : ∃ n, ns[i]? = some n := ⟨ns[i], List.getElem?_eq_getElem hil⟩
        obtain ⟨c0, c1, c2, c3, c4⟩ := hNr i n hn
        have HD : Hid _ := scan_drop ns i n hn
        have H1 : Hid _ := scan_one n
        have i0 : (0 : Int) ≤ (i : Int) := by omega
        have i1 : (i : Int) < (ns.length : Int) := by omega
        clear hn
        have hcn := checkNode_any n
        go_wp2_with fail
        refine (hcn _).mono ?_
        rintro e w1 ⟨rfl, hb1⟩
        have hB1 : Below w.heap.size w w1 := hB.trans ((Below.alloc (Below.refl _ _) (Nat.le_refl _) _).trans (hb1.mono (by simp)) |>.mono hB.size)
        clear hb1 hcn
        by_cases hs : scanL [n] = 0
        · have HS2 : Hid (scanL ns = scanL (ns.drop (i + 1))) := by
            show _ = _
            rw [HS.out, HD.out]
            rw [H1.out] at hs
            split
            · rename_i h; rw [if_pos h] at hs; cases hs
            · rename_i h
              rw [if_neg h] at hs
              split
              · rename_i h2; rw [if_pos h2] at hs; cases hs
              · rfl
          rw [hs, show errV 0 = .nilIface from rfl]
          clear hs HD H1 HS
          go_wp2
          exact ⟨⟨i + 1, by omega, by go_num, HS2, hB1⟩, by simp [intOf]; omega⟩
        · have HF : Hid (faultL ns = scanL [n]) := by
            show _ = _
            have e1 : scanL ns = scanL [n] := by
              rw [HS.out, HD.out]
              rw [H1.out] at hs ⊢
              split
              · rfl
              · rename_i h
                rw [if_neg h] at hs
                split
                · rfl
                · rename_i h2; rw [if_neg h2] at hs; exact absurd rfl hs
            rw [faultL, if_neg h60, e1, if_pos hs]
          rw [show errV (scanL [n]) = .iface 23 (.int .i64 (scanL [n])) from if_neg hs]
          have HE : Hid (errV (faultL ns) = .iface 23 (.int .i64 (scanL [n]))) := by show _ = _; rw [HF.out]; exact if_neg hs
          clear hs HD H1 HS HF
          generalize scanL [n] = er at *
          go_wp2
          go_ret
          exact ⟨by rw [HE.out]; rfl, hB1⟩
      · have hi2 : i = ns.length := by omega
        have e0 : scanL ns = 0 := by rw [HS.out, List.drop_eq_nil_of_le (by omega)]; rfl
        have HF : Hid _ := fault_beh ns h60 e0
        have HC : Hid (Calls Tryd.prog 60 #[.slice (some ⟨b, off, none⟩) ns.length cap, .int .i64 0] wr fun e w' => e = .returned (.tuple #[.int .i64 ((beh ns 1).1 : Nat), .bool (beh ns 1).2]) ∧ w' = wr) := by
          have := behind_at ns b off cap 0 HM.out (by omega) (by omega) wr hNr
          rw [List.drop_zero, Nat.zero_add] at this
          exact this
        subst hi2
        have hkl := beh_le ns 1
        clear e0 HS
        generalize beh ns 1 = x at *
        obtain ⟨k, y⟩ := x
        simp only at HC HF hkl
        go_wp2_with fail
        refine HC.out.mono ?_
        rintro e w1 ⟨rfl, rfl⟩
        cases y with
        | false =>
          have HF2 : Hid (faultL ns = 2) := by show _ = _; rw [HF.out]; rfl
          clear HF HC
          go_wp2
          go_ret
          exact ⟨by rw [HF2.out]; rfl, hB⟩
        | true =>
          by_cases hk : k < ns.length
          · have HF2 : Hid (faultL ns = 2) := by show _ = _; rw [HF.out, if_neg (by simp; omega)]
            have hk2 : (k : Int) < (ns.length : Int) := by omega
            clear HF HC
            go_wp2
            go_ret
            exact ⟨by rw [HF2.out]; rfl, hB⟩
          · have HF2 : Hid (faultL ns = 0) := by show _ = _; rw [HF.out, if_pos (by simp; omega)]
            have hk2 : ¬ (k : Int) < (ns.length : Int) := by omega
            clear HF HC
            go_wp2
            go_ret
            exact ⟨by rw [HF2.out]; rfl, hB⟩
set_option maxHeartbeats 1000000 in
theorem check_nil (a : Option Addr) (cap : Nat) (w : World) :
    Calls Tryd.prog 38 #[.slice a 0 cap] w fun e w' => e = .returned (errV 2) ∧ Below w.heap.size w w' := by
  go_enter Tryd.func38, Tryd.ntmps38
  go_wp2_with fail
  go_loop [14] (fun v => v = .int .i64 0) (fun _ => 0)
  case atStart => rfl
  case round =>
    subst hrel
    go_wp2_with fail
    refine (behind_nil a cap w).mono ?_
    rintro e w1 ⟨rfl, rfl⟩
    go_wp2
    go_ret
    exact ⟨rfl, Below.refl _ _⟩
theorem rcheck_any (ns : List Nd) (v : Value) (w : World) (hN : NsIn w v ns) :
    Calls Tryd.prog 38 #[v] w fun e w' => e = .returned (errV (faultL ns)) ∧ Below w.heap.size w w' := by
  obtain ⟨a, cap, rfl, hm, h | ⟨b, off, rfl, hlt, hn⟩⟩ := hN
  · subst h
    exact check_nil a cap w
  · by_cases h0 : 0 < ns.length
    · exact check_at ns b off cap hm w hlt hn h0
    · have : ns = [] := List.eq_nil_of_length_eq_zero (by omega)
      subst this
      exact check_nil _ cap w
theorem behind_k (ns : List Nd) (b off cap : Nat) (hm : ns.length ≤ 60) (w : World) (hN : NsAt w b off ns) (i f k : Nat) (h : endF ns f i = some k) :
    Calls Tryd.prog 60 #[.slice (some ⟨b, off, none⟩) ns.length cap, .int .i64 i] w fun e w' => e = .returned (.tuple #[.int .i64 k, .bool true]) ∧ w' = w := by
  have g := endF_gt ns f i k h
  have h1 := behind_at ns b off cap i (by unfold maxLen; omega) (by omega) (by omega) w hN
  obtain ⟨e1, e2⟩ := end_beh ns f i k h
  rw [e1, e2] at h1
  exact h1
end Go.Proofs.YtphcncgdodhlbaaDoor
namespace Go.Proofs.YtphcncgdodhlbaaDoor
set_option linter.unusedSimpArgs false
set_option linter.unusedVariables false
set_option maxRecDepth 100000
open Go.RowKit
set_option maxHeartbeats 4000000 in
theorem part_one (ns : List Nd) (hl : ns.length ≤ 60) (b off cap i : Nat) (n : Nd) (a : Rx) (hn : ns[i]? = some n) (hi : i < ns.length) (hop : n.op = 5 ∨ n.op = 6 ∨ n.op = 7) (hP : BPart ns b off cap a (i + 1)) : BPart ns b off cap (.one n a) i := by
  intro g ss w hB hbg hN hm
  have hml : ss.length ≤ 500 := by omega
  obtain ⟨c0, c1, c2, c3, c4⟩ := hN i n hn
  obtain ⟨x', cap', d0, d1⟩ := hB.read
  have i0 : (0 : Int) ≤ (i : Int) := by omega
  have i1 : (i : Int) < (ns.length : Int) := by omega
  have hfl : (Rx.one n a).flat.length = 1 + a.flat.length := by simp [Rx.flat]; omega
  have HL : Hid ((i + (Rx.one n a).flat.length : Nat) = i + 1 + a.flat.length) := by show _ = _; rw [hfl]; omega
  rw [HL.out]
  rcases hop with hop | hop | hop
  · have HC : Hid ((Rx.one n a).cod ss.length = stF (ss.length + 1) (ss.length + 1 + (a.cod (ss.length + 1)).length + 1) :: (a.cod (ss.length + 1) ++ [stF (ss.length + 1) (ss.length + 1 + (a.cod (ss.length + 1)).length + 1)])) := by show _ = _; simp [Rx.cod, hop]
    have HA := hid (star_any ns hl b off cap i (by omega) a hP g ss w hB hbg hN (by omega) _ rfl)
    rw [hop] at c0
    rw [HC.out]
    clear hN hB hP HC HL hfl
    go_enter Tryd.func44, Tryd.ntmps44
    go_wp2_with fail
    refine Calls.mono HA.out ?_
    rintro e w1 ⟨rfl, h1, hb1⟩
    have H1 := hid h1
    have HB1 := hid hb1
    clear h1 hb1 HA
    go_wp2
    go_ret
    exact ⟨rfl, H1.out, HB1.out⟩
  · have HC : Hid ((Rx.one n a).cod ss.length = a.cod ss.length ++ [stF ss.length (ss.length + (a.cod ss.length).length + 1)]) := by show _ = _; simp [Rx.cod, hop]
    have HA := hid (plus_any ns hl b off cap i (by omega) a hP g ss w hB hbg hN (by omega))
    rw [hop] at c0
    rw [HC.out]
    clear hN hB hP HC HL hfl
    go_enter Tryd.func44, Tryd.ntmps44
    go_wp2_with fail
    refine Calls.mono HA.out ?_
    rintro e w1 ⟨rfl, h1, hb1⟩
    have H1 := hid h1
    have HB1 := hid hb1
    clear h1 hb1 HA
    go_wp2
    go_ret
    exact ⟨rfl, H1.out, HB1.out⟩
  · have HC : Hid ((Rx.one n a).cod ss.length = stF (ss.length + 1) (ss.length + 1 + (a.cod (ss.length + 1)).length) :: a.cod (ss.length + 1)) := by show _ = _; simp [Rx.cod, hop]
    have HA := hid (opt_any ns hl b off cap i (by omega) a hP g ss w hB hbg hN (by omega) _ rfl)
    rw [hop] at c0
    rw [HC.out]
    clear hN hB hP HC HL hfl
    go_enter Tryd.func44, Tryd.ntmps44
    go_wp2_with fail
    refine Calls.mono HA.out ?_
    rintro e w1 ⟨rfl, h1, hb1⟩
    have H1 := hid h1
    have HB1 := hid hb1
    clear h1 hb1 HA
    go_wp2
    go_ret
    exact ⟨rfl, H1.out, HB1.out⟩
set_option maxHeartbeats 4000000 in
theorem part_or (ns : List Nd) (hl : ns.length ≤ 60) (b off cap i : Nat) (n : Nd) (a c : Rx) (hn : ns[i]? = some n) (hi : i < ns.length) (hop : n.op = 4) (hal : a.flat.length ≤ 60) (hP : BPart ns b off cap a (i + 1)) (hQ : BPart ns b off cap c (i + 1 + a.flat.length)) : BPart ns b off cap (.two n a c) i := by
  intro g ss w hB hbg hN hm
  have hml : ss.length ≤ 500 := by omega
  obtain ⟨c0, c1, c2, c3, c4⟩ := hN i n hn
  obtain ⟨x', cap', d0, d1⟩ := hB.read
  have i0 : (0 : Int) ≤ (i : Int) := by omega
  have i1 : (i : Int) < (ns.length : Int) := by omega
  have hfl : (Rx.two n a c).flat.length = 1 + a.flat.length + c.flat.length := by simp [Rx.flat]; omega
  have HL : Hid ((i + (Rx.two n a c).flat.length : Nat) = i + 1 + a.flat.length + c.flat.length) := by show _ = _; rw [hfl]; omega
  rw [HL.out]
  · have HA := hid (or_any ns hl b off cap i (by omega) a c hP hQ hal g ss w hB hbg hN (by omega) _ _ _ _ rfl rfl rfl rfl)
    have HC : Hid ((Rx.two n a c).cod ss.length = stF (ss.length + 1) (ss.length + 1 + (a.cod (ss.length + 1)).length + 1) :: (a.cod (ss.length + 1) ++ (stF (ss.length + 1 + (a.cod (ss.length + 1)).length + 1 + (c.cod (ss.length + 1 + (a.cod (ss.length + 1)).length + 1)).length) (ss.length + 1 + (a.cod (ss.length + 1)).length + 1 + (c.cod (ss.length + 1 + (a.cod (ss.length + 1)).length + 1)).length) :: c.cod (ss.length + 1 + (a.cod (ss.length + 1)).length + 1)))) := by show _ = _; simp [Rx.cod, hop]
    rw [hop] at c0
    rw [HC.out]
    clear hN hB hP hQ HC HL hfl
    go_enter Tryd.func44, Tryd.ntmps44
    go_wp2_with fail
    refine Calls.mono HA.out ?_
    rintro e w1 ⟨rfl, h1, hb1⟩
    have H1 := hid h1
    have HB1 := hid hb1
    clear h1 hb1 HA
    go_wp2
    go_ret
    exact ⟨rfl, H1.out, HB1.out⟩
set_option maxHeartbeats 4000000 in
theorem part_cat (ns : List Nd) (hl : ns.length ≤ 60) (b off cap i : Nat) (n : Nd) (a c : Rx) (hn : ns[i]? = some n) (hi : i < ns.length) (hop : n.op = 3) (hal : a.flat.length ≤ 60) (hP : BPart ns b off cap a (i + 1)) (hQ : BPart ns b off cap c (i + 1 + a.flat.length)) : BPart ns b off cap (.two n a c) i := by
  intro g ss w hB hbg hN hm
  have hml : ss.length ≤ 500 := by omega
  obtain ⟨c0, c1, c2, c3, c4⟩ := hN i n hn
  obtain ⟨x', cap', d0, d1⟩ := hB.read
  have i0 : (0 : Int) ≤ (i : Int) := by omega
  have i1 : (i : Int) < (ns.length : Int) := by omega
  have hfl : (Rx.two n a c).flat.length = 1 + a.flat.length + c.flat.length := by simp [Rx.flat]; omega
  have HL : Hid ((i + (Rx.two n a c).flat.length : Nat) = i + 1 + a.flat.length + c.flat.length) := by show _ = _; rw [hfl]; omega
  rw [HL.out]
  have hcl := a.cod_len ss.length
  have HA := hid (hP g ss w hB hbg hN (by omega))
  have HC : Hid ((Rx.two n a c).cod ss.length = a.cod ss.length ++ c.cod (ss.length + (a.cod ss.length).length)) := by show _ = _; simp [Rx.cod, hop]
  have hx : Hid ((i : Int) + 1 = ((i + 1 : Nat) : Int)) := by show _ = _; omega
  have HN := hid hN
  have HQ := hid hQ
  rw [hop] at c0
  rw [HC.out]
  clear hN hB hP hQ HC HL
  go_enter Tryd.func44, Tryd.ntmps44
  go_wp2_with fail
  rw [hx.out]
  refine Calls.mono HA.out ?_
  rintro e w1 ⟨rfl, h1, hb1⟩
  have HQ1 := hid (HQ.out g _ w1 h1 hbg (HN.out.below hb1 hbg) (by rw [List.length_append]; omega))
  rw [List.length_append, List.append_assoc] at HQ1
  have HB1 := hid hb1
  clear h1 hb1 HA HQ HN
  go_wp2_with fail
  refine Calls.mono HQ1.out ?_
  rintro e w2 ⟨rfl, h2, hb2⟩
  have H2 := hid h2
  have HB2 := hid (HB1.out.trans hb2)
  clear h2 hb2 HQ1 HB1
  go_wp2
  go_ret
  exact ⟨rfl, H2.out, HB2.out⟩
/-- Every part of a valid pattern is built. -/
theorem bpart_tree (b off cap : Nat) : ∀ (t : Rx), t.Ok → ∀ (p q : List Nd), (∀ n ∈ t.flat, 1 ≤ n.op ∧ n.op ≤ 9) → (p ++ t.flat ++ q).length ≤ 60 → BPart (p ++ t.flat ++ q) b off cap t p.length
  | .leaf n, h, p, q, ho, hl => by
    have hn : (p ++ (Rx.leaf n).flat ++ q)[p.length]? = some n := by simp [Rx.flat]
    have h1 := ho n (by simp [Rx.flat])
    refine part_leaf _ hl b off cap p.length n hn (by simp [Rx.flat]) ?_
    have h0 : prt n.op = 0 := h
    have h2 : ¬ prt n.op = 2 := by omega
    have h3 : ¬ prt n.op = 1 := by omega
    rw [prt_two] at h2
    rw [prt_one] at h3
    omega
  | .one n a, h, p, q, ho, hl => by
    have e : p ++ (Rx.one n a).flat ++ q = (p ++ [n]) ++ a.flat ++ q := by simp [Rx.flat]
    have ih := bpart_tree b off cap a h.2 (p ++ [n]) q (fun m hm => ho m (by simp [Rx.flat, hm])) (by rw [← e]; exact hl)
    rw [← e, show (p ++ [n]).length = p.length + 1 from by simp] at ih
    exact part_one _ hl b off cap p.length n a (by simp [Rx.flat]) (by simp [Rx.flat]) ((prt_one n.op).1 h.1) ih
  | .two n a c, h, p, q, ho, hl => by
    have e1 : p ++ (Rx.two n a c).flat ++ q = (p ++ [n]) ++ a.flat ++ (c.flat ++ q) := by simp [Rx.flat]
    have e2 : p ++ (Rx.two n a c).flat ++ q = (p ++ [n] ++ a.flat) ++ c.flat ++ q := by simp [Rx.flat]
    have ih1 := bpart_tree b off cap a h.2.1 (p ++ [n]) (c.flat ++ q) (fun m hm => ho m (by simp [Rx.flat, hm])) (by rw [← e1]; exact hl)
    have ih2 := bpart_tree b off cap c h.2.2 (p ++ [n] ++ a.flat) q (fun m hm => ho m (by simp [Rx.flat, hm])) (by rw [← e2]; exact hl)
    rw [← e1, show (p ++ [n]).length = p.length + 1 from by simp] at ih1
    rw [← e2, show (p ++ [n] ++ a.flat).length = p.length + 1 + a.flat.length from by simp; omega] at ih2
    have hal : a.flat.length ≤ 60 := by
      rw [e1] at hl
      simp at hl
      omega
    rcases (prt_two n.op).1 h.1 with hop | hop
    · exact part_cat _ hl b off cap p.length n a c (by simp [Rx.flat]) (by simp [Rx.flat]) hop hal ih1 ih2
    · exact part_or _ hl b off cap p.length n a c (by simp [Rx.flat]) (by simp [Rx.flat]) hop hal ih1 ih2
end Go.Proofs.YtphcncgdodhlbaaDoor
namespace Go.Proofs.YtphcncgdodhlbaaDoor
set_option linter.unusedSimpArgs false
set_option linter.unusedVariables false
set_option maxRecDepth 100000
open Go.RowKit
theorem pof_bad (ns : List Nd) (v : Value) (w : World) (h : NsIn w v ns) (hf : ¬ faultL ns = 0) :
    Calls Tryd.prog 32 #[v] w fun e w' => ∃ a cap, e = .returned (.tuple #[.slice a 0 cap, errV (faultL ns)]) ∧ Below w.heap.size w w' := by
  have HC := hid (rcheck_any ns v w h)
  have e0 : errV (faultL ns) = .iface 23 (.int .i64 (faultL ns)) := by unfold errV; rw [if_neg hf]
  rw [e0] at HC
  have HE := hid e0
  clear h e0
  go_enter Tryd.func32, Tryd.ntmps32
  go_wp2_with fail
  refine Calls.mono HC.out ?_
  rintro e w1 ⟨rfl, hb1⟩
  have HB := hid hb1
  clear hb1 HC
  go_wp2
  go_ret2
  exact ⟨none, 0, by rw [HE.out]; rfl, HB.out⟩
set_option maxHeartbeats 2000000 in
theorem pof_tree (t : Rx) (ht : t.Ok) (v : Value) (w : World) (h : NsIn w v t.flat) (hf : faultL t.flat = 0) :
    Calls Tryd.prog 32 #[v] w fun e w' => ∃ u, e = .returned (.tuple #[u, .nilIface]) ∧ SsIn w' u t.prog ∧ Below w.heap.size w w' := by
  have HC := hid (rcheck_any t.flat v w h)
  rw [hf] at HC
  have e0 : errV 0 = .nilIface := rfl
  rw [e0] at HC
  clear e0
  obtain ⟨hl, hop, -⟩ := (faultL_zero t.flat).1 hf
  have hpos := t.flat_pos
  obtain ⟨a, cap, rfl, hm, h | ⟨b, off, rfl, hlt, hN⟩⟩ := h
  · rw [h] at hpos; simp at hpos
  have hcl := t.cod_len 0
  have HP := hid (bpart_tree b off cap t ht [] [] (fun n hn => (hop n hn).1) (by simpa using hl))
  rw [show ([] : List Nd) ++ t.flat ++ [] = t.flat from by simp] at HP
  have HN := hid hN
  clear hN hop hf hm
  go_enter Tryd.func32, Tryd.ntmps32
  go_wp2_with fail
  refine Calls.mono HC.out ?_
  rintro e w1 ⟨rfl, hb1⟩
  have HB1 := hid hb1
  clear hb1 HC
  go_wp2_with fail
  obtain ⟨o, ho⟩ : ∃ o : Obj, o = .cells #[.slice (some ⟨b, off, none⟩) t.flat.length cap, .slice none 0 0] 100 := ⟨_, rfl⟩
  have hBB : BB (w1.alloc o) w1.heap.size (.slice (some ⟨b, off, none⟩) t.flat.length cap) [] := by
    refine ⟨.slice none 0 0, ?_, ⟨rfl, Or.inl ⟨rfl, rfl⟩⟩⟩
    show (w1.alloc o).heap[w1.heap.size]? = _
    rw [ho]
    exact heap_alloc_new w1 _
  have hb1 : b < w1.heap.size := Nat.lt_of_lt_of_le hlt HB1.out.size
  have hN1 : NsAt (w1.alloc o) b off t.flat := (HN.out.below HB1.out hlt).below ((Below.refl _ _).alloc (Nat.le_refl _) _) hb1
  have HP1 := hid (HP.out w1.heap.size [] (w1.alloc o) hBB hb1 hN1 (by simp; omega))
  rw [← ho]
  clear hBB hN1 ho HN HP
  refine Calls.mono HP1.out ?_
  rintro e w2 ⟨rfl, h2, hb2⟩
  have HA := hid (add_any _ _ _ stD w2 h2 (by simp; omega))
  have HB2 : Hid (Below w1.heap.size w1 w2) := ((Below.refl _ _).alloc (Nat.le_refl _) o).trans hb2
  clear h2 hb2 HP1
  go_wp2_with fail
  refine Calls.mono HA.out ?_
  rintro e w3 ⟨rfl, h3, hb3⟩
  have HB3 : Hid (Below w.heap.size w w3) := HB1.out.trans ((HB2.out.trans hb3).mono HB1.out.size)
  obtain ⟨sv, hbl, hso⟩ := h3.of
  obtain ⟨c0, c1, f1⟩ := hbl.all
  have HI : Hid (SsIn w3 sv t.prog) := by
    show SsIn w3 sv t.prog
    have := hso.isIn (by unfold maxLen; simp; omega)
    simpa [Rx.prog] using this
  obtain ⟨a3, cap3, hsv⟩ := hso.len
  rw [show (([] : List St) ++ t.cod ([] : List St).length ++ [stD]).length = (t.cod 0).length + 1 from by simp] at hsv
  subst hsv
  clear h3 hb3 hbl hso HB2 HB1 HA
  go_wp2
  go_ret2
  exact ⟨_, rfl, HI.out, HB3.out⟩
theorem pof_any (ns : List Nd) (v : Value) (w : World) (h : NsIn w v ns) (hf : faultL ns = 0) :
    Calls Tryd.prog 32 #[v] w fun e w' => ∃ a len cap, e = .returned (.tuple #[.slice a len cap, .nilIface]) ∧ Below w.heap.size w w' := by
  obtain ⟨t, ht, rfl⟩ := tree_of ns ((faultL_zero ns).1 hf).2.2
  refine (pof_tree t ht v w h hf).mono ?_
  rintro e w' ⟨u, rfl, hu, hb⟩
  obtain ⟨a, cap, rfl, _⟩ := ssIn_form hu
  exact ⟨a, _, cap, rfl, hb⟩
end Go.Proofs.YtphcncgdodhlbaaDoor
namespace Go.Proofs.YtphcncgdodhlbaaDoor
set_option linter.unusedSimpArgs false
set_option linter.unusedVariables false
set_option maxRecDepth 100000
open Go.RowKit
theorem cod_cls : ∀ (t : Rx) (p : Nat), ∀ m ∈ t.cod p, m.c = z4 ∨ ∃ n ∈ t.flat, m.c = n.c
  | .leaf n, p => by
    intro m hm
    simp only [Rx.cod] at hm
    split at hm
    · simp at hm; subst hm; exact Or.inr ⟨n, by simp [Rx.flat], rfl⟩
    · split at hm
      · simp at hm; subst hm; exact Or.inl rfl
      · split at hm
        · simp at hm; subst hm; exact Or.inl rfl
        · cases hm
  | .one n a, p => by
    intro m hm
    have h : ∀ q, m ∈ a.cod q → m.c = z4 ∨ ∃ n' ∈ (Rx.one n a).flat, m.c = n'.c := fun q hq => by
      rcases cod_cls a q m hq with h | ⟨n', h1, h2⟩
      · exact Or.inl h
      · exact Or.inr ⟨n', by simp [Rx.flat, h1], h2⟩
    simp only [Rx.cod] at hm
    split at hm
    · simp only [List.mem_cons, List.mem_append, List.not_mem_nil, or_false] at hm
      rcases hm with rfl | hm | rfl
      · exact Or.inl rfl
      · exact h _ hm
      · exact Or.inl rfl
    · split at hm
      · simp only [List.mem_cons, List.mem_append, List.not_mem_nil, or_false] at hm
        rcases hm with hm | rfl
        · exact h _ hm
        · exact Or.inl rfl
      · simp only [List.mem_cons] at hm
        rcases hm with rfl | hm
        · exact Or.inl rfl
        · exact h _ hm
  | .two n a b, p => by
    intro m hm
    have ha : ∀ q, m ∈ a.cod q → m.c = z4 ∨ ∃ n' ∈ (Rx.two n a b).flat, m.c = n'.c := fun q hq => by
      rcases cod_cls a q m hq with h | ⟨n', h1, h2⟩
      · exact Or.inl h
      · exact Or.inr ⟨n', by simp [Rx.flat, h1], h2⟩
    have hb : ∀ q, m ∈ b.cod q → m.c = z4 ∨ ∃ n' ∈ (Rx.two n a b).flat, m.c = n'.c := fun q hq => by
      rcases cod_cls b q m hq with h | ⟨n', h1, h2⟩
      · exact Or.inl h
      · exact Or.inr ⟨n', by simp [Rx.flat, h1], h2⟩
    simp only [Rx.cod] at hm
    split at hm
    · rcases List.mem_append.1 hm with hm | hm
      · exact ha _ hm
      · exact hb _ hm
    · simp only [List.mem_cons, List.mem_append] at hm
      rcases hm with rfl | hm | rfl | hm
      · exact Or.inl rfl
      · exact ha _ hm
      · exact Or.inl rfl
      · exact hb _ hm
theorem z4_wf : z4.wf := ⟨by decide, by decide, by decide, by decide⟩
theorem int_wf {z : Int} (h0 : -9223372036854775808 ≤ z) (h1 : z ≤ 9223372036854775807) : (Lit.int .i64 z).wf = true := by
  have e1 : IntKind.i64.min = -9223372036854775808 := by decide
  have e2 : IntKind.i64.max = 9223372036854775807 := by decide
  simp only [Lit.wf, e1, e2, h0, h1, decide_true, Bool.and_self]
theorem prog_wf (t : Rx) (hl : t.flat.length ≤ 60) (hw : ∀ n ∈ t.flat, n.wf) : ∀ m ∈ t.prog, m.wf := by
  intro m hm
  have hc := t.cod_len 0
  unfold Rx.prog at hm
  rcases List.mem_append.1 hm with hm | hm
  · obtain ⟨h1, h2, h3, _, _⟩ := cod_ok t 0 m hm
    refine ⟨int_wf (by omega) (by omega), ?_, int_wf (by omega) (by omega), int_wf (by omega) (by omega)⟩
    rcases cod_cls t 0 m hm with h | ⟨n, hn, h⟩
    · rw [h]; exact z4_wf
    · rw [h]; exact (hw n hn).2
  · rw [List.mem_singleton] at hm
    subst hm
    exact ⟨by decide, z4_wf, by decide, by decide⟩
end Go.Proofs.YtphcncgdodhlbaaDoor
namespace Go.Proofs.YtphcncgdodhlbaaDoor
set_option linter.unusedSimpArgs false
set_option linter.unusedVariables false
set_option maxRecDepth 100000
open Go.RowKit
set_option maxHeartbeats 400000 in
theorem with_any (k : C4) (x : Int) (w : World) (h : 0 ≤ x) (h2 : x < 256) :
    Calls Tryd.prog 23 #[k.v, .int .u8 x] w fun e w' => e = .returned (k.add x).v ∧ Below w.heap.size w w' := by
  have hw := k.get (x/64).toNat (by omega)
  have hs := k.set (x/64).toNat (by omega)
  go_enter Tryd.func23, Tryd.ntmps23
  go_wp2
  refine bodyPost_ret (v := (k.add x).v) (by simp [results, Tryd.results23, go_sem]; exact ⟨rfl, rfl, rfl, rfl⟩) rfl ⟨rfl, ?_⟩
  exact ((Below.refl _ _).alloc (Nat.le_refl _) _).alloc (by simp) _
end Go.Proofs.YtphcncgdodhlbaaDoor
namespace Go.Proofs.YtphcncgdodhlbaaDoor
set_option linter.unusedSimpArgs false
set_option linter.unusedVariables false
set_option maxRecDepth 100000
open Go.RowKit
set_option maxHeartbeats 1000000 in
theorem of_any (s : ByteArray) (w : World) (hs : s.size ≤ maxLen) :
    Calls Tryd.prog 14 #[.string s] w fun e w' => e = .returned (C4.ofL s.data.toList).v ∧ Below w.heap.size w w' := by
  unfold maxLen at hs
  go_enter Tryd.func14, Tryd.ntmps14
  go_wp2
  go_loopw [7] (fun i wr => ∃ k : Nat, k ≤ s.size ∧ i = .int .i64 k ∧ Below w.heap.size w wr ∧ Hb wr w.heap.size z4 ∧ Hb wr (w.heap.size + 1) (C4.ofL (s.data.toList.take k))) (fun i _ => s.size - (intOf i).toNat)
  case atStart =>
    refine ⟨0, by omega, rfl, ?_, ?_, ?_⟩
    · exact ((Below.refl _ _).alloc (Nat.le_refl _) _).alloc (by simp) _
    · exact (Hb.new _ z4 _ rfl).alloc _
    · exact Hb.new _ z4 _ (by simp)
  case round =>
    obtain ⟨k, hk, rfl, hB, hZ, hC⟩ := hrel
    by_cases hlt : k < s.size
    · obtain ⟨c0, c1, c2, c3, e0, e1, e2, e3⟩ := hC.all
      have i0 : (0 : Int) ≤ (k : Int) := by omega
      have i1 : (k : Int) < (s.size : Int) := by omega
      have hg : s.data.toList[k]? = some s[k] := by
        rw [List.getElem?_eq_getElem (by simpa using hlt)]; rfl
      have hts : s.data.toList.take (k + 1) = s.data.toList.take k ++ [s[k]] := by
        rw [List.take_succ_eq_append_getElem (by simpa using hlt)]; rfl
      have HT : Hid (C4.ofL (s.data.toList.take (k + 1)) = (C4.ofL (s.data.toList.take k)).add (s[k].toNat : Int)) := by rw [hts, C4.ofL_snoc]; exact rfl
      clear hts hg
      have hlb : (s[k].toNat : Int) < 256 := by have := s[k].toNat_lt; omega
      have hl0 : (0 : Int) ≤ (s[k].toNat : Int) := by omega
      go_wp2_with fail
      go_region_with (first | (go_at_call 23; refine (with_any (C4.ofL (s.data.toList.take k)) _ _ hl0 hlb).mono ?_; rintro e w' ⟨rfl, hb⟩; have hC1 := Hb.below hC.drew hb hC.lt; obtain ⟨g0, g1, g2, g3, q0, q1, q2, q3⟩ := hC1.all))
      all_goals
        go_wp2
        refine ⟨⟨k + 1, by omega, by go_num, ?_, ?_, ?_⟩, by simp [intOf]; omega⟩
        · exact below_put4 (hB.drew.trans (hb.mono hB.size)) (by omega) _
        · exact Hb.other4 (Hb.below hZ.drew hb hZ.lt) _ (by omega)
        · rw [HT.out]; exact hC1.put4 _
    · have hk4 : k = s.size := by omega
      subst hk4
      have ht : s.data.toList.take s.size = s.data.toList := List.take_of_length_le (by simp)
      rw [ht] at hC
      clear ht
      obtain ⟨c0, c1, c2, c3, e0, e1, e2, e3⟩ := hC.all
      obtain ⟨d0, d1, d2, d3, f0, f1, f2, f3⟩ := hZ.all
      go_wp2
      have hq := hZ.put4 (C4.ofL s.data.toList)
      refine bodyPost_ret (v := (C4.ofL s.data.toList).v) (by simp [results, Tryd.results14, go_sem, hq.c0, hq.c1, hq.c2, hq.c3]) rfl ⟨rfl, ?_⟩
      exact below_put4 hB (by omega) _
end Go.Proofs.YtphcncgdodhlbaaDoor
namespace Go.Proofs.YtphcncgdodhlbaaDoor
set_option linter.unusedSimpArgs false
set_option linter.unusedVariables false
open Go.RowKit
def kA : C4 := C4.ofL [97]
def kB : C4 := C4.ofL [98]
theorem ofA : ∀ w, Calls Tryd.prog 14 #[.string ⟨#[97]⟩] w fun e w' => e = .returned kA.v ∧ Below w.heap.size w w' := fun w => of_any ⟨#[97]⟩ w (by decide)
theorem ofB : ∀ w, Calls Tryd.prog 14 #[.string ⟨#[98]⟩] w fun e w' => e = .returned kB.v ∧ Below w.heap.size w w' := fun w => of_any ⟨#[98]⟩ w (by decide)
theorem kA_ok : kA.ok ∧ kA.has 97 = true := ⟨ofL_ok _, by unfold kA; rw [ofL_has _ _ (by decide)]; decide⟩
theorem kB_ok : kB.ok ∧ kB.has 98 = true := ⟨ofL_ok _, by unfold kB; rw [ofL_has _ _ (by decide)]; decide⟩
theorem kA_not : kA.ok ∧ kA.has 97 = true ∧ kA.has 98 = false := ⟨ofL_ok _, kA_ok.2, by unfold kA; rw [ofL_has _ _ (by decide)]; decide⟩
end Go.Proofs.YtphcncgdodhlbaaDoor
namespace Go.Proofs.YtphcncgdodhlbaaDoor
set_option linter.unusedSimpArgs false
set_option linter.unusedVariables false
set_option maxRecDepth 100000
open Go.RowKit
/-- The pattern that is the letter a. -/
abbrev tA : Rx := .leaf ⟨1, kA⟩
theorem tA_ok : tA.Ok := rfl
theorem kA_wf : kA.wf := ⟨by decide, by decide, by decide, by decide⟩
theorem tA_wf : ∀ n ∈ tA.flat, n.wf := by
  intro n hn
  simp [Rx.flat] at hn
  subst hn
  exact ⟨by decide, kA_wf⟩
theorem tA_fault : faultL tA.flat = 0 := by
  rw [faultL_zero]
  refine ⟨by simp [Rx.flat], ?_, ?_⟩
  · intro n hn
    simp [Rx.flat] at hn
    subst hn
    exact ⟨by simp, Or.inl rfl⟩
  · have := endF_flat tA tA_ok [] [] (tA.flat.length + 1) (by omega)
    simpa [endE] using this
theorem tA_ab : EndsR [97, 98] tA 0 [1] := by
  refine ⟨by simp, fun j => ?_⟩
  simp only [Fit, if_true, List.mem_singleton]
  constructor
  · rintro rfl
    exact ⟨97, rfl, kA_ok.2, rfl⟩
  · rintro ⟨c, _, _, h⟩
    omega
theorem tA_a : EndsR [97] tA 0 [1] := by
  refine ⟨by simp, fun j => ?_⟩
  simp only [Fit, if_true, List.mem_singleton]
  constructor
  · rintro rfl
    exact ⟨97, rfl, kA_ok.2, rfl⟩
  · rintro ⟨c, _, _, h⟩
    omega
end Go.Proofs.YtphcncgdodhlbaaDoor
namespace Go.Proofs.YtphcncgdodhlbaaDoor
set_option linter.unusedSimpArgs false
set_option linter.unusedVariables false
set_option maxRecDepth 100000
open Go.RowKit
/-- An auto lies in memory, whatever it knows. -/
def AuN (c : Ax) (w : World) : Prop := ∃ g m K Mb k, AuI c g m K Mb k w
theorem AuN.below {c : Ax} {w w' : World} (h : AuN c w) (hb : Below w.heap.size w w') : AuN c w' := by
  obtain ⟨g, m, K, Mb, k, h⟩ := h
  exact ⟨g, m, K, Mb, k, h.below hb⟩
theorem AuN.size {c : Ax} {w : World} (h : AuN c w) : c.B < w.heap.size ∧ c.ab < w.heap.size ∧ c.b < w.heap.size ∧ c.B ≤ c.ab ∧ c.B ≤ c.b := by
  obtain ⟨g, m, K, Mb, k, h⟩ := h
  exact ⟨h.size, heap_lt h.au, h.blt, h.lo.2.2.1, h.lo.2.2.2⟩
theorem growF_cell (w : World) (a : Addr) (u : Value) : w.grownBy (w.setCell a u) (some a.block) :=
  ⟨rfl, rfl, rfl, by simp, fun k _ hk => heap_setCell_other w a k u (fun e => hk (by rw [e]))⟩
/-- All cells but those of one block lie as they lay. -/
structure Kd (ab : Nat) (w w' : World) : Prop where
  size : w.heap.size ≤ w'.heap.size
  same : ∀ k o, w.heap[k]? = some o → o.isCells = true → k ≠ ab → w'.heap[k]? = some o
theorem Kc.kd {c : Ax} {w w' : World} (h : Kc c w w') : Kd c.ab w w' := ⟨h.size, h.same⟩
/-- A box that is none of its own is turned. -/
theorem AuN.box {c : Ax} {w w' : World} (h : AuN c w) {x : Nat} {cs : Array Value} {T : TypeId} {o : Nat × Nat} (hx : w.heap[x]? = some (.cells cs T o)) (h1 : T ≠ 122) (h2 : T ≠ 111) (h3 : x ≠ c.b) (hg : w.grownBy w' (some x)) : AuN c w' := by
  obtain ⟨g, m, K, Mb, k, h⟩ := h
  have km : ∀ {kt M n ok}, Km w kt M n ok → Km w' kt M n ok := fun {kt M n ok} hk => hk.kept hg (by
    intro e
    injection e with e
    obtain ⟨es, cl, hh⟩ := hk.heap
    rw [e, hx] at hh
    cases hh)
  have hab : c.ab ≠ x := fun e => by
    have := h.au
    rw [e, hx] at this
    injection this with this
    injection this with _ q _
    exact h2 q
  refine ⟨g, m, K, Mb, k, ?_⟩
  exact {
    au := (hg.block _ (heap_lt h.au) (by intro e; injection e with e; exact hab e)).trans h.au
    steps := h.steps.grown hg h.blt (by intro e; injection e with e; exact h3 e.symm)
    blt := Nat.lt_of_lt_of_le h.blt hg.size
    kn := km h.kn
    k100 := h.k100
    bg := by obtain ⟨kb, h1⟩ := h.bg; exact ⟨kb, km h1⟩
    sub := h.sub
    st := fun σ p e => (hg.block _ (heap_lt (h.st σ p e)) (by
      intro e'
      injection e' with e'
      have := h.st σ p e
      rw [e', hx] at this
      injection this with this
      injection this with _ q _
      exact h1 q)).trans (h.st σ p e)
    mv := fun σ p e => by obtain ⟨kn, h1⟩ := h.mv σ p e; exact ⟨kn, km h1⟩
    inj := h.inj
    mK := h.mK
    KM := h.KM
    lo := h.lo
    loS := h.loS
    out := fun k e => ⟨Nat.lt_of_lt_of_le (h.out k e).1 hg.size, (h.out k e).2⟩
    outS := h.outS }
set_option maxHeartbeats 1000000 in
theorem finderOf_bad (ns : List Nd) (v : Value) (w : World) (h : NsIn w v ns) (hf : ¬ faultL ns = 0) :
    Calls Tryd.prog 19 #[v] w fun e w' => e = .returned (.tuple #[.agg #[.pointer none], errV (faultL ns)]) ∧ Below w.heap.size w w' := by
  have HC : Hid (∀ w', Below w.heap.size w w' → _) := fun w' hb => pof_bad ns v w' (h.below hb) hf
  rw [show errV (faultL ns) = .iface 23 (.int .i64 (faultL ns)) by unfold errV; rw [if_neg hf]] at HC ⊢
  have HB0 : Hid (∀ o, Below w.heap.size w (w.alloc o)) := fun o => (Below.refl _ _).alloc (Nat.le_refl _) o
  obtain ⟨va, vc, rfl, vm⟩ := nsIn_form h
  clear h hf
  go_enter Tryd.func19, Tryd.ntmps19
  go_wp2_with fail
  refine Calls.mono (HC.out _ (HB0.out _)) ?_
  rintro e w1 ⟨a1, c1, rfl, hb⟩
  have B1 := hid ((HB0.out _).trans (hb.mono (HB0.out _).size))
  obtain ⟨d0, f0⟩ : w1.cell? ⟨w.heap.size, 0, none⟩ = some (.pointer none) ∧ w1.frozen? ⟨w.heap.size, 0, none⟩ = false := ⟨cell_later hb (by simp), (hb.frozen (p := ⟨w.heap.size, 0, none⟩) (by simp)).trans (by simp)⟩
  clear hb HC HB0
  go_wp2
  refine bodyPost_ret (v := .tuple #[.agg #[.pointer none], .iface 23 (.int .i64 (faultL ns))]) (by simp [results, Tryd.results19, go_sem, *]) rfl ⟨rfl, ?_⟩
  exact B1.out.setCell (p := ⟨w.heap.size, 0, none⟩) (Nat.le_refl _) _
theorem goodA_of {c : Ax} (t : Rx) (hss : c.ss = t.prog) (wN : ∀ n ∈ t.flat, n.wf) (hf : faultL t.flat = 0) {w : World} (hT : Tab w) (hB : w.heap.size ≤ c.B) : c.Good := by
  obtain ⟨h60, -, -⟩ := (faultL_zero t.flat).1 hf
  refine ⟨by rw [hss]; exact prog_fault t h60, fun n hn => C4.wf_ok (prog_wf t h60 wN n (by rw [← hss]; exact hn)).2.1, Nat.lt_of_lt_of_le (tab_lt hT) hB⟩
set_option maxHeartbeats 1000000 in
theorem finderOf_ok (t : Rx) (ht : t.Ok) (v : Value) (w : World) (h : NsIn w v t.flat) (hf : faultL t.flat = 0) :
    Calls Tryd.prog 19 #[v] w fun e w' => ∃ c : Ax, c.ss = t.prog ∧ w.heap.size ≤ c.B ∧ e = .returned (.tuple #[.agg #[c.u], .nilIface]) ∧ Below w.heap.size w w' ∧ AuN c w' := by
  obtain ⟨h60, hops, -⟩ := (faultL_zero t.flat).1 hf
  have HPF := hid (prog_fault t h60)
  have HC : Hid (∀ w', Below w.heap.size w w' → _) := fun w' hb => pof_tree t ht v w' (h.below hb) hf
  have HN : Hid (∀ u w', SsIn w' u t.prog → _) := fun u w' hs => new_ok t.prog u w' HPF.out hs
  have HB0 : Hid (∀ o, Below w.heap.size w (w.alloc o)) := fun o => (Below.refl _ _).alloc (Nat.le_refl _) o
  obtain ⟨va, vc, rfl, vm⟩ := nsIn_form h
  clear h hf hops h60
  go_enter Tryd.func19, Tryd.ntmps19
  go_wp2_with fail
  refine Calls.mono (HC.out _ (HB0.out _)) ?_
  rintro e w1 ⟨u1, rfl, hs, hb⟩
  have B1 := hid ((HB0.out _).trans (hb.mono (HB0.out _).size))
  have D1 : Hid (w1.heap[w.heap.size]? = some (.cells #[.pointer none] 56 (0, 0))) := (hb.block w.heap.size (by simp)).trans (World.alloc_heap_new w _)
  have HS := hid (HN.out u1 w1 hs)
  obtain ⟨a1, c1, rfl, -⟩ := ssIn_form hs
  have HL : Hid (w.heap.size < w1.heap.size) := heap_lt D1.out
  clear hb HC HB0 HN hs
  go_wp2_with fail
  refine Calls.mono HS.out ?_
  rintro e w2 ⟨c, hss, hcB, rfl, hb, K, Mb, hA⟩
  have B2 := hid (B1.out.trans (hb.mono B1.out.size))
  have D2 := hid ((hb.block _ HL.out).trans D1.out)
  have HA : Hid (AuN c w2) := ⟨_, _, _, _, _, hA⟩
  have HCS : Hid (c.ss = t.prog ∧ c.B = w1.heap.size) := ⟨hss, hcB⟩
  have d0 := Lib.cell_of_heap D2.out 0
  simp only [List.getElem?_toArray, List.getElem?_cons_zero, List.getElem?_cons_succ] at d0
  have f0 : w2.frozen? ⟨w.heap.size, 0, none⟩ = false := Lib.frozen_of_heap D2.out 0
  clear hb hA HS hss hcB D1
  go_wp2
  refine bodyPost_ret (v := .tuple #[.agg #[c.u], .nilIface]) (by simp [results, Tryd.results19, go_sem, *]) rfl ⟨c, HCS.out.1, ?_, rfl, ?_, ?_⟩
  · rw [HCS.out.2]; exact Nat.le_of_lt HL.out
  · exact B2.out.setCell (p := ⟨w.heap.size, 0, none⟩) (Nat.le_refl _) _
  · refine HA.out.box D2.out (by decide) (by decide) ?_ (growF_cell w2 ⟨w.heap.size, 0, none⟩ _)
    have := HA.out.size
    have := HCS.out.2
    have := HL.out
    omega
end Go.Proofs.YtphcncgdodhlbaaDoor
