/- Package rex: parts, behind, checkNode, turnedNode. Package rex: Check. What rex.End answers: plain mathematics. Package rex: End. The landed lit: what two parts need, and a part. The landed lit: a part, Whole and Needed. The landed lit: Whole and Needed. -/
import Derived.Test.YtejbififfceamaaGreatDoorY17
import Derived.Test.YtejbififfceamaaGreatDoorY02
import Derived.Handy
import Derived.Deep.Cut
namespace Go.Proofs.YtejbififfceamaaGreatDoor
set_option linter.unusedSimpArgs false
set_option linter.unusedVariables false
set_option maxRecDepth 100000
open Go.RowKit

set_option maxHeartbeats 400000 in
theorem rparts_any (op : Int) (w : World) :
    Calls Tryz.prog 109 #[.int .i64 op] w fun e w' => e = .returned (.int .i64 (prt op)) ∧ w' = w := by
  by_cases h3 : op = 3
  · subst h3
    go_enter Tryz.func109, Tryz.ntmps109
    go_wp2
    go_ret
    exact ⟨rfl, rfl⟩
  by_cases h4 : op = 4
  · subst h4
    go_enter Tryz.func109, Tryz.ntmps109
    go_wp2
    go_ret
    exact ⟨rfl, rfl⟩
  by_cases h5 : op = 5
  · subst h5
    go_enter Tryz.func109, Tryz.ntmps109
    go_wp2
    go_ret
    exact ⟨rfl, rfl⟩
  by_cases h6 : op = 6
  · subst h6
    go_enter Tryz.func109, Tryz.ntmps109
    go_wp2
    go_ret
    exact ⟨rfl, rfl⟩
  by_cases h7 : op = 7
  · subst h7
    go_enter Tryz.func109, Tryz.ntmps109
    go_wp2
    go_ret
    exact ⟨rfl, rfl⟩
  have b3 : (op == 3) = false := by simp [h3]
  have b4 : (op == 4) = false := by simp [h4]
  have b5 : (op == 5) = false := by simp [h5]
  have b6 : (op == 6) = false := by simp [h6]
  have b7 : (op == 7) = false := by simp [h7]
  have e0 : prt op = 0 := by unfold prt; simp [h3, h4, h5, h6, h7]
  rw [e0]
  clear h3 h4 h5 h6 h7 e0
  go_enter Tryz.func109, Tryz.ntmps109
  go_wp2
  go_ret
  exact ⟨rfl, rfl⟩
set_option maxHeartbeats 1000000 in
theorem behind_at (ns : List Nd) (b off cap i : Nat) (hm : ns.length ≤ maxLen) (hm2 : ns.length ≤ 2 ^ 62) (hi : i ≤ ns.length) (w : World) (hN : NsAt w b off ns) :
    Calls Tryz.prog 83 #[.slice (some ⟨b, off, none⟩) ns.length cap, .int .i64 i] w fun e w' => e = .returned (.tuple #[.int .i64 (i + (beh (ns.drop i) 1).1 : Nat), .bool (beh (ns.drop i) 1).2]) ∧ w' = w := by
  unfold maxLen at hm
  obtain ⟨k, x, HK, HX⟩ : ∃ k x, Hid (i + (beh (ns.drop i) 1).1 = k) ∧ Hid ((beh (ns.drop i) 1).2 = x) := ⟨_, _, Eq.refl _, Eq.refl _⟩
  rw [HK.out, HX.out]
  go_enter Tryz.func83, Tryz.ntmps83
  go_wp2_with fail
  go_loop [1, 6] (fun v u => ∃ (j m : Nat), j ≤ ns.length ∧ m ≤ j + 1 ∧ v = .int .i64 j ∧ u = .int .i64 m ∧ Hid (j + (beh (ns.drop j) m).1 = k) ∧ Hid ((beh (ns.drop j) m).2 = x)) (fun v _ => ns.length - (intOf v).toNat)
  case atStart => exact ⟨i, 1, by omega, by omega, rfl, rfl, HK, HX⟩
  case round =>
    obtain ⟨j, m, hj, hmj, rfl, rfl, H1, H2⟩ := hrel
    clear HK HX
    cases m with
    | zero =>
      rw [beh_zero] at H1 H2
      obtain rfl := H1.out
      obtain rfl := H2.out
      clear H1 H2
      go_wp2
      go_ret2
      exact ⟨rfl, rfl⟩
    | succ m =>
      have m0 : (0 : Int) < ((m + 1 : Nat) : Int) := by omega
      by_cases hl : j < ns.length
      · obtain ⟨n, hn⟩ : ∃ n, ns[j]? = some n := ⟨ns[j], List.getElem?_eq_getElem hl⟩
        obtain ⟨c0, _⟩ := hN j n hn
        have hp := prt_le n.op
        have i0 : (0 : Int) ≤ (j : Int) := by omega
        have i1 : (j : Int) < (ns.length : Int) := by omega
        rw [beh_step ns j m n hn] at H1 H2
        have H3 : Hid (j + 1 + (beh (ns.drop (j + 1)) (m + prt n.op)).1 = k) := by show _ = _; rw [← H1.out]; simp only; omega
        have H4 : Hid ((beh (ns.drop (j + 1)) (m + prt n.op)).2 = x) := H2.out
        clear hn H1 H2
        go_wp2_with fail
        refine (rparts_any _ _).mono ?_
        rintro e w1 ⟨rfl, rfl⟩
        generalize prt n.op = pr at *
        go_wp2
        refine ⟨⟨j + 1, m + pr, by omega, by omega, by go_num, ?_, H3, H4⟩, by simp [intOf]; omega⟩
        rw [show (m : Int) + 1 + ((pr : Int) - 1) = ((m + pr : Nat) : Int) from by omega]
      · have hj2 : j = ns.length := by omega
        have i1 : ¬ (j : Int) < (ns.length : Int) := by omega
        have d0 : ns.drop j = [] := List.drop_eq_nil_of_le (by omega)
        rw [d0] at H1 H2
        obtain rfl := H1.out
        obtain rfl := H2.out
        have m1 : (((m + 1 : Nat) : Int) == 0) = false := by rw [beq_eq_false_iff_ne]; omega
        clear H1 H2
        go_wp2
        go_ret2
        exact ⟨rfl, rfl⟩
theorem behind_any (ns : List Nd) (v : Value) (i : Nat) (w : World) (hN : NsIn w v ns) (hm2 : ns.length ≤ 2 ^ 62) (hi : i < ns.length) :
    Calls Tryz.prog 83 #[v, .int .i64 i] w fun e w' => e = .returned (.tuple #[.int .i64 (i + (beh (ns.drop i) 1).1 : Nat), .bool (beh (ns.drop i) 1).2]) ∧ w' = w := by
  obtain ⟨a, cap, rfl, hm, h | ⟨b, off, rfl, hlt, hn⟩⟩ := hN
  · subst h
    simp at hi
  · exact behind_at ns b off cap i hm hm2 (by omega) w hn
set_option maxHeartbeats 1000000 in
theorem behind_nil (a : Option Addr) (cap : Nat) (w : World) :
    Calls Tryz.prog 83 #[.slice a 0 cap, .int .i64 0] w fun e w' => e = .returned (.tuple #[.int .i64 0, .bool false]) ∧ w' = w := by
  go_enter Tryz.func83, Tryz.ntmps83
  go_wp2_with fail
  go_loop [1, 6] (fun v u => v = .int .i64 0 ∧ u = .int .i64 1) (fun _ _ => 0)
  case atStart => exact ⟨rfl, rfl⟩
  case round =>
    obtain ⟨rfl, rfl⟩ := hrel
    go_wp2
    go_ret2
    exact ⟨rfl, rfl⟩
set_option maxHeartbeats 1000000 in
theorem checkNode_any (n : Nd) (w : World) :
    Calls Tryz.prog 82 #[n.v] w fun e w' => e = .returned (errV (scanL [n])) ∧ Below w.heap.size w w' := by
  by_cases h1 : n.op < 1
  · have HF : Hid (scanL [n] = 1) := by show _ = _; rw [scanL, if_pos (Or.inl h1)]
    go_enter Tryz.func82, Tryz.ntmps82
    go_wp2
    go_ret
    exact ⟨by rw [HF.out]; rfl, Below.alloc (Below.refl _ _) (Nat.le_refl _) _⟩
  by_cases h9 : 9 < n.op
  · have HF : Hid (scanL [n] = 1) := by show _ = _; rw [scanL, if_pos (Or.inr h9)]
    go_enter Tryz.func82, Tryz.ntmps82
    go_wp2
    go_ret
    exact ⟨by rw [HF.out]; rfl, Below.alloc (Below.refl _ _) (Nat.le_refl _) _⟩
  by_cases hb : n.op = 1
  · have HF : Hid (scanL [n] = 0) := by show _ = _; rw [scanL, if_neg (by omega), if_neg (by simp [hb])]; rfl
    have hb2 : (n.op != 1) = false := by simp [hb]
    clear hb
    go_enter Tryz.func82, Tryz.ntmps82
    go_wp2
    go_ret
    exact ⟨by rw [HF.out]; rfl, Below.alloc (Below.refl _ _) (Nat.le_refl _) _⟩
  have hb2 : (n.op != 1) = true := by simp [hb]
  by_cases hz : n.c.eqb z4 = true
  · have HF : Hid (scanL [n] = 0) := by show _ = _; rw [scanL, if_neg (by omega), if_neg (by simp [hz])]; rfl
    clear hb
    have he : ∀ w, (Op.equalIn 10000 104 (.agg #[.int .u64 n.c.a, .int .u64 n.c.b, .int .u64 n.c.c, .int .u64 n.c.d]) (.agg #[.int .u64 0, .int .u64 0, .int .u64 0, .int .u64 0])).run Tryz.prog w = .ok true w := fun w => (eq4 n.c z4 w).trans (by rw [hz])
    go_enter Tryz.func82, Tryz.ntmps82
    go_wp2
    go_ret
    exact ⟨by rw [HF.out]; rfl, Below.alloc (Below.refl _ _) (Nat.le_refl _) _⟩
  · have HF : Hid (scanL [n] = 2) := by show _ = _; rw [scanL, if_neg (by omega), if_pos ⟨hb, hz⟩]
    clear hb
    have he : ∀ w, (Op.equalIn 10000 104 (.agg #[.int .u64 n.c.a, .int .u64 n.c.b, .int .u64 n.c.c, .int .u64 n.c.d]) (.agg #[.int .u64 0, .int .u64 0, .int .u64 0, .int .u64 0])).run Tryz.prog w = .ok false w := fun w => (eq4 n.c z4 w).trans (by rw [Bool.eq_false_iff.2 hz])
    go_enter Tryz.func82, Tryz.ntmps82
    go_wp2
    go_ret
    exact ⟨by rw [HF.out]; rfl, Below.alloc (Below.refl _ _) (Nat.le_refl _) _⟩
end Go.Proofs.YtejbififfceamaaGreatDoor
namespace Go.Proofs.YtejbififfceamaaGreatDoor
set_option linter.unusedSimpArgs false
set_option linter.unusedVariables false
set_option maxRecDepth 100000
open Go.RowKit

theorem scan_one (n : Nd) : scanL [n] = if n.op < 1 ∨ 9 < n.op then 1 else if ¬ n.op = 1 ∧ ¬ n.c.eqb z4 = true then 2 else 0 := by
  rw [scanL]; rfl
set_option maxHeartbeats 4000000 in
theorem check_at (ns : List Nd) (b off cap : Nat) (hm : ns.length ≤ maxLen) (w : World) (hlt : b < w.heap.size) (hN : NsAt w b off ns) (h0 : 0 < ns.length) :
    Calls Tryz.prog 56 #[.slice (some ⟨b, off, none⟩) ns.length cap] w fun e w' => e = .returned (errV (faultL ns)) ∧ Below w.heap.size w w' := by
  have HM := (show Hid _ from hm)
  unfold maxLen at hm
  by_cases h60 : 60 < ns.length
  · have g60 : (60 : Int) < (ns.length : Int) := by omega
    have HF : Hid (faultL ns = 3) := by show _ = _; rw [faultL, if_pos h60]
    go_enter Tryz.func56, Tryz.ntmps56
    go_wp2
    go_ret
    exact ⟨by rw [HF.out]; rfl, Below.refl _ _⟩
  · have g60 : ¬ (60 : Int) < (ns.length : Int) := by omega
    go_enter Tryz.func56, Tryz.ntmps56
    go_wp2
    go_loopw [14] (fun v wr => ∃ i : Nat, i ≤ ns.length ∧ v = .int .i64 i ∧ Hid (scanL ns = scanL (ns.drop i)) ∧ Below w.heap.size w wr) (fun v _ => ns.length - (intOf v).toNat)
    case atStart => exact ⟨0, by omega, rfl, Eq.refl _, Below.refl _ _⟩
    case round =>
      obtain ⟨i, hi, rfl, HS, hB⟩ := hrel
      have hNr := hN.below hB hlt
      by_cases hil : i < ns.length
      · obtain ⟨n, hn⟩ : ∃ n, ns[i]? = some n := ⟨ns[i], List.getElem?_eq_getElem hil⟩
        obtain ⟨c0, c1, c2, c3, c4⟩ := hNr i n hn
        have HD : Hid _ := scan_drop ns i n hn
        have H1 : Hid _ := scan_one n
        have i0 : (0 : Int) ≤ (i : Int) := by omega
        have i1 : (i : Int) < (ns.length : Int) := by omega
        clear hn
        have hcn := checkNode_any n
        go_wp2_with fail
        refine (hcn _).mono ?_
        rintro e w1 ⟨rfl, hb1⟩
        have hB1 : Below w.heap.size w w1 := hB.trans ((Below.alloc (Below.refl _ _) (Nat.le_refl _) _).trans (hb1.mono (by simp)) |>.mono hB.size)
        clear hb1 hcn
        by_cases hs : scanL [n] = 0
        · have HS2 : Hid (scanL ns = scanL (ns.drop (i + 1))) := by
            show _ = _
            rw [HS.out, HD.out]
            rw [H1.out] at hs
            split
            · rename_i h; rw [if_pos h] at hs; cases hs
            · rename_i h
              rw [if_neg h] at hs
              split
              · rename_i h2; rw [if_pos h2] at hs; cases hs
              · rfl
          rw [hs, show errV 0 = .nilIface from rfl]
          clear hs HD H1 HS
          go_wp2
          exact ⟨⟨i + 1, by omega, by go_num, HS2, hB1⟩, by simp [intOf]; omega⟩
        · have HF : Hid (faultL ns = scanL [n]) := by
            show _ = _
            have e1 : scanL ns = scanL [n] := by
              rw [HS.out, HD.out]
              rw [H1.out] at hs ⊢
              split
              · rfl
              · rename_i h
                rw [if_neg h] at hs
                split
                · rfl
                · rename_i h2; rw [if_neg h2] at hs; exact absurd rfl hs
            rw [faultL, if_neg h60, e1, if_pos hs]
          rw [show errV (scanL [n]) = .iface 32 (.int .i64 (scanL [n])) from if_neg hs]
          have HE : Hid (errV (faultL ns) = .iface 32 (.int .i64 (scanL [n]))) := by show _ = _; rw [HF.out]; exact if_neg hs
          clear hs HD H1 HS HF
          generalize scanL [n] = er at *
          go_wp2
          go_ret
          exact ⟨by rw [HE.out]; rfl, hB1⟩
      · have hi2 : i = ns.length := by omega
        have e0 : scanL ns = 0 := by rw [HS.out, List.drop_eq_nil_of_le (by omega)]; rfl
        have HF : Hid _ := fault_beh ns h60 e0
        have HC : Hid (Calls Tryz.prog 83 #[.slice (some ⟨b, off, none⟩) ns.length cap, .int .i64 0] wr fun e w' => e = .returned (.tuple #[.int .i64 ((beh ns 1).1 : Nat), .bool (beh ns 1).2]) ∧ w' = wr) := by
          have := behind_at ns b off cap 0 HM.out (by omega) (by omega) wr hNr
          rw [List.drop_zero, Nat.zero_add] at this
          exact this
        subst hi2
        have hkl := beh_le ns 1
        clear e0 HS
        generalize beh ns 1 = x at *
        obtain ⟨k, y⟩ := x
        simp only at HC HF hkl
        go_wp2_with fail
        refine HC.out.mono ?_
        rintro e w1 ⟨rfl, rfl⟩
        cases y with
        | false =>
          have HF2 : Hid (faultL ns = 2) := by show _ = _; rw [HF.out]; rfl
          clear HF HC
          go_wp2
          go_ret
          exact ⟨by rw [HF2.out]; rfl, hB⟩
        | true =>
          by_cases hk : k < ns.length
          · have HF2 : Hid (faultL ns = 2) := by show _ = _; rw [HF.out, if_neg (by simp; omega)]
            have hk2 : (k : Int) < (ns.length : Int) := by omega
            clear HF HC
            go_wp2
            go_ret
            exact ⟨by rw [HF2.out]; rfl, hB⟩
          · have HF2 : Hid (faultL ns = 0) := by show _ = _; rw [HF.out, if_pos (by simp; omega)]
            have hk2 : ¬ (k : Int) < (ns.length : Int) := by omega
            clear HF HC
            go_wp2
            go_ret
            exact ⟨by rw [HF2.out]; rfl, hB⟩
set_option maxHeartbeats 1000000 in
theorem check_nil (a : Option Addr) (cap : Nat) (w : World) :
    Calls Tryz.prog 56 #[.slice a 0 cap] w fun e w' => e = .returned (errV 2) ∧ Below w.heap.size w w' := by
  go_enter Tryz.func56, Tryz.ntmps56
  go_wp2_with fail
  go_loop [14] (fun v => v = .int .i64 0) (fun _ => 0)
  case atStart => rfl
  case round =>
    subst hrel
    go_wp2_with fail
    refine (behind_nil a cap w).mono ?_
    rintro e w1 ⟨rfl, rfl⟩
    go_wp2
    go_ret
    exact ⟨rfl, Below.refl _ _⟩
theorem rcheck_any (ns : List Nd) (v : Value) (w : World) (hN : NsIn w v ns) :
    Calls Tryz.prog 56 #[v] w fun e w' => e = .returned (errV (faultL ns)) ∧ Below w.heap.size w w' := by
  obtain ⟨a, cap, rfl, hm, h | ⟨b, off, rfl, hlt, hn⟩⟩ := hN
  · subst h
    exact check_nil a cap w
  · by_cases h0 : 0 < ns.length
    · exact check_at ns b off cap hm w hlt hn h0
    · have : ns = [] := List.eq_nil_of_length_eq_zero (by omega)
      subst this
      exact check_nil _ cap w
theorem behind_k (ns : List Nd) (b off cap : Nat) (hm : ns.length ≤ 60) (w : World) (hN : NsAt w b off ns) (i f k : Nat) (h : endF ns f i = some k) :
    Calls Tryz.prog 83 #[.slice (some ⟨b, off, none⟩) ns.length cap, .int .i64 i] w fun e w' => e = .returned (.tuple #[.int .i64 k, .bool true]) ∧ w' = w := by
  have g := endF_gt ns f i k h
  have h1 := behind_at ns b off cap i (by unfold maxLen; omega) (by omega) (by omega) w hN
  obtain ⟨e1, e2⟩ := end_beh ns f i k h
  rw [e1, e2] at h1
  exact h1
end Go.Proofs.YtejbififfceamaaGreatDoor
namespace Go.Proofs.YtejbififfceamaaGreatDoor
set_option linter.unusedSimpArgs false
set_option linter.unusedVariables false
set_option maxRecDepth 100000
open Go.RowKit

/-- What End answers: the place, and the fault. -/
def endN (ns : List Nd) (i : Int) : Int := if faultL ns = 0 ∧ 0 ≤ i ∧ i < ns.length then endI (endE ns i.toNat) else 0
def endErr (ns : List Nd) (i : Int) : Int := if faultL ns = 0 then (if 0 ≤ i ∧ i < ns.length then 0 else 1) else faultL ns
theorem rexEnd_in (ns : List Nd) (i : Int) (h : faultL ns = 0) (h1 : 0 ≤ i) (h2 : i < ns.length) : endN ns i = endI (endE ns i.toNat) ∧ endErr ns i = 0 := by
  simp [endN, endErr, h, h1, h2]
theorem rexEnd_out (ns : List Nd) (i : Int) (h : faultL ns = 0) (h1 : ¬ (0 ≤ i ∧ i < ns.length)) : endN ns i = 0 ∧ endErr ns i = 1 := by
  rw [endN, endErr, if_neg (fun h2 => h1 h2.2), if_pos h, if_neg h1]
  exact ⟨rfl, rfl⟩
theorem rexEnd_bad (ns : List Nd) (i : Int) (h : ¬ faultL ns = 0) : endN ns i = 0 ∧ endErr ns i = faultL ns := by
  rw [endN, endErr, if_neg (fun h2 => h h2.1), if_neg h]
  exact ⟨rfl, rfl⟩
end Go.Proofs.YtejbififfceamaaGreatDoor
namespace Go.Proofs.YtejbififfceamaaGreatDoor
set_option linter.unusedSimpArgs false
set_option linter.unusedVariables false
set_option maxRecDepth 100000
open Go.RowKit

set_option maxHeartbeats 4000000 in
theorem rend_any (ns : List Nd) (v : Value) (i : Int) (w : World) (hN : NsIn w v ns) :
    Calls Tryz.prog 85 #[v, .int .i64 i] w fun e w' => e = .returned (.tuple #[.int .i64 (endN ns i), errV (endErr ns i)]) ∧ Below w.heap.size w w' := by
  have CC : Hid _ := rcheck_any ns v w hN
  by_cases hf : faultL ns = 0
  · obtain ⟨hl, hr, hv⟩ := (faultL_zero ns).1 hf
    by_cases hi : 0 ≤ i ∧ i < ns.length
    · obtain ⟨c1, c2⟩ := rexEnd_in ns i hf hi.1 hi.2
      rw [c1, c2]
      obtain ⟨j, rfl⟩ : ∃ j : Nat, i = (j : Int) := ⟨i.toNat, by omega⟩
      rw [Int.toNat_natCast]
      obtain ⟨k, hk⟩ := part_at ns hv j (by omega)
      obtain ⟨a, cap, rfl, hm, h | ⟨b, off, rfl, hlt, hn⟩⟩ := hN
      · subst h; rw [endE_nil] at hv; cases hv
      have C2 : Hid (∀ w', Below w.heap.size w w' → Calls Tryz.prog 83 #[.slice (some ⟨b, off, none⟩) ns.length cap, .int .i64 j] w' fun e w'' => e = .returned (.tuple #[.int .i64 k, .bool true]) ∧ w'' = w') := fun w' hb => behind_k ns b off cap hl w' (hn.below hb hlt) j _ k hk
      rw [hk, show endI (some k) = (k : Int) from rfl]
      rw [hf] at CC
      rw [show errV 0 = .nilIface from rfl] at CC ⊢
      have i0 : (0 : Int) ≤ (j : Int) := hi.1
      have i1 : (j : Int) < (ns.length : Int) := hi.2
      clear hr hv hn hf hk c1 c2 hi
      go_enter Tryz.func85, Tryz.ntmps85
      go_wp2_with fail
      refine Calls.mono CC.out ?_
      rintro e w1 ⟨rfl, hb⟩
      have B1 : Hid _ := hb
      clear hb
      go_wp2_with fail
      refine Calls.mono (C2.out _ B1.out) ?_
      rintro e w1 ⟨rfl, rfl⟩
      go_wp2
      go_ret2
      exact ⟨rfl, B1.out⟩
    · obtain ⟨c1, c2⟩ := rexEnd_out ns i hf hi
      rw [c1, c2]
      obtain ⟨a, cap, rfl, hm, _⟩ := hN
      rw [hf] at CC
      rw [show errV 0 = .nilIface from rfl] at CC
      rw [show errV 1 = .iface 32 (.int .i64 1) from rfl]
      clear hr hv hf c1 c2
      by_cases i0 : i < 0
      · clear hi
        go_enter Tryz.func85, Tryz.ntmps85
        go_wp2_with fail
        refine Calls.mono CC.out ?_
        rintro e w1 ⟨rfl, hb⟩
        have B1 : Hid _ := hb
        clear hb
        go_wp2
        go_ret2
        exact ⟨rfl, B1.out⟩
      · have i1 : (ns.length : Int) ≤ i := by omega
        clear hi
        go_enter Tryz.func85, Tryz.ntmps85
        go_wp2_with fail
        refine Calls.mono CC.out ?_
        rintro e w1 ⟨rfl, hb⟩
        have B1 : Hid _ := hb
        clear hb
        go_wp2
        go_ret2
        exact ⟨rfl, B1.out⟩
  · obtain ⟨c1, c2⟩ := rexEnd_bad ns i hf
    rw [c1, c2]
    obtain ⟨a, cap, rfl, hm, _⟩ := hN
    rw [show errV (faultL ns) = .iface 32 (.int .i64 (faultL ns)) from if_neg hf] at CC ⊢
    clear hf c1 c2
    generalize faultL ns = ft at *
    go_enter Tryz.func85, Tryz.ntmps85
    go_wp2_with fail
    refine Calls.mono CC.out ?_
    rintro e w1 ⟨rfl, hb⟩
    have B1 : Hid _ := hb
    clear hb
    go_wp2
    go_ret2
    exact ⟨rfl, B1.out⟩
end Go.Proofs.YtejbififfceamaaGreatDoor
namespace Go.Proofs.YtejbififfceamaaGreatDoor
set_option linter.unusedSimpArgs false
set_option linter.unusedVariables false
set_option maxRecDepth 100000
open Go.RowKit
set_option maxHeartbeats 4000000 in
theorem ofBoth_any (x y : List UInt8) (bx bb : Bool) (hx : x.length ≤ 60) (hy : y.length ≤ 60) (w : World) : Calls Tryz.prog 86 #[muV x bx, muV y bb] w fun e w' => e = .returned (if (bx && bb) = true then muV (x ++ y) true else muV (longer x y) false) ∧ Below w.heap.size w w' := by
  have fA : Hmu (((w.alloc (.cells #[.string ⟨x.toArray⟩, .bool bx] 131)).alloc (.cells #[.string ⟨y.toArray⟩, .bool bb] 131)).alloc (.cells #[.string ⟨#[]⟩, .bool false] 131)) w.heap.size ⟨x.toArray⟩ bx := ((Hmu.new w _ bx _ rfl).alloc _).alloc _
  have fB : Hmu (((w.alloc (.cells #[.string ⟨x.toArray⟩, .bool bx] 131)).alloc (.cells #[.string ⟨y.toArray⟩, .bool bb] 131)).alloc (.cells #[.string ⟨#[]⟩, .bool false] 131)) (w.heap.size + 1) ⟨y.toArray⟩ bb := (Hmu.new _ _ bb _ (by simp)).alloc _
  have fC : Hmu (((w.alloc (.cells #[.string ⟨x.toArray⟩, .bool bx] 131)).alloc (.cells #[.string ⟨y.toArray⟩, .bool bb] 131)).alloc (.cells #[.string ⟨#[]⟩, .bool false] 131)) (w.heap.size + 1 + 1) ⟨#[]⟩ false := Hmu.new _ _ _ _ (by simp)
  have gW : Hid (Below w.heap.size w (((w.alloc (.cells #[.string ⟨x.toArray⟩, .bool bx] 131)).alloc (.cells #[.string ⟨y.toArray⟩, .bool bb] 131)).alloc (.cells #[.string ⟨#[]⟩, .bool false] 131))) := (((Below.refl _ _).alloc (Nat.le_refl _) _).alloc (by simp) _).alloc (by simp; omega) _
  have s1 : (⟨x.toArray⟩ : ByteArray).size = x.length := size_str _
  have s2 : (⟨y.toArray⟩ : ByteArray).size = y.length := size_str _
  unfold muV
  go_enter Tryz.func86, Tryz.ntmps86
  go_upto_region 1 with fail
  generalize (((w.alloc (.cells #[.string ⟨x.toArray⟩, .bool bx] 131)).alloc (.cells #[.string ⟨y.toArray⟩, .bool bb] 131)).alloc (.cells #[.string ⟨#[]⟩, .bool false] 131)) = w4 at *
  obtain ⟨a0, a1, _, _⟩ := fA.all
  obtain ⟨b0, b1, _, _⟩ := fB.all
  obtain ⟨c0, c1, z0, z1⟩ := fC.all
  clear fA fB
  have hbp := fun v v' => below_putM gW.out (Nat.le_succ_of_le (Nat.le_succ w.heap.size)) v v'
  cases hbx : bx && bb
  · have HC : Hid (∀ s, ((w4.setCell ⟨w.heap.size + 1 + 1, 0, none⟩ (.string s)).setCell ⟨w.heap.size + 1 + 1, 1, none⟩ (.bool false)).cell? ⟨w.heap.size + 1 + 1, 0, none⟩ = some (.string s) ∧ ((w4.setCell ⟨w.heap.size + 1 + 1, 0, none⟩ (.string s)).setCell ⟨w.heap.size + 1 + 1, 1, none⟩ (.bool false)).cell? ⟨w.heap.size + 1 + 1, 1, none⟩ = some (.bool false)) := fun s => ⟨(fC.put s false).all.1, (fC.put s false).all.2.1⟩
    have HBP := hid hbp
    clear fC hbp
    by_cases hc : x.length < y.length
    · have HL : Hid (longer x y = y) := by show _ = _; unfold longer; rw [if_pos hc]
      have g4 : ((⟨x.toArray⟩ : ByteArray).size : Int) < ((⟨y.toArray⟩ : ByteArray).size : Int) := by rw [s1, s2]; omega
      have hcd : decide (x.length < y.length) = true := by simp only [hc, decide_true, decide_false]
      clear s1 s2 g4
      clear hc
      cases bx
      · go_wp2
        obtain ⟨p0, p1⟩ := HC.out ⟨y.toArray⟩
        exact bodyPost_ret (v := .agg #[.string ⟨y.toArray⟩, .bool false]) (by simp [results, Tryz.results86, go_sem, p0, p1]) rfl ⟨by rw [HL.out], HBP.out _ _⟩
      · obtain rfl : bb = false := by simpa using hbx
        clear hbx
        go_wp2
        obtain ⟨p0, p1⟩ := HC.out ⟨y.toArray⟩
        exact bodyPost_ret (v := .agg #[.string ⟨y.toArray⟩, .bool false]) (by simp [results, Tryz.results86, go_sem, p0, p1]) rfl ⟨by rw [HL.out], HBP.out _ _⟩
    · have HL : Hid (longer x y = x) := by show _ = _; unfold longer; rw [if_neg hc]
      have g4 : ¬ ((⟨x.toArray⟩ : ByteArray).size : Int) < ((⟨y.toArray⟩ : ByteArray).size : Int) := by rw [s1, s2]; omega
      have hcd : decide (x.length < y.length) = false := by simp only [hc, decide_true, decide_false]
      clear s1 s2 g4
      clear hc
      cases bx
      · go_wp2
        obtain ⟨p0, p1⟩ := HC.out ⟨x.toArray⟩
        exact bodyPost_ret (v := .agg #[.string ⟨x.toArray⟩, .bool false]) (by simp [results, Tryz.results86, go_sem, p0, p1]) rfl ⟨by rw [HL.out], HBP.out _ _⟩
      · obtain rfl : bb = false := by simpa using hbx
        clear hbx
        go_wp2
        obtain ⟨p0, p1⟩ := HC.out ⟨x.toArray⟩
        exact bodyPost_ret (v := .agg #[.string ⟨x.toArray⟩, .bool false]) (by simp [results, Tryz.results86, go_sem, p0, p1]) rfl ⟨by rw [HL.out], HBP.out _ _⟩
  · obtain ⟨rfl, rfl⟩ : bx = true ∧ bb = true := by simpa using hbx
    have HC : Hid (((w4.setCell ⟨w.heap.size + 1 + 1, 0, none⟩ (.string ⟨(x ++ y).toArray⟩)).setCell ⟨w.heap.size + 1 + 1, 1, none⟩ (.bool true)).cell? ⟨w.heap.size + 1 + 1, 0, none⟩ = some (.string ⟨(x ++ y).toArray⟩) ∧ ((w4.setCell ⟨w.heap.size + 1 + 1, 0, none⟩ (.string ⟨(x ++ y).toArray⟩)).setCell ⟨w.heap.size + 1 + 1, 1, none⟩ (.bool true)).cell? ⟨w.heap.size + 1 + 1, 1, none⟩ = some (.bool true)) := ⟨(fC.put _ true).all.1, (fC.put _ true).all.2.1⟩
    have hcat : (⟨x.toArray⟩ : ByteArray) ++ ⟨y.toArray⟩ = ⟨(x ++ y).toArray⟩ := cat_str x y
    have l1 : (⟨x.toArray⟩ : ByteArray).size ≤ 60 := by rw [size_str]; omega
    have l2 : (⟨y.toArray⟩ : ByteArray).size ≤ 60 := by rw [size_str]; omega
    have HBP := hid hbp
    clear fC hbp hbx s1 s2
    go_wp2
    obtain ⟨p0, p1⟩ := HC.out
    exact bodyPost_ret (v := .agg #[.string ⟨(x ++ y).toArray⟩, .bool true]) (by simp [results, Tryz.results86, go_sem, p0, p1]) rfl ⟨rfl, HBP.out _ _⟩
end Go.Proofs.YtejbififfceamaaGreatDoor
namespace Go.Proofs.YtejbififfceamaaGreatDoor
set_option linter.unusedSimpArgs false
set_option linter.unusedVariables false
set_option maxRecDepth 100000
open Go.RowKit
/-- ofPart answers of the part at i as the tree t says. -/
def PnOk (ns : List Nd) (b off cap : Nat) (t : Rx) (i : Nat) : Prop := ∀ w : World, b < w.heap.size → NsAt w b off ns →
  Calls Tryz.prog 57 #[.slice (some ⟨b, off, none⟩) ns.length cap, .int .i64 (i : Int)] w fun e w' => e = .returned t.muV ∧ Below w.heap.size w w'
theorem fieldM (s : ByteArray) (f : Bool) (w : World) : (Instr.field 131 (.agg #[.string s, .bool f]) 0).run Tryz.prog w = .ok (.string s) w := by kernel_rfl
theorem muV_form (t : Rx) : t.muV = .agg #[.string ⟨t.ned.toArray⟩, .bool t.whl.isSome] := rfl
set_option maxHeartbeats 4000000 in
theorem pn_leaf (ns : List Nd) (hl : ns.length ≤ 60) (b off cap i : Nat) (n : Nd) (hn : ns[i]? = some n) (hi : i < ns.length) (hok : n.c.ok) (hop : n.op = 1 ∨ n.op = 2 ∨ n.op = 8 ∨ n.op = 9) : PnOk ns b off cap (.leaf n) i := by
  intro w hlt hN
  have fA : Hmu (w.alloc (.cells #[.string ⟨#[]⟩, .bool false] 131)) w.heap.size ⟨#[]⟩ false := Hmu.new _ _ _ _ rfl
  have gW : Hid (Below w.heap.size w (w.alloc (.cells #[.string ⟨#[]⟩, .bool false] 131))) := (Below.refl _ _).alloc (Nat.le_refl _) _
  obtain ⟨c0, c1, c2, c3, c4⟩ := (hN.below gW.out hlt) i n hn
  have HZ : Hid (w.alloc (.cells #[.string ⟨#[]⟩, .bool false] 131) = w.alloc (.cells #[.string ⟨#[]⟩, .bool false] 131)) := Eq.refl _
  have i0 : (0 : Int) ≤ (i : Int) := by omega
  have i1 : (i : Int) < (ns.length : Int) := by omega
  go_enter Tryz.func57, Tryz.ntmps57
  go_upto_region 1 with fail
  generalize (w.alloc (.cells #[.string ⟨#[]⟩, .bool false] 131)) = w4 at *
  clear hN HZ
  rcases hop with hop | hop | hop | hop
  · rw [hop] at c0
    have HV : Hid ((Rx.leaf n).muV = n.c.muV) := by
      show _ = _
      simp only [Rx.muV, C4.muV, Rx.ned, Rx.whl, if_pos hop]
    obtain ⟨l, f, HF⟩ : ∃ l f, Hid (n.c.muV = .agg #[.string ⟨l⟩, .bool f]) := ⟨_, _, Eq.refl _⟩
    have HB := hid (fun w' => ofByte_any n.c hok w')
    rw [HF.out] at HV HB
    clear hop HF
    go_wp2_with fail
    refine Calls.mono (HB.out _) ?_
    rintro e w5 ⟨rfl, hb⟩
    have B := hid (gW.out.trans (hb.mono gW.out.size))
    have fB := fA.below hb fA.lt
    clear fA hb
    obtain ⟨m0, m1, z0, z1⟩ := fB.all
    go_wp2
    have hp := (fB.put ⟨l⟩ f).all
    refine bodyPost_ret (v := .agg #[.string ⟨l⟩, .bool f]) (by simp [results, Tryz.results57, go_sem, hp.1, hp.2.1]) rfl ⟨by rw [HV.out], ?_⟩
    exact below_putM B.out (Nat.le_refl _) _ _
  · have HV : Hid ((Rx.leaf n).muV = .agg #[.string ⟨#[]⟩, .bool true]) := by
      show _ = _
      simp [muV_form, Rx.ned, Rx.whl, hop]
    rw [hop] at c0
    obtain ⟨m0, m1, z0, z1⟩ := fA.all
    go_wp2
    have hp := (fA.put ⟨#[]⟩ true).all
    refine bodyPost_ret (v := .agg #[.string ⟨#[]⟩, .bool true]) (by simp [results, Tryz.results57, go_sem, hp.1, hp.2.1]) rfl ⟨by rw [HV.out], ?_⟩
    exact below_putM gW.out (Nat.le_refl _) _ _
  · have HV : Hid ((Rx.leaf n).muV = .agg #[.string ⟨#[]⟩, .bool false]) := by
      show _ = _
      simp [muV_form, Rx.ned, Rx.whl, hop]
    rw [hop] at c0
    obtain ⟨m0, m1, z0, z1⟩ := fA.all
    go_wp2
    have hp := (fA.put ⟨#[]⟩ false).all
    refine bodyPost_ret (v := .agg #[.string ⟨#[]⟩, .bool false]) (by simp [results, Tryz.results57, go_sem, hp.1, hp.2.1]) rfl ⟨by rw [HV.out], ?_⟩
    exact below_putM gW.out (Nat.le_refl _) _ _
  · have HV : Hid ((Rx.leaf n).muV = .agg #[.string ⟨#[]⟩, .bool false]) := by
      show _ = _
      simp [muV_form, Rx.ned, Rx.whl, hop]
    rw [hop] at c0
    obtain ⟨m0, m1, z0, z1⟩ := fA.all
    go_wp2
    have hp := (fA.put ⟨#[]⟩ false).all
    refine bodyPost_ret (v := .agg #[.string ⟨#[]⟩, .bool false]) (by simp [results, Tryz.results57, go_sem, hp.1, hp.2.1]) rfl ⟨by rw [HV.out], ?_⟩
    exact below_putM gW.out (Nat.le_refl _) _ _
set_option maxHeartbeats 4000000 in
theorem pn_none (ns : List Nd) (hl : ns.length ≤ 60) (b off cap i : Nat) (n : Nd) (t : Rx) (ht : t.whl = none) (hd : t.ned = []) (hn : ns[i]? = some n) (hi : i < ns.length) (hop : n.op = 4 ∨ n.op = 5 ∨ n.op = 7) : PnOk ns b off cap t i := by
  intro w hlt hN
  have fA : Hmu (w.alloc (.cells #[.string ⟨#[]⟩, .bool false] 131)) w.heap.size ⟨#[]⟩ false := Hmu.new _ _ _ _ rfl
  have gW : Hid (Below w.heap.size w (w.alloc (.cells #[.string ⟨#[]⟩, .bool false] 131))) := (Below.refl _ _).alloc (Nat.le_refl _) _
  obtain ⟨c0, c1, c2, c3, c4⟩ := (hN.below gW.out hlt) i n hn
  have i0 : (0 : Int) ≤ (i : Int) := by omega
  have i1 : (i : Int) < (ns.length : Int) := by omega
  have HV : Hid (t.muV = .agg #[.string ⟨#[]⟩, .bool false]) := by show _ = _; rw [muV_form, hd, ht]; rfl
  have g1 : (n.op == 1) = false := by rw [beq_eq_false_iff_ne]; omega
  have g2 : (n.op == 2) = false := by rw [beq_eq_false_iff_ne]; omega
  have g3 : (n.op == 3) = false := by rw [beq_eq_false_iff_ne]; omega
  have g6 : (n.op == 6) = false := by rw [beq_eq_false_iff_ne]; omega
  clear hop hN ht hd
  go_enter Tryz.func57, Tryz.ntmps57
  go_upto_region 1 with fail
  generalize (w.alloc (.cells #[.string ⟨#[]⟩, .bool false] 131)) = w4 at *
  obtain ⟨m0, m1, z0, z1⟩ := fA.all
  go_wp2
  have hp := (fA.put ⟨#[]⟩ false).all
  refine bodyPost_ret (v := .agg #[.string ⟨#[]⟩, .bool false]) (by simp [results, Tryz.results57, go_sem, hp.1, hp.2.1]) rfl ⟨by rw [HV.out], ?_⟩
  exact below_putM gW.out (Nat.le_refl _) _ _
set_option maxHeartbeats 4000000 in
theorem pn_plus (ns : List Nd) (hl : ns.length ≤ 60) (b off cap i : Nat) (n : Nd) (a : Rx) (hn : ns[i]? = some n) (hi : i < ns.length) (h6 : n.op = 6) (hA : PnOk ns b off cap a (i + 1)) : PnOk ns b off cap (.one n a) i := by
  intro w hlt hN
  have fA : Hmu (w.alloc (.cells #[.string ⟨#[]⟩, .bool false] 131)) w.heap.size ⟨#[]⟩ false := Hmu.new _ _ _ _ rfl
  have gW : Hid (Below w.heap.size w (w.alloc (.cells #[.string ⟨#[]⟩, .bool false] 131))) := (Below.refl _ _).alloc (Nat.le_refl _) _
  have HN := hid hN
  have HA : Hid (∀ w', Below w.heap.size w w' → _) := fun w' hb => hA w' (Nat.lt_of_lt_of_le hlt hb.size) (hN.below hb hlt)
  rw [muV_form] at HA
  obtain ⟨c0, c1, c2, c3, c4⟩ := (hN.below gW.out hlt) i n hn
  have i0 : (0 : Int) ≤ (i : Int) := by omega
  have i1 : (i : Int) < (ns.length : Int) := by omega
  have HV : Hid ((Rx.one n a).muV = .agg #[.string ⟨a.ned.toArray⟩, .bool false]) := by
    show _ = _
    rw [muV_form, Rx.ned, if_pos h6]
    rfl
  have hk : Hid ((i : Int) + 1 = ((i + 1 : Nat) : Int)) := by show _ = _; omega
  rw [h6] at c0
  clear hN hA h6
  go_enter Tryz.func57, Tryz.ntmps57
  go_upto_region 1 with fail
  generalize (w.alloc (.cells #[.string ⟨#[]⟩, .bool false] 131)) = w4 at *
  go_wp2_with fail
  rw [hk.out]
  refine Calls.mono (HA.out _ gW.out) ?_
  rintro e w5 ⟨rfl, hb⟩
  have B := hid (gW.out.trans (hb.mono gW.out.size))
  have fB := fA.below hb fA.lt
  have hfl := fieldM
  clear fA hb
  obtain ⟨m0, m1, z0, z1⟩ := fB.all
  go_wp2
  have hp := (fB.put ⟨a.ned.toArray⟩ false).all
  refine bodyPost_ret (v := .agg #[.string ⟨a.ned.toArray⟩, .bool false]) (by simp [results, Tryz.results57, go_sem, hp.1, hp.2.1]) rfl ⟨by rw [HV.out], ?_⟩
  exact below_putM B.out (Nat.le_refl _) _ _
set_option maxHeartbeats 4000000 in
theorem pn_cat (ns : List Nd) (hf : faultL ns = 0) (hl : ns.length ≤ 60) (b off cap i : Nat) (n : Nd) (x y : Rx) (hn : ns[i]? = some n) (hi : i + 1 < ns.length) (hop : n.op = 3) (he : endE ns (i + 1) = some (i + 1 + x.flat.length)) (hxl : x.flat.length ≤ 60) (hyl : y.flat.length ≤ 60) (hX : PnOk ns b off cap x (i + 1)) (hY : PnOk ns b off cap y (i + 1 + x.flat.length)) : PnOk ns b off cap (.two n x y) i := by
  intro w hlt hN
  have fA : Hmu (w.alloc (.cells #[.string ⟨#[]⟩, .bool false] 131)) w.heap.size ⟨#[]⟩ false := Hmu.new _ _ _ _ rfl
  have gW : Hid (Below w.heap.size w (w.alloc (.cells #[.string ⟨#[]⟩, .bool false] 131))) := (Below.refl _ _).alloc (Nat.le_refl _) _
  have HX : Hid (∀ w', Below w.heap.size w w' → _) := fun w' hb => hX w' (Nat.lt_of_lt_of_le hlt hb.size) (hN.below hb hlt)
  have HY : Hid (∀ w', Below w.heap.size w w' → _) := fun w' hb => hY w' (Nat.lt_of_lt_of_le hlt hb.size) (hN.below hb hlt)
  have HBO : Hid (∀ w', Calls Tryz.prog 86 #[muV x.ned x.whl.isSome, muV y.ned y.whl.isSome] w' fun e w'' => e = .returned (Rx.two n x y).muV ∧ Below w'.heap.size w' w'') := fun w' => by
    refine Calls.mono (ofBoth_any x.ned y.ned x.whl.isSome y.whl.isSome (Nat.le_trans (ned_len x) hxl) (Nat.le_trans (ned_len y) hyl) w') ?_
    rintro e w'' ⟨rfl, hb⟩
    refine ⟨?_, hb⟩
    congr 1
    rw [muV_form, Rx.ned, Rx.whl, if_pos hop]
    cases hx : x.whl with
    | none => simp [muV, if_pos hop]
    | some p =>
      cases hy : y.whl with
      | none => simp [muV, if_pos hop]
      | some q => simp [muV, ned_whl hx, ned_whl hy]
  have HEN : Hid (∀ w', Below w.heap.size w w' → _) := fun w' hb => rend_any ns (.slice (some ⟨b, off, none⟩) ns.length cap) ((i + 1 : Nat) : Int) w' ⟨_, _, rfl, by unfold maxLen; omega, Or.inr ⟨b, off, rfl, Nat.lt_of_lt_of_le hlt hb.size, hN.below hb hlt⟩⟩
  obtain ⟨q1, q2⟩ := rexEnd_in ns ((i + 1 : Nat) : Int) hf (by omega) (by omega)
  rw [q1, q2, Int.toNat_natCast, he, show endI (some (i + 1 + x.flat.length)) = ((i + 1 + x.flat.length : Nat) : Int) from rfl, show errV 0 = .nilIface from rfl] at HEN
  obtain ⟨l, f, HF⟩ : ∃ l f, Hid ((Rx.two n x y).muV = .agg #[.string ⟨l⟩, .bool f]) := ⟨_, _, Eq.refl _⟩
  rw [HF.out] at HBO
  rw [muV_form] at HX HY
  unfold muV at HBO
  obtain ⟨c0, c1, c2, c3, c4⟩ := (hN.below gW.out hlt) i n hn
  have i0 : (0 : Int) ≤ (i : Int) := by omega
  have i1 : (i : Int) < (ns.length : Int) := by omega
  have hk : Hid ((i : Int) + 1 = ((i + 1 : Nat) : Int)) := by show _ = _; omega
  rw [hop] at c0
  clear hN hop hX hY q1 q2 he
  go_enter Tryz.func57, Tryz.ntmps57
  go_upto_region 1 with fail
  generalize (w.alloc (.cells #[.string ⟨#[]⟩, .bool false] 131)) = w4 at *
  go_wp2_with fail
  rw [hk.out]
  refine Calls.mono (HEN.out _ gW.out) ?_
  rintro e w5 ⟨rfl, hb⟩
  have B := hid (gW.out.trans (hb.mono gW.out.size))
  have fB := fA.below hb fA.lt
  clear fA hb gW c0 c1 c2 c3 c4
  go_wp2_with fail
  rw [hk.out]
  refine Calls.mono (HX.out _ B.out) ?_
  rintro e w6 ⟨rfl, hb⟩
  replace B := hid (B.out.trans (hb.mono B.out.size))
  replace fB := fB.below hb fB.lt
  clear hb
  go_wp2_with fail
  refine Calls.mono (HY.out _ B.out) ?_
  rintro e w7 ⟨rfl, hb⟩
  replace B := hid (B.out.trans (hb.mono B.out.size))
  replace fB := fB.below hb fB.lt
  clear hb
  go_wp2_with fail
  refine Calls.mono (HBO.out _) ?_
  rintro e w8 ⟨rfl, hb⟩
  replace B := hid (B.out.trans (hb.mono B.out.size))
  replace fB := fB.below hb fB.lt
  clear hb
  obtain ⟨m0, m1, z0, z1⟩ := fB.all
  go_wp2
  have hp := (fB.put ⟨l⟩ f).all
  refine bodyPost_ret (v := .agg #[.string ⟨l⟩, .bool f]) (by simp [results, Tryz.results57, go_sem, hp.1, hp.2.1]) rfl ⟨by rw [HF.out], ?_⟩
  exact below_putM B.out (Nat.le_refl _) _ _
end Go.Proofs.YtejbififfceamaaGreatDoor
namespace Go.Proofs.YtejbififfceamaaGreatDoor
set_option linter.unusedSimpArgs false
set_option linter.unusedVariables false
set_option maxRecDepth 100000
open Go.RowKit
/-- ofPart at every tree. -/
theorem pn_tree (b off cap : Nat) : ∀ (t : Rx), t.Ok → ∀ (p q : List Nd), faultL (p ++ t.flat ++ q) = 0 → (∀ n ∈ t.flat, (1 ≤ n.op ∧ n.op ≤ 9) ∧ n.c.ok) → (p ++ t.flat ++ q).length ≤ 60 → PnOk (p ++ t.flat ++ q) b off cap t p.length
  | .leaf n, h, p, q, hf, ho, hl => by
    have h1 := ho n (by simp [Rx.flat])
    refine pn_leaf _ hl b off cap p.length n (by simp [Rx.flat]) (by simp [Rx.flat]) h1.2 ?_
    have h0 : prt n.op = 0 := h
    have h2 : ¬ prt n.op = 2 := by omega
    have h3 : ¬ prt n.op = 1 := by omega
    rw [prt_two] at h2
    rw [prt_one] at h3
    omega
  | .one n a, h, p, q, hf, ho, hl => by
    by_cases h6 : n.op = 6
    · have e : p ++ (Rx.one n a).flat ++ q = (p ++ [n]) ++ a.flat ++ q := by simp [Rx.flat]
      have ih := pn_tree b off cap a h.2 (p ++ [n]) q (by rw [← e]; exact hf) (fun m hm => ho m (by simp [Rx.flat, hm])) (by rw [← e]; exact hl)
      rw [← e, show (p ++ [n]).length = p.length + 1 from by simp] at ih
      exact pn_plus _ hl b off cap p.length n a (by simp [Rx.flat]) (by simp [Rx.flat]) h6 ih
    · have hop := (prt_one n.op).1 h.1
      exact pn_none _ hl b off cap p.length n _ rfl (by rw [Rx.ned, if_neg h6]) (by simp [Rx.flat]) (by simp [Rx.flat]) (by omega)
  | .two n x y, h, p, q, hf, ho, hl => by
    have e1 : p ++ (Rx.two n x y).flat ++ q = (p ++ [n]) ++ x.flat ++ (y.flat ++ q) := by simp [Rx.flat]
    have e2 : p ++ (Rx.two n x y).flat ++ q = (p ++ [n] ++ x.flat) ++ y.flat ++ q := by simp [Rx.flat]
    rcases (prt_two n.op).1 h.1 with hop | hop
    · have ih1 := pn_tree b off cap x h.2.1 (p ++ [n]) (y.flat ++ q) (by rw [← e1]; exact hf) (fun m hm => ho m (by simp [Rx.flat, hm])) (by rw [← e1]; exact hl)
      have ih2 := pn_tree b off cap y h.2.2 (p ++ [n] ++ x.flat) q (by rw [← e2]; exact hf) (fun m hm => ho m (by simp [Rx.flat, hm])) (by rw [← e2]; exact hl)
      rw [← e1, show (p ++ [n]).length = p.length + 1 from by simp] at ih1
      rw [← e2, show (p ++ [n] ++ x.flat).length = p.length + 1 + x.flat.length from by simp; omega] at ih2
      have hb : x.flat.length ≤ 60 ∧ y.flat.length ≤ 60 := by
        rw [e1] at hl
        simp at hl
        omega
      have hpx := x.flat_pos
      exact pn_cat _ hf hl b off cap p.length n x y (by simp [Rx.flat]) (by simp [Rx.flat]; omega) hop (end_at p q n x y h.2.1 _ rfl) hb.1 hb.2 ih1 ih2
    · have hw : (Rx.two n x y).whl = none := by rw [Rx.whl, if_neg (by omega)]
      exact pn_none _ hl b off cap p.length n _ hw (by rw [Rx.ned, hw]; simp only; rw [if_neg (by omega)]) (by simp [Rx.flat]) (by simp [Rx.flat]) (by omega)
theorem ofPart_any (t : Rx) (ht : t.Ok) (hf : faultL t.flat = 0) (hok : ∀ n ∈ t.flat, n.wf) (v : Value) (w : World) (h : NsIn w v t.flat) :
    Calls Tryz.prog 57 #[v, .int .i64 0] w fun e w' => e = .returned t.muV ∧ Below w.heap.size w w' := by
  obtain ⟨h60, hops, -⟩ := (faultL_zero t.flat).1 hf
  have hpos := t.flat_pos
  obtain ⟨a, cap, rfl, hm, h | ⟨b, off, rfl, hlt, hn⟩⟩ := h
  · rw [h] at hpos; simp at hpos
  · have := pn_tree b off cap t ht [] [] (by simpa using hf) (fun n hn => ⟨(hops n hn).1, C4.wf_ok (hok n hn).2⟩) (by simpa using h60)
    simp only [List.nil_append, List.append_nil, List.length_nil] at this
    exact this w hlt hn
set_option maxHeartbeats 4000000 in
theorem needed_bad (ns : List Nd) (v : Value) (w : World) (hN : NsIn w v ns) (hf : ¬ faultL ns = 0) : Calls Tryz.prog 39 #[v] w fun e w' => e = .returned (.tuple #[.string ⟨#[]⟩, errV (faultL ns)]) ∧ Below w.heap.size w w' := by
  have CC : Hid _ := rcheck_any ns v w hN
  rw [show errV (faultL ns) = .iface 32 (.int .i64 (faultL ns)) from if_neg hf] at CC ⊢
  clear hf hN
  generalize faultL ns = ft at *
  go_enter Tryz.func39, Tryz.ntmps39
  go_wp2_with fail
  refine Calls.mono CC.out ?_
  rintro e w1 ⟨rfl, hb⟩
  have B := hid hb
  clear hb CC
  go_wp2
  go_ret2
  exact ⟨rfl, B.out⟩
set_option maxHeartbeats 4000000 in
theorem needed_any (t : Rx) (v : Value) (w : World) (ht : t.Ok) (hN : NsIn w v t.flat) (hok : ∀ n ∈ t.flat, n.wf) (hf : faultL t.flat = 0) : Calls Tryz.prog 39 #[v] w fun e w' => e = .returned (.tuple #[.string ⟨t.ned.toArray⟩, .nilIface]) ∧ Below w.heap.size w w' := by
  have CC : Hid _ := rcheck_any t.flat v w hN
  rw [hf, show errV 0 = .nilIface from rfl] at CC
  have HP : Hid (∀ w', Below w.heap.size w w' → _) := fun w' hb => ofPart_any t ht hf hok v w' (hN.below hb)
  rw [muV_form] at HP
  clear hf hN hok ht
  have hfl := fieldM
  go_enter Tryz.func39, Tryz.ntmps39
  go_wp2_with fail
  refine Calls.mono CC.out ?_
  rintro e w1 ⟨rfl, hb⟩
  have B := hid hb
  clear hb CC
  go_wp2_with fail
  refine Calls.mono (HP.out _ B.out) ?_
  rintro e w2 ⟨rfl, hb⟩
  replace B := hid (B.out.trans (hb.mono B.out.size))
  clear hb HP
  go_wp2
  go_ret2
  exact ⟨rfl, B.out⟩
theorem litN (X : World → Prop) : LitN X where
  bad := fun ns v w hN _ hf => needed_bad ns v w hN hf
  need := fun t v w _ ht hN hok hf => needed_any t v w ht hN hok hf
end Go.Proofs.YtejbififfceamaaGreatDoor
