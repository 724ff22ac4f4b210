/- Package rex: parts, behind, checkNode, turnedNode. Package rex: Check. Package rex: mayBeNothing, Empty. append, of nodes. Package rex: turnedNode, appendTurned, Turn. -/
import Derived.Test.YtajkkmnojfghoaaDoorY04
import Derived.Test.YtajkkmnojfghoaaDoorY02
import Derived.Handy
import Derived.OwnWalk
import Derived.KernelRfl
namespace Go.Proofs.YtajkkmnojfghoaaDoor
set_option linter.unusedSimpArgs false
set_option linter.unusedVariables false
set_option maxRecDepth 100000
open Go.RowKit

set_option maxHeartbeats 400000 in
theorem rparts_any (op : Int) (w : World) :
    Calls Tryd.prog 74 #[.int .i64 op] w fun e w' => e = .returned (.int .i64 (prt op)) ∧ w' = w := by
  by_cases h3 : op = 3
  · subst h3
    go_enter Tryd.func74, Tryd.ntmps74
    go_wp2
    go_ret
    exact ⟨rfl, rfl⟩
  by_cases h4 : op = 4
  · subst h4
    go_enter Tryd.func74, Tryd.ntmps74
    go_wp2
    go_ret
    exact ⟨rfl, rfl⟩
  by_cases h5 : op = 5
  · subst h5
    go_enter Tryd.func74, Tryd.ntmps74
    go_wp2
    go_ret
    exact ⟨rfl, rfl⟩
  by_cases h6 : op = 6
  · subst h6
    go_enter Tryd.func74, Tryd.ntmps74
    go_wp2
    go_ret
    exact ⟨rfl, rfl⟩
  by_cases h7 : op = 7
  · subst h7
    go_enter Tryd.func74, Tryd.ntmps74
    go_wp2
    go_ret
    exact ⟨rfl, rfl⟩
  have b3 : (op == 3) = false := by simp [h3]
  have b4 : (op == 4) = false := by simp [h4]
  have b5 : (op == 5) = false := by simp [h5]
  have b6 : (op == 6) = false := by simp [h6]
  have b7 : (op == 7) = false := by simp [h7]
  have e0 : prt op = 0 := by unfold prt; simp [h3, h4, h5, h6, h7]
  rw [e0]
  clear h3 h4 h5 h6 h7 e0
  go_enter Tryd.func74, Tryd.ntmps74
  go_wp2
  go_ret
  exact ⟨rfl, rfl⟩
set_option maxHeartbeats 1000000 in
theorem behind_at (ns : List Nd) (b off cap i : Nat) (hm : ns.length ≤ maxLen) (hm2 : ns.length ≤ 2 ^ 62) (hi : i ≤ ns.length) (w : World) (hN : NsAt w b off ns) :
    Calls Tryd.prog 54 #[.slice (some ⟨b, off, none⟩) ns.length cap, .int .i64 i] w fun e w' => e = .returned (.tuple #[.int .i64 (i + (beh (ns.drop i) 1).1 : Nat), .bool (beh (ns.drop i) 1).2]) ∧ w' = w := by
  unfold maxLen at hm
  obtain ⟨k, x, HK, HX⟩ : ∃ k x, Hid (i + (beh (ns.drop i) 1).1 = k) ∧ Hid ((beh (ns.drop i) 1).2 = x) := ⟨_, _, Eq.refl _, Eq.refl _⟩
  rw [HK.out, HX.out]
  go_enter Tryd.func54, Tryd.ntmps54
  go_wp2_with fail
  go_loop [1, 6] (fun v u => ∃ (j m : Nat), j ≤ ns.length ∧ m ≤ j + 1 ∧ v = .int .i64 j ∧ u = .int .i64 m ∧ Hid (j + (beh (ns.drop j) m).1 = k) ∧ Hid ((beh (ns.drop j) m).2 = x)) (fun v _ => ns.length - (intOf v).toNat)
  case atStart => exact ⟨i, 1, by omega, by omega, rfl, rfl, HK, HX⟩
  case round =>
    obtain ⟨j, m, hj, hmj, rfl, rfl, H1, H2⟩ := hrel
    clear HK HX
    cases m with
    | zero =>
      rw [beh_zero] at H1 H2
      obtain rfl := H1.out
      obtain rfl := H2.out
      clear H1 H2
      go_wp2
      go_ret2
      exact ⟨rfl, rfl⟩
    | succ m =>
      have m0 : (0 : Int) < ((m + 1 : Nat) : Int) := by omega
      by_cases hl : j < ns.length
      · obtain ⟨n, hn⟩ : ∃ n, ns[j]? = some n := ⟨ns[j], List.getElem?_eq_getElem hl⟩
        obtain ⟨c0, _⟩ := hN j n hn
        have hp := prt_le n.op
        have i0 : (0 : Int) ≤ (j : Int) := by omega
        have i1 : (j : Int) < (ns.length : Int) := by omega
        rw [beh_step ns j m n hn] at H1 H2
        have H3 : Hid (j + 1 + (beh (ns.drop (j + 1)) (m + prt n.op)).1 = k) := by show _ = _; rw [← H1.out]; simp only; omega
        have H4 : Hid ((beh (ns.drop (j + 1)) (m + prt n.op)).2 = x) := H2.out
        clear hn H1 H2
        go_wp2_with fail
        refine (rparts_any _ _).mono ?_
        rintro e w1 ⟨rfl, rfl⟩
        generalize prt n.op = pr at *
        go_wp2
        refine ⟨⟨j + 1, m + pr, by omega, by omega, by go_num, ?_, H3, H4⟩, by simp [intOf]; omega⟩
        rw [show (m : Int) + 1 + ((pr : Int) - 1) = ((m + pr : Nat) : Int) from by omega]
      · have hj2 : j = ns.length := by omega
        have i1 : ¬ (j : Int) < (ns.length : Int) := by omega
        have d0 : ns.drop j = [] := List.drop_eq_nil_of_le (by omega)
        rw [d0] at H1 H2
        obtain rfl := H1.out
        obtain rfl := H2.out
        have m1 : (((m + 1 : Nat) : Int) == 0) = false := by rw [beq_eq_false_iff_ne]; omega
        clear H1 H2
        go_wp2
        go_ret2
        exact ⟨rfl, rfl⟩
theorem behind_any (ns : List Nd) (v : Value) (i : Nat) (w : World) (hN : NsIn w v ns) (hm2 : ns.length ≤ 2 ^ 62) (hi : i < ns.length) :
    Calls Tryd.prog 54 #[v, .int .i64 i] w fun e w' => e = .returned (.tuple #[.int .i64 (i + (beh (ns.drop i) 1).1 : Nat), .bool (beh (ns.drop i) 1).2]) ∧ w' = w := by
  obtain ⟨a, cap, rfl, hm, h | ⟨b, off, rfl, hlt, hn⟩⟩ := hN
  · subst h
    simp at hi
  · exact behind_at ns b off cap i hm hm2 (by omega) w hn
set_option maxHeartbeats 1000000 in
theorem behind_nil (a : Option Addr) (cap : Nat) (w : World) :
    Calls Tryd.prog 54 #[.slice a 0 cap, .int .i64 0] w fun e w' => e = .returned (.tuple #[.int .i64 0, .bool false]) ∧ w' = w := by
  go_enter Tryd.func54, Tryd.ntmps54
  go_wp2_with fail
  go_loop [1, 6] (fun v u => v = .int .i64 0 ∧ u = .int .i64 1) (fun _ _ => 0)
  case atStart => exact ⟨rfl, rfl⟩
  case round =>
    obtain ⟨rfl, rfl⟩ := hrel
    go_wp2
    go_ret2
    exact ⟨rfl, rfl⟩
set_option maxHeartbeats 1000000 in
theorem checkNode_any (n : Nd) (w : World) :
    Calls Tryd.prog 53 #[n.v] w fun e w' => e = .returned (errV (scanL [n])) ∧ Below w.heap.size w w' := by
  by_cases h1 : n.op < 1
  · have HF : Hid (scanL [n] = 1) := by show _ = _; rw [scanL, if_pos (Or.inl h1)]
    go_enter Tryd.func53, Tryd.ntmps53
    go_wp2
    go_ret
    exact ⟨by rw [HF.out]; rfl, Below.alloc (Below.refl _ _) (Nat.le_refl _) _⟩
  by_cases h9 : 9 < n.op
  · have HF : Hid (scanL [n] = 1) := by show _ = _; rw [scanL, if_pos (Or.inr h9)]
    go_enter Tryd.func53, Tryd.ntmps53
    go_wp2
    go_ret
    exact ⟨by rw [HF.out]; rfl, Below.alloc (Below.refl _ _) (Nat.le_refl _) _⟩
  by_cases hb : n.op = 1
  · have HF : Hid (scanL [n] = 0) := by show _ = _; rw [scanL, if_neg (by omega), if_neg (by simp [hb])]; rfl
    have hb2 : (n.op != 1) = false := by simp [hb]
    clear hb
    go_enter Tryd.func53, Tryd.ntmps53
    go_wp2
    go_ret
    exact ⟨by rw [HF.out]; rfl, Below.alloc (Below.refl _ _) (Nat.le_refl _) _⟩
  have hb2 : (n.op != 1) = true := by simp [hb]
  by_cases hz : n.c.eqb z4 = true
  · have HF : Hid (scanL [n] = 0) := by show _ = _; rw [scanL, if_neg (by omega), if_neg (by simp [hz])]; rfl
    clear hb
    have he : ∀ w, (Op.equalIn 10000 24 (.agg #[.int .u64 n.c.a, .int .u64 n.c.b, .int .u64 n.c.c, .int .u64 n.c.d]) (.agg #[.int .u64 0, .int .u64 0, .int .u64 0, .int .u64 0])).run Tryd.prog w = .ok true w := fun w => (eq4 n.c z4 w).trans (by rw [hz])
    go_enter Tryd.func53, Tryd.ntmps53
    go_wp2
    go_ret
    exact ⟨by rw [HF.out]; rfl, Below.alloc (Below.refl _ _) (Nat.le_refl _) _⟩
  · have HF : Hid (scanL [n] = 2) := by show _ = _; rw [scanL, if_neg (by omega), if_pos ⟨hb, hz⟩]
    clear hb
    have he : ∀ w, (Op.equalIn 10000 24 (.agg #[.int .u64 n.c.a, .int .u64 n.c.b, .int .u64 n.c.c, .int .u64 n.c.d]) (.agg #[.int .u64 0, .int .u64 0, .int .u64 0, .int .u64 0])).run Tryd.prog w = .ok false w := fun w => (eq4 n.c z4 w).trans (by rw [Bool.eq_false_iff.2 hz])
    go_enter Tryd.func53, Tryd.ntmps53
    go_wp2
    go_ret
    exact ⟨by rw [HF.out]; rfl, Below.alloc (Below.refl _ _) (Nat.le_refl _) _⟩
end Go.Proofs.YtajkkmnojfghoaaDoor
namespace Go.Proofs.YtajkkmnojfghoaaDoor
set_option linter.unusedSimpArgs false
set_option linter.unusedVariables false
set_option maxRecDepth 100000
open Go.RowKit

theorem scan_one (n : Nd) : scanL [n] = if n.op < 1 ∨ 9 < n.op then 1 else if ¬ n.op = 1 ∧ ¬ n.c.eqb z4 = true then 2 else 0 := by
  rw [scanL]; rfl
set_option maxHeartbeats 4000000 in
theorem check_at (ns : List Nd) (b off cap : Nat) (hm : ns.length ≤ maxLen) (w : World) (hlt : b < w.heap.size) (hN : NsAt w b off ns) (h0 : 0 < ns.length) :
    Calls Tryd.prog 26 #[.slice (some ⟨b, off, none⟩) ns.length cap] w fun e w' => e = .returned (errV (faultL ns)) ∧ Below w.heap.size w w' := by
  have HM := (show Hid _ from hm)
  unfold maxLen at hm
  by_cases h60 : 60 < ns.length
  · have g60 : (60 : Int) < (ns.length : Int) := by omega
    have HF : Hid (faultL ns = 3) := by show _ = _; rw [faultL, if_pos h60]
    go_enter Tryd.func26, Tryd.ntmps26
    go_wp2
    go_ret
    exact ⟨by rw [HF.out]; rfl, Below.refl _ _⟩
  · have g60 : ¬ (60 : Int) < (ns.length : Int) := by omega
    go_enter Tryd.func26, Tryd.ntmps26
    go_wp2
    go_loopw [14] (fun v wr => ∃ i : Nat, i ≤ ns.length ∧ v = .int .i64 i ∧ Hid (scanL ns = scanL (ns.drop i)) ∧ Below w.heap.size w wr) (fun v _ => ns.length - (intOf v).toNat)
    case atStart => exact ⟨0, by omega, rfl, Eq.refl _, Below.refl _ _⟩
    case round =>
      obtain ⟨i, hi, rfl, HS, hB⟩ := hrel
      have hNr := hN.below hB hlt
      by_cases hil : i < ns.length
      · obtain ⟨n, hn⟩ : ∃ n, ns[i]? = some n := ⟨ns[i], List.getElem?_eq_getElem hil⟩
        obtain ⟨c0, c1, c2, c3, c4⟩ := hNr i n hn
        have HD : Hid _ := scan_drop ns i n hn
        have H1 : Hid _ := scan_one n
        have i0 : (0 : Int) ≤ (i : Int) := by omega
        have i1 : (i : Int) < (ns.length : Int) := by omega
        clear hn
        have hcn := checkNode_any n
        go_wp2_with fail
        refine (hcn _).mono ?_
        rintro e w1 ⟨rfl, hb1⟩
        have hB1 : Below w.heap.size w w1 := hB.trans ((Below.alloc (Below.refl _ _) (Nat.le_refl _) _).trans (hb1.mono (by simp)) |>.mono hB.size)
        clear hb1 hcn
        by_cases hs : scanL [n] = 0
        · have HS2 : Hid (scanL ns = scanL (ns.drop (i + 1))) := by
            show _ = _
            rw [HS.out, HD.out]
            rw [H1.out] at hs
            split
            · rename_i h; rw [if_pos h] at hs; cases hs
            · rename_i h
              rw [if_neg h] at hs
              split
              · rename_i h2; rw [if_pos h2] at hs; cases hs
              · rfl
          rw [hs, show errV 0 = .nilIface from rfl]
          clear hs HD H1 HS
          go_wp2
          exact ⟨⟨i + 1, by omega, by go_num, HS2, hB1⟩, by simp [intOf]; omega⟩
        · have HF : Hid (faultL ns = scanL [n]) := by
            show _ = _
            have e1 : scanL ns = scanL [n] := by
              rw [HS.out, HD.out]
              rw [H1.out] at hs ⊢
              split
              · rfl
              · rename_i h
                rw [if_neg h] at hs
                split
                · rfl
                · rename_i h2; rw [if_neg h2] at hs; exact absurd rfl hs
            rw [faultL, if_neg h60, e1, if_pos hs]
          rw [show errV (scanL [n]) = .iface 25 (.int .i64 (scanL [n])) from if_neg hs]
          have HE : Hid (errV (faultL ns) = .iface 25 (.int .i64 (scanL [n]))) := by show _ = _; rw [HF.out]; exact if_neg hs
          clear hs HD H1 HS HF
          generalize scanL [n] = er at *
          go_wp2
          go_ret
          exact ⟨by rw [HE.out]; rfl, hB1⟩
      · have hi2 : i = ns.length := by omega
        have e0 : scanL ns = 0 := by rw [HS.out, List.drop_eq_nil_of_le (by omega)]; rfl
        have HF : Hid _ := fault_beh ns h60 e0
        have HC : Hid (Calls Tryd.prog 54 #[.slice (some ⟨b, off, none⟩) ns.length cap, .int .i64 0] wr fun e w' => e = .returned (.tuple #[.int .i64 ((beh ns 1).1 : Nat), .bool (beh ns 1).2]) ∧ w' = wr) := by
          have := behind_at ns b off cap 0 HM.out (by omega) (by omega) wr hNr
          rw [List.drop_zero, Nat.zero_add] at this
          exact this
        subst hi2
        have hkl := beh_le ns 1
        clear e0 HS
        generalize beh ns 1 = x at *
        obtain ⟨k, y⟩ := x
        simp only at HC HF hkl
        go_wp2_with fail
        refine HC.out.mono ?_
        rintro e w1 ⟨rfl, rfl⟩
        cases y with
        | false =>
          have HF2 : Hid (faultL ns = 2) := by show _ = _; rw [HF.out]; rfl
          clear HF HC
          go_wp2
          go_ret
          exact ⟨by rw [HF2.out]; rfl, hB⟩
        | true =>
          by_cases hk : k < ns.length
          · have HF2 : Hid (faultL ns = 2) := by show _ = _; rw [HF.out, if_neg (by simp; omega)]
            have hk2 : (k : Int) < (ns.length : Int) := by omega
            clear HF HC
            go_wp2
            go_ret
            exact ⟨by rw [HF2.out]; rfl, hB⟩
          · have HF2 : Hid (faultL ns = 0) := by show _ = _; rw [HF.out, if_pos (by simp; omega)]
            have hk2 : ¬ (k : Int) < (ns.length : Int) := by omega
            clear HF HC
            go_wp2
            go_ret
            exact ⟨by rw [HF2.out]; rfl, hB⟩
set_option maxHeartbeats 1000000 in
theorem check_nil (a : Option Addr) (cap : Nat) (w : World) :
    Calls Tryd.prog 26 #[.slice a 0 cap] w fun e w' => e = .returned (errV 2) ∧ Below w.heap.size w w' := by
  go_enter Tryd.func26, Tryd.ntmps26
  go_wp2_with fail
  go_loop [14] (fun v => v = .int .i64 0) (fun _ => 0)
  case atStart => rfl
  case round =>
    subst hrel
    go_wp2_with fail
    refine (behind_nil a cap w).mono ?_
    rintro e w1 ⟨rfl, rfl⟩
    go_wp2
    go_ret
    exact ⟨rfl, Below.refl _ _⟩
theorem rcheck_any (ns : List Nd) (v : Value) (w : World) (hN : NsIn w v ns) :
    Calls Tryd.prog 26 #[v] w fun e w' => e = .returned (errV (faultL ns)) ∧ Below w.heap.size w w' := by
  obtain ⟨a, cap, rfl, hm, h | ⟨b, off, rfl, hlt, hn⟩⟩ := hN
  · subst h
    exact check_nil a cap w
  · by_cases h0 : 0 < ns.length
    · exact check_at ns b off cap hm w hlt hn h0
    · have : ns = [] := List.eq_nil_of_length_eq_zero (by omega)
      subst this
      exact check_nil _ cap w
end Go.Proofs.YtajkkmnojfghoaaDoor
namespace Go.Proofs.YtajkkmnojfghoaaDoor
set_option linter.unusedSimpArgs false
set_option linter.unusedVariables false
set_option maxRecDepth 100000
open Go.RowKit

/-- The place behind a part that is whole. -/
theorem behind_k (ns : List Nd) (b off cap : Nat) (hm : ns.length ≤ 60) (w : World) (hN : NsAt w b off ns) (i f k : Nat) (h : endF ns f i = some k) :
    Calls Tryd.prog 54 #[.slice (some ⟨b, off, none⟩) ns.length cap, .int .i64 i] w fun e w' => e = .returned (.tuple #[.int .i64 k, .bool true]) ∧ w' = w := by
  have g := endF_gt ns f i k h
  have h1 := behind_at ns b off cap i (by unfold maxLen; omega) (by omega) (by omega) w hN
  obtain ⟨e1, e2⟩ := end_beh ns f i k h
  rw [e1, e2] at h1
  exact h1
set_option maxHeartbeats 4000000 in
theorem mayBe_at (ns : List Nd) (hr : ∀ n ∈ ns, 1 ≤ n.op ∧ n.op ≤ 9) (b off cap : Nat) (hm : ns.length ≤ 60) (w : World) (hN : NsAt w b off ns) : ∀ (f i j : Nat), f ≤ ns.length + 1 → endF ns f i = some j →
    Calls Tryd.prog 56 #[.slice (some ⟨b, off, none⟩) ns.length cap, .int .i64 i] w fun e w' => e = .returned (.bool (empF ns f i)) ∧ w' = w := by
  have HB : Hid _ := behind_k ns b off cap hm w hN
  intro f
  induction f with
  | zero => intro i j _ h; simp [endF] at h
  | succ f ih =>
    intro i j hf h
    have IH := (show Hid _ from ih)
    clear ih
    obtain ⟨n, hn, hil, hc⟩ := part_cases ns f i j h
    have hop := hr n (List.mem_of_getElem? hn)
    have HC := (show Hid _ from hc)
    have HE : Hid _ := empF_at ns f i n hn
    obtain ⟨c0, _⟩ := hN i n hn
    have i0 : (0 : Int) ≤ (i : Int) := by omega
    have i1 : (i : Int) < (ns.length : Int) := by omega
    have hs := arg_succ i
    have HS := (show Hid _ from hs)
    clear hc hn h hs
    obtain ⟨op, c⟩ := n
    simp only at *
    have h9 : op = 1 ∨ op = 2 ∨ op = 3 ∨ op = 4 ∨ op = 5 ∨ op = 6 ∨ op = 7 ∨ op = 8 ∨ op = 9 := by omega
    clear hop
    rcases h9 with rfl | rfl | rfl | rfl | rfl | rfl | rfl | rfl | rfl
    · go_enter Tryd.func56, Tryd.ntmps56
      go_wp2
      go_ret
      exact ⟨by rw [HE.out]; rfl, rfl⟩
    · go_enter Tryd.func56, Tryd.ntmps56
      go_wp2
      go_ret
      exact ⟨by rw [HE.out]; rfl, rfl⟩
    · obtain ⟨k, hk1, hk2⟩ : ∃ k, endF ns f (i + 1) = some k ∧ endF ns f k = some j := by
        rcases HC.out with ⟨h0, _⟩ | ⟨h0, _⟩ | ⟨_, h0⟩
        · simp [prt] at h0
        · simp [prt] at h0
        · exact h0
      have HX : Hid (empF ns (f + 1) i = (empF ns f (i + 1) && empF ns f k)) := by
        show _ = _
        rw [HE.out, endE_of ns f (i + 1) k (by omega) hk1]; rfl
      have c1 := IH.out (i + 1) k (by omega) hk1
      have c2 := HB.out (i + 1) f k hk1
      have c3 := IH.out k j (by omega) hk2
      rw [HS.out] at c1 c2
      have C1 := (show Hid _ from c1)
      have C2 := (show Hid _ from c2)
      have C3 := (show Hid _ from c3)
      clear c1 c2 c3 hk1 hk2 HC HE HB IH HS
      generalize empF ns f (i + 1) = x at *
      generalize empF ns f k = y at *
      cases x
      · go_enter Tryd.func56, Tryd.ntmps56
        go_wp2_with fail
        refine Calls.mono C2.out ?_
        rintro e w1 ⟨rfl, rfl⟩
        go_wp2_with fail
        refine Calls.mono C1.out ?_
        rintro e w1 ⟨rfl, rfl⟩
        go_wp2
        go_ret
        exact ⟨by rw [HX.out]; rfl, rfl⟩
      · go_enter Tryd.func56, Tryd.ntmps56
        go_wp2_with fail
        refine Calls.mono C2.out ?_
        rintro e w1 ⟨rfl, rfl⟩
        go_wp2_with fail
        refine Calls.mono C1.out ?_
        rintro e w1 ⟨rfl, rfl⟩
        go_wp2_with fail
        refine Calls.mono C3.out ?_
        rintro e w1 ⟨rfl, rfl⟩
        go_wp2
        go_ret
        exact ⟨by rw [HX.out]; rfl, rfl⟩
    · obtain ⟨k, hk1, hk2⟩ : ∃ k, endF ns f (i + 1) = some k ∧ endF ns f k = some j := by
        rcases HC.out with ⟨h0, _⟩ | ⟨h0, _⟩ | ⟨_, h0⟩
        · simp [prt] at h0
        · simp [prt] at h0
        · exact h0
      have HX : Hid (empF ns (f + 1) i = (empF ns f (i + 1) || empF ns f k)) := by
        show _ = _
        rw [HE.out, endE_of ns f (i + 1) k (by omega) hk1]; rfl
      have c1 := IH.out (i + 1) k (by omega) hk1
      have c2 := HB.out (i + 1) f k hk1
      have c3 := IH.out k j (by omega) hk2
      rw [HS.out] at c1 c2
      have C1 := (show Hid _ from c1)
      have C2 := (show Hid _ from c2)
      have C3 := (show Hid _ from c3)
      clear c1 c2 c3 hk1 hk2 HC HE HB IH HS
      generalize empF ns f (i + 1) = x at *
      generalize empF ns f k = y at *
      cases x
      · go_enter Tryd.func56, Tryd.ntmps56
        go_wp2_with fail
        refine Calls.mono C2.out ?_
        rintro e w1 ⟨rfl, rfl⟩
        go_wp2_with fail
        refine Calls.mono C1.out ?_
        rintro e w1 ⟨rfl, rfl⟩
        go_wp2_with fail
        refine Calls.mono C3.out ?_
        rintro e w1 ⟨rfl, rfl⟩
        go_wp2
        go_ret
        exact ⟨by rw [HX.out]; rfl, rfl⟩
      · go_enter Tryd.func56, Tryd.ntmps56
        go_wp2_with fail
        refine Calls.mono C2.out ?_
        rintro e w1 ⟨rfl, rfl⟩
        go_wp2_with fail
        refine Calls.mono C1.out ?_
        rintro e w1 ⟨rfl, rfl⟩
        go_wp2
        go_ret
        exact ⟨by rw [HX.out]; rfl, rfl⟩
    · go_enter Tryd.func56, Tryd.ntmps56
      go_wp2
      go_ret
      exact ⟨by rw [HE.out]; rfl, rfl⟩
    · have hk1 : endF ns f (i + 1) = some j := by
        rcases HC.out with ⟨h0, _⟩ | ⟨_, h0⟩ | ⟨h0, _⟩
        · simp [prt] at h0
        · exact h0
        · simp [prt] at h0
      have HX : Hid (empF ns (f + 1) i = empF ns f (i + 1)) := by
        show _ = _
        rw [HE.out]; rfl
      have c1 := IH.out (i + 1) j (by omega) hk1
      rw [HS.out] at c1
      have C1 := (show Hid _ from c1)
      clear c1 hk1 HC HE HB IH HS
      go_enter Tryd.func56, Tryd.ntmps56
      go_wp2_with fail
      refine Calls.mono C1.out ?_
      rintro e w1 ⟨rfl, rfl⟩
      go_wp2
      go_ret
      exact ⟨by rw [HX.out]; rfl, rfl⟩
    · go_enter Tryd.func56, Tryd.ntmps56
      go_wp2
      go_ret
      exact ⟨by rw [HE.out]; rfl, rfl⟩
    · go_enter Tryd.func56, Tryd.ntmps56
      go_wp2
      go_ret
      exact ⟨by rw [HE.out]; rfl, rfl⟩
    · go_enter Tryd.func56, Tryd.ntmps56
      go_wp2
      go_ret
      exact ⟨by rw [HE.out]; rfl, rfl⟩
set_option maxHeartbeats 4000000 in
theorem rempty_any (ns : List Nd) (v : Value) (w : World) (hN : NsIn w v ns) :
    Calls Tryd.prog 29 #[v] w fun e w' => e = .returned (.tuple #[.bool (decide (faultL ns = 0) && empE ns), errV (faultL ns)]) ∧ Below w.heap.size w w' := by
  have CC : Hid _ := rcheck_any ns v w hN
  by_cases hf : faultL ns = 0
  · obtain ⟨hl, hr, hv⟩ := (faultL_zero ns).1 hf
    obtain ⟨a, cap, rfl, hm, h | ⟨b, off, rfl, hlt, hn⟩⟩ := hN
    · subst h; rw [endE_nil] at hv; cases hv
    have C2 : Hid (∀ w', Below w.heap.size w w' → Calls Tryd.prog 56 #[.slice (some ⟨b, off, none⟩) ns.length cap, .int .i64 0] w' fun e w'' => e = .returned (.bool (empE ns)) ∧ w'' = w') := fun w' hb =>
      mayBe_at ns (fun n hn => (hr n hn).1) b off cap hl w' (hn.below hb hlt) (ns.length + 1) 0 ns.length (Nat.le_refl _) hv
    rw [hf] at CC ⊢
    rw [decide_eq_true rfl, Bool.true_and]
    rw [show errV 0 = .nilIface from rfl] at CC ⊢
    clear hl hr hv hn hf
    generalize empE ns = em at *
    go_enter Tryd.func29, Tryd.ntmps29
    go_wp2_with fail
    refine Calls.mono CC.out ?_
    rintro e w1 ⟨rfl, hb⟩
    have B1 : Hid _ := hb
    clear hb
    go_wp2_with fail
    refine Calls.mono (C2.out _ B1.out) ?_
    rintro e w1 ⟨rfl, rfl⟩
    go_wp2
    go_ret2
    exact ⟨rfl, B1.out⟩
  · obtain ⟨a, cap, rfl, hm, _⟩ := hN
    rw [decide_eq_false hf, Bool.false_and]
    rw [show errV (faultL ns) = .iface 25 (.int .i64 (faultL ns)) from if_neg hf] at CC ⊢
    clear hf
    generalize faultL ns = ft at *
    go_enter Tryd.func29, Tryd.ntmps29
    go_wp2_with fail
    refine Calls.mono CC.out ?_
    rintro e w1 ⟨rfl, hb⟩
    have B1 : Hid _ := hb
    clear hb
    go_wp2
    go_ret2
    exact ⟨rfl, B1.out⟩
end Go.Proofs.YtajkkmnojfghoaaDoor
namespace Go.Proofs.YtajkkmnojfghoaaDoor
set_option linter.unusedSimpArgs false
set_option linter.unusedVariables false
set_option maxRecDepth 100000
open Go.RowKit

theorem grown_cells {w4 w5 : World} {r : Nat} {xs : List Value} (h : w4.grownBy w5 (some r)) {g : Nat} (hg : g < w4.heap.size) (hne : g ≠ r) (hc : ∀ (j : Nat) u, xs[j]? = some u → w4.cell? ⟨g, j, none⟩ = some u) : ∀ (j : Nat) u, xs[j]? = some u → w5.cell? ⟨g, j, none⟩ = some u := by
  intro j u hj
  rw [World.cell?_of_block (a := ⟨g, j, none⟩) (h.block g hg (by intro e; injection e with e; exact hne e))]
  exact hc j u hj
/-- append, of nodes of the call's own to nodes of the call's own. -/
theorem wpList_append_ns {ops : Array Oper} {rest : List Oper} {o : Oper} {a : Act} {Q : Exit → Act → World → Prop} {w : World} (hgd : o.guard = none) (s x : Operand)
    (ho : o.op = .call { callee := .builtin .append, args := #[s, x], argTypes := #[40, 40] })
    (B : Nat) (v : Value) (hs : a.eval s = v) (ns : List Nd) (hown : NsOwn w B v ns) (g2 m2 c2 : Nat) (ms : List Nd) (hx : a.eval x = .slice (some ⟨g2, 0, none⟩) m2 c2) (hm2 : m2 = ms.length)
    (hnews : ∀ j u, (nsCells ms)[j]? = some u → w.cell? ⟨g2, j, none⟩ = some u) (hm : 0 < ms.length) (hbytes : (ns.length + ms.length) * 40 ≤ 140737488355328) (hbase : B ≤ w.heap.size)
    (h : ∀ g cap w', NsOwn w' B (.slice (some ⟨g, 0, none⟩) (ns.length + ms.length) cap) (ns ++ ms) → w.grownBy w' v.ownBlock → B ≤ g → g < w'.heap.size → wpList Tryd.prog ops Q rest (a.put o.dst (.slice (some ⟨g, 0, none⟩) (ns.length + ms.length) cap)) w') : wpList Tryd.prog ops Q (o :: rest) a w := by
  subst hm2
  have hinfo : (Tryd.prog.info? 56).map (fun i => (i.zero, i.size, i.bytes)) = some (some (.agg #[.int .i64 0, .int .u64 0, .int .u64 0, .int .u64 0, .int .u64 0]), 5, 40) := by kernel_rfl
  obtain ⟨i0, hi, hz0, hz1, hz2⟩ := info_parts hinfo
  refine wpList_append_lies w hgd s x 40 ho B 56 i0 _ 5 40 Tryd.underlying40 hi hz0 hz1 hz2 rfl (by decide) v ns.length (nsCells ns) hs hown ⟨g2, 0, none⟩ ms.length c2 (nsCells ms) hx (nsCells_len ms) ?_ (nsCells_one ms) hm (by unfold maxLen; omega) hbytes hbase w.heap.size rfl ?_
  · intro j u hj
    have e : (⟨g2, 0, none⟩ : Addr).add j = ⟨g2, j, none⟩ := by
      rcases j with _ | j <;> simp [Addr.add]
    rw [e]
    exact hnews j u hj
  · intro g cap w' h1 h2 h3 h4
    have e : NsOwn w' B (.slice (some ⟨g, 0, none⟩) (ns.length + ms.length) cap) (ns ++ ms) := by
      unfold NsOwn
      rw [nsCells_append, List.length_append]
      exact h1
    have hg : B ≤ g := by
      rcases h3 with h3 | h3
      · rcases hown.2 with ⟨hv, _⟩ | ⟨g', cap', cur, hv, hb, _⟩
        · rw [hv] at h3; cases h3
        · rw [hv] at h3
          injection h3 with h3
          simp at h3
          omega
      · omega
    exact h g cap w' e h2 hg h4
theorem NsOwn.keptG {w w' : World} {B g : Nat} {v : Value} {ns : List Nd} (h : NsOwn w B v ns) (hg : w.grownBy w' (some g)) (hlt : g < B) : NsOwn w' B v ns := by
  refine World.ownsRow.kept h hg ?_
  rcases h.2 with ⟨hv, _⟩ | ⟨b, cap, cur, hv, hb, _⟩
  · rw [hv]; exact Or.inl rfl
  · rw [hv]
    refine Or.inr ?_
    intro e
    injection e with e
    simp only at e
    omega
end Go.Proofs.YtajkkmnojfghoaaDoor
namespace Go.Proofs.YtajkkmnojfghoaaDoor
set_option linter.unusedSimpArgs false
set_option linter.unusedVariables false
set_option maxRecDepth 100000
open Go.RowKit

set_option maxHeartbeats 1000000 in
theorem turnedNode_any (n : Nd) (w : World) :
    Calls Tryd.prog 75 #[n.v] w fun e w' => e = .returned n.flip.v ∧ Below w.heap.size w w' := by
  obtain ⟨op, c⟩ := n
  by_cases h8 : op = 8
  · subst h8
    go_enter Tryd.func75, Tryd.ntmps75
    go_wp2
    refine bodyPost_ret (v := (Nd.flip ⟨8, c⟩).v) (by simp [results, Tryd.results75, go_sem, Nd.flip, flipOp]) rfl ⟨rfl, ?_⟩
    exact ((Below.refl _ _).alloc (Nat.le_refl _) _).alloc (by simp) _
  by_cases h9 : op = 9
  · subst h9
    go_enter Tryd.func75, Tryd.ntmps75
    go_wp2
    refine bodyPost_ret (v := (Nd.flip ⟨9, c⟩).v) (by simp [results, Tryd.results75, go_sem, Nd.flip, flipOp]) rfl ⟨rfl, ?_⟩
    exact ((Below.refl _ _).alloc (Nat.le_refl _) _).alloc (by simp) _
  have p8 : (op == 8) = false := by simp [h8]
  have p9 : (op == 9) = false := by simp [h9]
  have HF : Hid (Nd.flip ⟨op, c⟩ = ⟨op, c⟩) := by show _ = _; simp [Nd.flip, flipOp, h8, h9]
  rw [HF.out]
  clear h8 h9
  go_enter Tryd.func75, Tryd.ntmps75
  go_wp2
  refine bodyPost_ret (v := (Nd.mk op c).v) (by simp [results, Tryd.results75, go_sem]) rfl ⟨rfl, ?_⟩
  exact ((Below.refl _ _).alloc (Nat.le_refl _) _).alloc (by simp) _
def ndObj (op : Int) (c : C4) : Obj := .cells #[.int .i64 op, .int .u64 c.a, .int .u64 c.b, .int .u64 c.c, .int .u64 c.d] 56 (0, 0)
/-- The world ahead of the append. -/
structure AppSet (B : Nat) (w : World) (v : Value) (ms : List Nd) (n : Nd) (w2 : World) (g : Nat) : Prop where
  b : Below B w w2
  s : B ≤ w2.heap.size
  o : NsOwn w2 B v ms
  c : ∀ j u, (nsCells [n.flip])[j]? = some u → w2.cell? ⟨g, j, none⟩ = some u
  own : ∀ k, v.ownBlock = some k → B ≤ k
theorem app_set {B : Nat} {w w1 : World} {v : Value} {ms : List Nd} {n : Nd} (hB : B ≤ w.heap.size) (hO : NsOwn w B v ms) (h1 : Below w.heap.size w w1) : AppSet B w v ms n (w1.alloc (ndObj n.flip.op n.flip.c)) w1.heap.size := by
  have hs := h1.size
  have b2 : Below w.heap.size w (w1.alloc (ndObj n.flip.op n.flip.c)) := h1.alloc hs _
  have e : (w1.alloc (ndObj n.flip.op n.flip.c)).heap[w1.heap.size]? = some (ndObj n.flip.op n.flip.c) := by show (w1.heap.push _)[w1.heap.size]? = _; simp
  refine ⟨b2.mono hB, ?_, hO.below b2, ?_, ?_⟩
  · have := b2.size; omega
  · intro j u hj
    rw [Lib.cell_of_heap e]
    simp only [nsCells, List.append_nil] at hj
    simpa using hj
  · intro k hk
    rcases hO.2 with ⟨hv, _⟩ | ⟨g, cap, cur, hv, hg, _⟩
    · rw [hv] at hk; cases hk
    · rw [hv] at hk
      injection hk with hk
      simp only at hk
      omega
/-- The contract of a call at i: what is turned stands behind what was there. -/
def AppOk (ns : List Nd) (b off cap i : Nat) (t : List Nd) : Prop := ∀ (B : Nat) (w : World) (v : Value) (ms : List Nd), b < B → B ≤ w.heap.size → NsAt w b off ns → NsOwn w B v ms → ms.length + t.length ≤ 60 →
  Calls Tryd.prog 57 #[v, .slice (some ⟨b, off, none⟩) ns.length cap, .int .i64 i] w fun e w' => ∃ u, e = .returned u ∧ Below B w w' ∧ NsOwn w' B u (ms ++ t)
set_option maxHeartbeats 4000000 in
theorem app_leaf (ns : List Nd) (b off cap : Nat) (hm : ns.length ≤ 60) (i : Nat) (n : Nd) (hn : ns[i]? = some n) (h0 : prt n.op = 0) : AppOk ns b off cap i [n.flip] := by
  intro B w v ms hb hB hN hO h60
  have hil : i < ns.length := by
    rcases Nat.lt_or_ge i ns.length with h' | h'
    · exact h'
    · rw [List.getElem?_eq_none h'] at hn; cases hn
  obtain ⟨c0, c1, c2, c3, c4⟩ := hN i n hn
  have i0 : (0 : Int) ≤ (i : Int) := by omega
  have i1 : (i : Int) < (ns.length : Int) := by omega
  have CT : Hid _ := turnedNode_any n
  have A1 : Hid (∀ w1, Below w.heap.size w w1 → AppSet B w v ms n (w1.alloc (ndObj n.flip.op n.flip.c)) w1.heap.size) := fun w1 h1 => app_set hB hO h1
  have A2 : Hid (∀ w3, Below B w w3 → NsAt w3 b off ns) := fun w3 h3 => hN.below h3 hb
  have A3 : Hid (∀ w3, Below B w w3 → w3.cell? ⟨b, off + i * 5, none⟩ = some (.int .i64 n.op)) := fun w3 h3 => ((hN.below h3 hb) i n hn).1
  have p3 : (n.op == 3) = false := by rw [beq_eq_false_iff_ne]; intro e; rw [e] at h0; simp [prt] at h0
  have p4 : (n.op == 4) = false := by rw [beq_eq_false_iff_ne]; intro e; rw [e] at h0; simp [prt] at h0
  have p5 : (n.op == 5) = false := by rw [beq_eq_false_iff_ne]; intro e; rw [e] at h0; simp [prt] at h0
  have p6 : (n.op == 6) = false := by rw [beq_eq_false_iff_ne]; intro e; rw [e] at h0; simp [prt] at h0
  have p7 : (n.op == 7) = false := by rw [beq_eq_false_iff_ne]; intro e; rw [e] at h0; simp [prt] at h0
  have H60 : Hid _ := h60
  clear hn h0 hO hN h60
  go_enter Tryd.func57, Tryd.ntmps57
  go_wp2_with fail
  refine Calls.mono (CT.out _) ?_
  rintro e w1 ⟨rfl, hb1⟩
  have S1 : Hid _ := A1.out w1 hb1
  clear hb1
  go_wp2_with (at_builtin; refine wpList_append_ns (by rfl) _ _ (by rfl) B _ (by rfl) ms S1.out.o w1.heap.size _ _ _ (by rfl) (by rfl) S1.out.c (by simp) (by have := H60.out; simp at this ⊢; omega) S1.out.s ?_; intro g3 cap3 w3 ho3 hg3 hb3 hl3; have O3 : Hid _ := ho3; have B3 : Hid (Below B w w3) := S1.out.b.grown hg3 S1.out.s S1.out.own; have q3 := A3.out w3 B3.out; clear ho3 hg3 hb3 hl3)
  go_ret
  exact ⟨_, rfl, B3.out, O3.out⟩
theorem own_len (ms : List Nd) (n : Nd) : (ms ++ [n]).length = ms.length + 1 := by simp
set_option maxHeartbeats 4000000 in
theorem app_one (ns : List Nd) (b off cap : Nat) (hm : ns.length ≤ 60) (i : Nat) (n : Nd) (hn : ns[i]? = some n) (h0 : prt n.op = 1) (t : List Nd) (ht : AppOk ns b off cap (i + 1) t) : AppOk ns b off cap i (n.flip :: t) := by
  intro B w v ms hb hB hN hO h60
  have hil : i < ns.length := by
    rcases Nat.lt_or_ge i ns.length with h' | h'
    · exact h'
    · rw [List.getElem?_eq_none h'] at hn; cases hn
  obtain ⟨c0, c1, c2, c3, c4⟩ := hN i n hn
  have i0 : (0 : Int) ≤ (i : Int) := by omega
  have i1 : (i : Int) < (ns.length : Int) := by omega
  have CT : Hid _ := turnedNode_any n
  have A1 : Hid (∀ w1, Below w.heap.size w w1 → AppSet B w v ms n (w1.alloc (ndObj n.flip.op n.flip.c)) w1.heap.size) := fun w1 h1 => app_set hB hO h1
  have A2 : Hid (∀ w3, Below B w w3 → NsAt w3 b off ns) := fun w3 h3 => hN.below h3 hb
  have A3 : Hid (∀ w3, Below B w w3 → w3.cell? ⟨b, off + i * 5, none⟩ = some (.int .i64 n.op)) := fun w3 h3 => ((hN.below h3 hb) i n hn).1
  have C1 : Hid (∀ w3 u, Below B w w3 → NsOwn w3 B u (ms ++ [n.flip]) → Calls Tryd.prog 57 #[u, .slice (some ⟨b, off, none⟩) ns.length cap, .int .i64 ((i : Int) + 1)] w3 fun e w' => ∃ u, e = .returned u ∧ Below B w3 w' ∧ NsOwn w' B u (ms ++ (n.flip :: t))) := by
    intro w3 u h3 ho
    have := ht B w3 u (ms ++ [n.flip]) hb (Nat.le_trans hB h3.size) (A2.out w3 h3) ho (by simp at h60 ⊢; omega)
    rw [arg_succ, List.append_assoc] at this
    exact this
  have H60 : Hid (ms.length + [n.flip].length ≤ 60) := by show _ ≤ _; simp at h60 ⊢; omega
  have h3 := (prt_one n.op).1 h0
  obtain ⟨op, c⟩ := n
  simp only at *
  clear hn h0 hO hN h60 ht A2
  rcases h3 with rfl | rfl | rfl
  · go_enter Tryd.func57, Tryd.ntmps57
    go_wp2_with fail
    refine Calls.mono (CT.out _) ?_
    rintro e w1 ⟨rfl, hb1⟩
    have S1 : Hid _ := A1.out w1 hb1
    clear hb1
    go_wp2_with (at_builtin; refine wpList_append_ns (by rfl) _ _ (by rfl) B _ (by rfl) ms S1.out.o w1.heap.size _ _ _ (by rfl) (by rfl) S1.out.c (by simp) (by have := H60.out; simp at this ⊢; omega) S1.out.s ?_; intro g3 cap3 w3 ho3 hg3 hb3 hl3; have O3 : Hid _ := ho3; have B3 : Hid (Below B w w3) := S1.out.b.grown hg3 S1.out.s S1.out.own; have q3 := A3.out w3 B3.out; clear ho3 hg3 hb3 hl3)
    refine Calls.mono (C1.out _ _ B3.out O3.out) ?_
    rintro e w4 ⟨u, rfl, h4, o4⟩
    have B4 : Hid _ := And.intro h4 o4
    clear h4 o4
    go_wp2
    go_ret
    exact ⟨_, rfl, B3.out.trans B4.out.1, B4.out.2⟩
  · go_enter Tryd.func57, Tryd.ntmps57
    go_wp2_with fail
    refine Calls.mono (CT.out _) ?_
    rintro e w1 ⟨rfl, hb1⟩
    have S1 : Hid _ := A1.out w1 hb1
    clear hb1
    go_wp2_with (at_builtin; refine wpList_append_ns (by rfl) _ _ (by rfl) B _ (by rfl) ms S1.out.o w1.heap.size _ _ _ (by rfl) (by rfl) S1.out.c (by simp) (by have := H60.out; simp at this ⊢; omega) S1.out.s ?_; intro g3 cap3 w3 ho3 hg3 hb3 hl3; have O3 : Hid _ := ho3; have B3 : Hid (Below B w w3) := S1.out.b.grown hg3 S1.out.s S1.out.own; have q3 := A3.out w3 B3.out; clear ho3 hg3 hb3 hl3)
    refine Calls.mono (C1.out _ _ B3.out O3.out) ?_
    rintro e w4 ⟨u, rfl, h4, o4⟩
    have B4 : Hid _ := And.intro h4 o4
    clear h4 o4
    go_wp2
    go_ret
    exact ⟨_, rfl, B3.out.trans B4.out.1, B4.out.2⟩
  · go_enter Tryd.func57, Tryd.ntmps57
    go_wp2_with fail
    refine Calls.mono (CT.out _) ?_
    rintro e w1 ⟨rfl, hb1⟩
    have S1 : Hid _ := A1.out w1 hb1
    clear hb1
    go_wp2_with (at_builtin; refine wpList_append_ns (by rfl) _ _ (by rfl) B _ (by rfl) ms S1.out.o w1.heap.size _ _ _ (by rfl) (by rfl) S1.out.c (by simp) (by have := H60.out; simp at this ⊢; omega) S1.out.s ?_; intro g3 cap3 w3 ho3 hg3 hb3 hl3; have O3 : Hid _ := ho3; have B3 : Hid (Below B w w3) := S1.out.b.grown hg3 S1.out.s S1.out.own; have q3 := A3.out w3 B3.out; clear ho3 hg3 hb3 hl3)
    refine Calls.mono (C1.out _ _ B3.out O3.out) ?_
    rintro e w4 ⟨u, rfl, h4, o4⟩
    have B4 : Hid _ := And.intro h4 o4
    clear h4 o4
    go_wp2
    go_ret
    exact ⟨_, rfl, B3.out.trans B4.out.1, B4.out.2⟩
set_option maxHeartbeats 4000000 in
theorem app_cat (ns : List Nd) (b off cap : Nat) (hm : ns.length ≤ 60) (i : Nat) (n : Nd) (hn : ns[i]? = some n) (h0 : n.op = 3) (k : Nat) (t u : List Nd) (ht : AppOk ns b off cap (i + 1) t) (hu : AppOk ns b off cap k u)
    (hE : ∀ w : World, NsAt w b off ns → Calls Tryd.prog 54 #[.slice (some ⟨b, off, none⟩) ns.length cap, .int .i64 (i + 1 : Nat)] w fun e w' => e = .returned (.tuple #[.int .i64 k, .bool true]) ∧ w' = w) : AppOk ns b off cap i (n.flip :: (u ++ t)) := by
  intro B w v ms hb hB hN hO h60
  have hil : i < ns.length := by
    rcases Nat.lt_or_ge i ns.length with h' | h'
    · exact h'
    · rw [List.getElem?_eq_none h'] at hn; cases hn
  obtain ⟨c0, c1, c2, c3, c4⟩ := hN i n hn
  have i0 : (0 : Int) ≤ (i : Int) := by omega
  have i1 : (i : Int) < (ns.length : Int) := by omega
  have CT : Hid _ := turnedNode_any n
  have A1 : Hid (∀ w1, Below w.heap.size w w1 → AppSet B w v ms n (w1.alloc (ndObj n.flip.op n.flip.c)) w1.heap.size) := fun w1 h1 => app_set hB hO h1
  have A2 : Hid (∀ w3, Below B w w3 → NsAt w3 b off ns) := fun w3 h3 => hN.below h3 hb
  have A3 : Hid (∀ w3, Below B w w3 → w3.cell? ⟨b, off + i * 5, none⟩ = some (.int .i64 n.op)) := fun w3 h3 => ((hN.below h3 hb) i n hn).1
  have C1 : Hid (∀ w3 u0, Below B w w3 → NsOwn w3 B u0 (ms ++ [n.flip]) → Calls Tryd.prog 57 #[u0, .slice (some ⟨b, off, none⟩) ns.length cap, .int .i64 (k : Int)] w3 fun e w' => ∃ u0, e = .returned u0 ∧ Below B w3 w' ∧ NsOwn w' B u0 (ms ++ [n.flip] ++ u)) := by
    intro w3 u0 h3 ho
    have := hu B w3 u0 (ms ++ [n.flip]) hb (Nat.le_trans hB h3.size) (A2.out w3 h3) ho (by simp at h60 ⊢; omega)
    exact this
  have C2 : Hid (∀ w3 u0, Below B w w3 → NsOwn w3 B u0 (ms ++ [n.flip] ++ u) → Calls Tryd.prog 57 #[u0, .slice (some ⟨b, off, none⟩) ns.length cap, .int .i64 ((i : Int) + 1)] w3 fun e w' => ∃ u0, e = .returned u0 ∧ Below B w3 w' ∧ NsOwn w' B u0 (ms ++ [n.flip] ++ u ++ t)) := by
    intro w3 u0 h3 ho
    have := ht B w3 u0 (ms ++ [n.flip] ++ u) hb (Nat.le_trans hB h3.size) (A2.out w3 h3) ho (by simp at h60 ⊢; omega)
    rw [arg_succ] at this
    exact this
  have CE : Hid (∀ w3, Below B w w3 → Calls Tryd.prog 54 #[.slice (some ⟨b, off, none⟩) ns.length cap, .int .i64 ((i : Int) + 1)] w3 fun e w' => e = .returned (.tuple #[.int .i64 k, .bool true]) ∧ w' = w3) := by
    intro w3 h3
    have := hE w3 (A2.out w3 h3)
    rw [arg_succ] at this
    exact this
  have H60 : Hid (ms.length + [n.flip].length ≤ 60) := by show _ ≤ _; simp at h60 ⊢; omega
  have HR : Hid (ms ++ (n.flip :: (u ++ t)) = ms ++ [n.flip] ++ u ++ t) := by show _ = _; simp
  obtain ⟨op, c⟩ := n
  simp only at *
  subst h0
  clear hn hO hN h60 ht hu hE A2
  go_enter Tryd.func57, Tryd.ntmps57
  go_wp2_with fail
  refine Calls.mono (CT.out _) ?_
  rintro e w1 ⟨rfl, hb1⟩
  have S1 : Hid _ := A1.out w1 hb1
  clear hb1
  go_wp2_with (at_builtin; refine wpList_append_ns (by rfl) _ _ (by rfl) B _ (by rfl) ms S1.out.o w1.heap.size _ _ _ (by rfl) (by rfl) S1.out.c (by simp) (by have := H60.out; simp at this ⊢; omega) S1.out.s ?_; intro g3 cap3 w3 ho3 hg3 hb3 hl3; have O3 : Hid _ := ho3; have B3 : Hid (Below B w w3) := S1.out.b.grown hg3 S1.out.s S1.out.own; have q3 := A3.out w3 B3.out; clear ho3 hg3 hb3 hl3)
  refine Calls.mono (CE.out _ B3.out) ?_
  rintro e w3 ⟨rfl, rfl⟩
  go_wp2_with fail
  refine Calls.mono (C1.out _ _ B3.out O3.out) ?_
  rintro e w4 ⟨u1, rfl, h4, o4⟩
  have B4 : Hid (Below B w w4) := B3.out.trans h4
  have O4 : Hid _ := o4
  clear h4 o4
  go_wp2_with fail
  refine Calls.mono (C2.out _ _ B4.out O4.out) ?_
  rintro e w5 ⟨u2, rfl, h5, o5⟩
  have B5 : Hid (Below B w w5) := B4.out.trans h5
  have O5 : Hid _ := o5
  clear h5 o5
  go_wp2
  go_ret
  exact ⟨_, rfl, B5.out, by rw [HR.out]; exact O5.out⟩
set_option maxHeartbeats 4000000 in
theorem app_or (ns : List Nd) (b off cap : Nat) (hm : ns.length ≤ 60) (i : Nat) (n : Nd) (hn : ns[i]? = some n) (h0 : n.op = 4) (k : Nat) (t u : List Nd) (ht : AppOk ns b off cap (i + 1) t) (hu : AppOk ns b off cap k u)
    (hE : ∀ w : World, NsAt w b off ns → Calls Tryd.prog 54 #[.slice (some ⟨b, off, none⟩) ns.length cap, .int .i64 (i + 1 : Nat)] w fun e w' => e = .returned (.tuple #[.int .i64 k, .bool true]) ∧ w' = w) : AppOk ns b off cap i (n.flip :: (t ++ u)) := by
  intro B w v ms hb hB hN hO h60
  have hil : i < ns.length := by
    rcases Nat.lt_or_ge i ns.length with h' | h'
    · exact h'
    · rw [List.getElem?_eq_none h'] at hn; cases hn
  obtain ⟨c0, c1, c2, c3, c4⟩ := hN i n hn
  have i0 : (0 : Int) ≤ (i : Int) := by omega
  have i1 : (i : Int) < (ns.length : Int) := by omega
  have CT : Hid _ := turnedNode_any n
  have A1 : Hid (∀ w1, Below w.heap.size w w1 → AppSet B w v ms n (w1.alloc (ndObj n.flip.op n.flip.c)) w1.heap.size) := fun w1 h1 => app_set hB hO h1
  have A2 : Hid (∀ w3, Below B w w3 → NsAt w3 b off ns) := fun w3 h3 => hN.below h3 hb
  have A3 : Hid (∀ w3, Below B w w3 → w3.cell? ⟨b, off + i * 5, none⟩ = some (.int .i64 n.op)) := fun w3 h3 => ((hN.below h3 hb) i n hn).1
  have C1 : Hid (∀ w3 u0, Below B w w3 → NsOwn w3 B u0 (ms ++ [n.flip]) → Calls Tryd.prog 57 #[u0, .slice (some ⟨b, off, none⟩) ns.length cap, .int .i64 ((i : Int) + 1)] w3 fun e w' => ∃ u0, e = .returned u0 ∧ Below B w3 w' ∧ NsOwn w' B u0 (ms ++ [n.flip] ++ t)) := by
    intro w3 u0 h3 ho
    have := ht B w3 u0 (ms ++ [n.flip]) hb (Nat.le_trans hB h3.size) (A2.out w3 h3) ho (by simp at h60 ⊢; omega)
    rw [arg_succ] at this
    exact this
  have C2 : Hid (∀ w3 u0, Below B w w3 → NsOwn w3 B u0 (ms ++ [n.flip] ++ t) → Calls Tryd.prog 57 #[u0, .slice (some ⟨b, off, none⟩) ns.length cap, .int .i64 (k : Int)] w3 fun e w' => ∃ u0, e = .returned u0 ∧ Below B w3 w' ∧ NsOwn w' B u0 (ms ++ [n.flip] ++ t ++ u)) := by
    intro w3 u0 h3 ho
    have := hu B w3 u0 (ms ++ [n.flip] ++ t) hb (Nat.le_trans hB h3.size) (A2.out w3 h3) ho (by simp at h60 ⊢; omega)
    exact this
  have CE : Hid (∀ w3, Below B w w3 → Calls Tryd.prog 54 #[.slice (some ⟨b, off, none⟩) ns.length cap, .int .i64 ((i : Int) + 1)] w3 fun e w' => e = .returned (.tuple #[.int .i64 k, .bool true]) ∧ w' = w3) := by
    intro w3 h3
    have := hE w3 (A2.out w3 h3)
    rw [arg_succ] at this
    exact this
  have H60 : Hid (ms.length + [n.flip].length ≤ 60) := by show _ ≤ _; simp at h60 ⊢; omega
  have HR : Hid (ms ++ (n.flip :: (t ++ u)) = ms ++ [n.flip] ++ t ++ u) := by show _ = _; simp
  obtain ⟨op, c⟩ := n
  simp only at *
  subst h0
  clear hn hO hN h60 ht hu hE A2
  go_enter Tryd.func57, Tryd.ntmps57
  go_wp2_with fail
  refine Calls.mono (CT.out _) ?_
  rintro e w1 ⟨rfl, hb1⟩
  have S1 : Hid _ := A1.out w1 hb1
  clear hb1
  go_wp2_with (at_builtin; refine wpList_append_ns (by rfl) _ _ (by rfl) B _ (by rfl) ms S1.out.o w1.heap.size _ _ _ (by rfl) (by rfl) S1.out.c (by simp) (by have := H60.out; simp at this ⊢; omega) S1.out.s ?_; intro g3 cap3 w3 ho3 hg3 hb3 hl3; have O3 : Hid _ := ho3; have B3 : Hid (Below B w w3) := S1.out.b.grown hg3 S1.out.s S1.out.own; have q3 := A3.out w3 B3.out; clear ho3 hg3 hb3 hl3)
  refine Calls.mono (CE.out _ B3.out) ?_
  rintro e w3 ⟨rfl, rfl⟩
  go_wp2_with fail
  refine Calls.mono (C1.out _ _ B3.out O3.out) ?_
  rintro e w4 ⟨u1, rfl, h4, o4⟩
  have B4 : Hid (Below B w w4) := B3.out.trans h4
  have O4 : Hid _ := o4
  clear h4 o4
  go_wp2_with fail
  refine Calls.mono (C2.out _ _ B4.out O4.out) ?_
  rintro e w5 ⟨u2, rfl, h5, o5⟩
  have B5 : Hid (Below B w w5) := B4.out.trans h5
  have O5 : Hid _ := o5
  clear h5 o5
  go_wp2
  go_ret
  exact ⟨_, rfl, B5.out, by rw [HR.out]; exact O5.out⟩
theorem app_at (ns : List Nd) (b off cap : Nat) (hm : ns.length ≤ 60) : ∀ (f i j : Nat), f ≤ ns.length + 1 → endF ns f i = some j → AppOk ns b off cap i (turF ns f i) := by
  intro f
  induction f with
  | zero => intro i j _ h; simp [endF] at h
  | succ f ih =>
    intro i j hf h
    obtain ⟨n, hn, hil, hc⟩ := part_cases ns f i j h
    rw [turF_at ns f i n hn]
    rcases hc with ⟨h0, rfl⟩ | ⟨h0, h1⟩ | ⟨h0, k, h1, h2⟩
    · have e3 : ¬ n.op = 3 := by intro e; rw [e] at h0; simp [prt] at h0
      have e4 : ¬ n.op = 4 := by intro e; rw [e] at h0; simp [prt] at h0
      rw [if_neg (by omega), if_neg e3, if_neg e4]
      exact app_leaf ns b off cap hm i n hn h0
    · rw [if_pos h0]
      exact app_one ns b off cap hm i n hn h0 _ (ih _ _ (by omega) h1)
    · rw [if_neg (by omega), endE_of ns f (i + 1) k (by omega) h1, Option.getD_some]
      have hE : ∀ w : World, NsAt w b off ns → Calls Tryd.prog 54 #[.slice (some ⟨b, off, none⟩) ns.length cap, .int .i64 (i + 1 : Nat)] w fun e w' => e = .returned (.tuple #[.int .i64 k, .bool true]) ∧ w' = w := fun w hN => behind_k ns b off cap hm w hN (i + 1) f k h1
      rcases (prt_two n.op).1 h0 with e3 | e4
      · rw [if_pos e3]
        exact app_cat ns b off cap hm i n hn e3 k _ _ (ih _ _ (by omega) h1) (ih _ _ (by omega) h2) hE
      · rw [if_neg (by omega), if_pos e4]
        exact app_or ns b off cap hm i n hn e4 k _ _ (ih _ _ (by omega) h1) (ih _ _ (by omega) h2) hE
end Go.Proofs.YtajkkmnojfghoaaDoor
