/- Package rex: parts, behind, checkNode, turnedNode. -/
import Derived.Test.YtldiaokjgfoomaaDoorBeh
import Derived.Test.YtldiaokjgfoomaaDoorErr
set_option linter.unusedSimpArgs false
set_option linter.unusedVariables false
set_option maxRecDepth 100000
namespace Go.Proofs.YtldiaokjgfoomaaDoor
open Go.RowKit

set_option maxHeartbeats 400000 in
theorem rparts_any (op : Int) (w : World) :
    Calls Tryd.prog 49 #[.int .i64 op] w fun e w' => e = .returned (.int .i64 (prt op)) ∧ w' = w := by
  by_cases h3 : op = 3
  · subst h3
    go_enter Tryd.func49, Tryd.ntmps49
    go_wp2
    go_ret
    exact ⟨rfl, rfl⟩
  by_cases h4 : op = 4
  · subst h4
    go_enter Tryd.func49, Tryd.ntmps49
    go_wp2
    go_ret
    exact ⟨rfl, rfl⟩
  by_cases h5 : op = 5
  · subst h5
    go_enter Tryd.func49, Tryd.ntmps49
    go_wp2
    go_ret
    exact ⟨rfl, rfl⟩
  by_cases h6 : op = 6
  · subst h6
    go_enter Tryd.func49, Tryd.ntmps49
    go_wp2
    go_ret
    exact ⟨rfl, rfl⟩
  by_cases h7 : op = 7
  · subst h7
    go_enter Tryd.func49, Tryd.ntmps49
    go_wp2
    go_ret
    exact ⟨rfl, rfl⟩
  have b3 : (op == 3) = false := by simp [h3]
  have b4 : (op == 4) = false := by simp [h4]
  have b5 : (op == 5) = false := by simp [h5]
  have b6 : (op == 6) = false := by simp [h6]
  have b7 : (op == 7) = false := by simp [h7]
  have e0 : prt op = 0 := by unfold prt; simp [h3, h4, h5, h6, h7]
  rw [e0]
  clear h3 h4 h5 h6 h7 e0
  go_enter Tryd.func49, Tryd.ntmps49
  go_wp2
  go_ret
  exact ⟨rfl, rfl⟩
set_option maxHeartbeats 1000000 in
theorem behind_at (ns : List Nd) (b off cap i : Nat) (hm : ns.length ≤ maxLen) (hm2 : ns.length ≤ 2 ^ 62) (hi : i ≤ ns.length) (w : World) (hN : NsAt w b off ns) :
    Calls Tryd.prog 39 #[.slice (some ⟨b, off, none⟩) ns.length cap, .int .i64 i] w fun e w' => e = .returned (.tuple #[.int .i64 (i + (beh (ns.drop i) 1).1 : Nat), .bool (beh (ns.drop i) 1).2]) ∧ w' = w := by
  unfold maxLen at hm
  obtain ⟨k, x, HK, HX⟩ : ∃ k x, Hid (i + (beh (ns.drop i) 1).1 = k) ∧ Hid ((beh (ns.drop i) 1).2 = x) := ⟨_, _, Eq.refl _, Eq.refl _⟩
  rw [HK.out, HX.out]
  go_enter Tryd.func39, Tryd.ntmps39
  go_wp2_with fail
  go_loop [1, 6] (fun v u => ∃ (j m : Nat), j ≤ ns.length ∧ m ≤ j + 1 ∧ v = .int .i64 j ∧ u = .int .i64 m ∧ Hid (j + (beh (ns.drop j) m).1 = k) ∧ Hid ((beh (ns.drop j) m).2 = x)) (fun v _ => ns.length - (intOf v).toNat)
  case atStart => exact ⟨i, 1, by omega, by omega, rfl, rfl, HK, HX⟩
  case round =>
    obtain ⟨j, m, hj, hmj, rfl, rfl, H1, H2⟩ := hrel
    clear HK HX
    cases m with
    | zero =>
      rw [beh_zero] at H1 H2
      obtain rfl := H1.out
      obtain rfl := H2.out
      clear H1 H2
      go_wp2
      go_ret2
      exact ⟨rfl, rfl⟩
    | succ m =>
      have m0 : (0 : Int) < ((m + 1 : Nat) : Int) := by omega
      by_cases hl : j < ns.length
      · obtain ⟨n, hn⟩ : ∃ n, ns[j]? = some n := ⟨ns[j], List.getElem?_eq_getElem hl⟩
        obtain ⟨c0, _⟩ := hN j n hn
        have hp := prt_le n.op
        have i0 : (0 : Int) ≤ (j : Int) := by omega
        have i1 : (j : Int) < (ns.length : Int) := by omega
        rw [beh_step ns j m n hn] at H1 H2
        have H3 : Hid (j + 1 + (beh (ns.drop (j + 1)) (m + prt n.op)).1 = k) := by show _ = _; rw [← H1.out]; simp only; omega
        have H4 : Hid ((beh (ns.drop (j + 1)) (m + prt n.op)).2 = x) := H2.out
        clear hn H1 H2
        go_wp2_with fail
        refine (rparts_any _ _).mono ?_
        rintro e w1 ⟨rfl, rfl⟩
        generalize prt n.op = pr at *
        go_wp2
        refine ⟨⟨j + 1, m + pr, by omega, by omega, by go_num, ?_, H3, H4⟩, by simp [intOf]; omega⟩
        rw [show (m : Int) + 1 + ((pr : Int) - 1) = ((m + pr : Nat) : Int) from by omega]
      · have hj2 : j = ns.length := by omega
        have i1 : ¬ (j : Int) < (ns.length : Int) := by omega
        have d0 : ns.drop j = [] := List.drop_eq_nil_of_le (by omega)
        rw [d0] at H1 H2
        obtain rfl := H1.out
        obtain rfl := H2.out
        have m1 : (((m + 1 : Nat) : Int) == 0) = false := by rw [beq_eq_false_iff_ne]; omega
        clear H1 H2
        go_wp2
        go_ret2
        exact ⟨rfl, rfl⟩
theorem behind_any (ns : List Nd) (v : Value) (i : Nat) (w : World) (hN : NsIn w v ns) (hm2 : ns.length ≤ 2 ^ 62) (hi : i < ns.length) :
    Calls Tryd.prog 39 #[v, .int .i64 i] w fun e w' => e = .returned (.tuple #[.int .i64 (i + (beh (ns.drop i) 1).1 : Nat), .bool (beh (ns.drop i) 1).2]) ∧ w' = w := by
  obtain ⟨a, cap, rfl, hm, h | ⟨b, off, rfl, hlt, hn⟩⟩ := hN
  · subst h
    simp at hi
  · exact behind_at ns b off cap i hm hm2 (by omega) w hn
set_option maxHeartbeats 1000000 in
theorem behind_nil (a : Option Addr) (cap : Nat) (w : World) :
    Calls Tryd.prog 39 #[.slice a 0 cap, .int .i64 0] w fun e w' => e = .returned (.tuple #[.int .i64 0, .bool false]) ∧ w' = w := by
  go_enter Tryd.func39, Tryd.ntmps39
  go_wp2_with fail
  go_loop [1, 6] (fun v u => v = .int .i64 0 ∧ u = .int .i64 1) (fun _ _ => 0)
  case atStart => exact ⟨rfl, rfl⟩
  case round =>
    obtain ⟨rfl, rfl⟩ := hrel
    go_wp2
    go_ret2
    exact ⟨rfl, rfl⟩
set_option maxHeartbeats 1000000 in
theorem checkNode_any (n : Nd) (w : World) :
    Calls Tryd.prog 38 #[n.v] w fun e w' => e = .returned (errV (scanL [n])) ∧ Below w.heap.size w w' := by
  by_cases h1 : n.op < 1
  · have HF : Hid (scanL [n] = 1) := by show _ = _; rw [scanL, if_pos (Or.inl h1)]
    go_enter Tryd.func38, Tryd.ntmps38
    go_wp2
    go_ret
    exact ⟨by rw [HF.out]; rfl, Below.alloc (Below.refl _ _) (Nat.le_refl _) _⟩
  by_cases h9 : 9 < n.op
  · have HF : Hid (scanL [n] = 1) := by show _ = _; rw [scanL, if_pos (Or.inr h9)]
    go_enter Tryd.func38, Tryd.ntmps38
    go_wp2
    go_ret
    exact ⟨by rw [HF.out]; rfl, Below.alloc (Below.refl _ _) (Nat.le_refl _) _⟩
  by_cases hb : n.op = 1
  · have HF : Hid (scanL [n] = 0) := by show _ = _; rw [scanL, if_neg (by omega), if_neg (by simp [hb])]; rfl
    have hb2 : (n.op != 1) = false := by simp [hb]
    clear hb
    go_enter Tryd.func38, Tryd.ntmps38
    go_wp2
    go_ret
    exact ⟨by rw [HF.out]; rfl, Below.alloc (Below.refl _ _) (Nat.le_refl _) _⟩
  have hb2 : (n.op != 1) = true := by simp [hb]
  by_cases hz : n.c.eqb z4 = true
  · have HF : Hid (scanL [n] = 0) := by show _ = _; rw [scanL, if_neg (by omega), if_neg (by simp [hz])]; rfl
    clear hb
    have he : ∀ w, (Op.equalIn 10000 24 (.agg #[.int .u64 n.c.a, .int .u64 n.c.b, .int .u64 n.c.c, .int .u64 n.c.d]) (.agg #[.int .u64 0, .int .u64 0, .int .u64 0, .int .u64 0])).run Tryd.prog w = .ok true w := fun w => (eq4 n.c z4 w).trans (by rw [hz])
    go_enter Tryd.func38, Tryd.ntmps38
    go_wp2
    go_ret
    exact ⟨by rw [HF.out]; rfl, Below.alloc (Below.refl _ _) (Nat.le_refl _) _⟩
  · have HF : Hid (scanL [n] = 2) := by show _ = _; rw [scanL, if_neg (by omega), if_pos ⟨hb, hz⟩]
    clear hb
    have he : ∀ w, (Op.equalIn 10000 24 (.agg #[.int .u64 n.c.a, .int .u64 n.c.b, .int .u64 n.c.c, .int .u64 n.c.d]) (.agg #[.int .u64 0, .int .u64 0, .int .u64 0, .int .u64 0])).run Tryd.prog w = .ok false w := fun w => (eq4 n.c z4 w).trans (by rw [Bool.eq_false_iff.2 hz])
    go_enter Tryd.func38, Tryd.ntmps38
    go_wp2
    go_ret
    exact ⟨by rw [HF.out]; rfl, Below.alloc (Below.refl _ _) (Nat.le_refl _) _⟩
end Go.Proofs.YtldiaokjgfoomaaDoor
