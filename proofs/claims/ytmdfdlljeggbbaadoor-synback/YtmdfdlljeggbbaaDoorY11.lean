/- The place behind a part, by counting the parts that are missing. No function of the program. Package rex: parts, behind, checkNode, turnedNode. Package rex: Check. The landed writer: part at a tree; Print. Print, of the landed package syn: what is asked of it. The landed reader: more, misfitAt, sees, skip, take, close. -/
import Derived.Test.YtmdfdlljeggbbaaDoorY03
import Derived.Test.YtmdfdlljeggbbaaDoorY02
import Derived.Handy
import Derived.Test.YtmdfdlljeggbbaaDoorY10
import Derived.Test.YtmdfdlljeggbbaaDoorY05
import Derived.Test.YtmdfdlljeggbbaaDoorY04
import Derived.Test.YtmdfdlljeggbbaaDoorY08
import Derived.Defers
import Derived.Recover
namespace Go.Proofs.YtmdfdlljeggbbaaDoor
set_option linter.unusedSimpArgs false
set_option linter.unusedVariables false
set_option maxRecDepth 100000
open Go.RowKit

/-- So many parts are missing: how many nodes they are, and whether all are there. -/
def beh : List Nd → Nat → Nat × Bool
  | _, 0 => (0, true)
  | [], _ + 1 => (0, false)
  | n :: r, m + 1 => ((beh r (m + prt n.op)).1 + 1, (beh r (m + prt n.op)).2)
theorem beh_zero (l : List Nd) : beh l 0 = (0, true) := by cases l <;> rfl
theorem beh_flat : ∀ (t : Rx), t.Ok → ∀ (q : List Nd) (m : Nat), beh (t.flat ++ q) (m + 1) = ((beh q m).1 + t.flat.length, (beh q m).2)
  | .leaf n, h, q, m => by
    have h0 : prt n.op = 0 := h
    simp [Rx.flat, beh, h0]
  | .one n a, h, q, m => by
    have ih := beh_flat a h.2 q m
    simp [Rx.flat, beh, h.1, ih]; omega
  | .two n a b, h, q, m => by
    have ih := beh_flat a h.2.1 (b.flat ++ q) (m + 1)
    have ih2 := beh_flat b h.2.2 q m
    rw [ih2] at ih
    simp only [Rx.flat, List.cons_append, List.append_assoc, beh, h.1, ih, List.length_cons, List.length_append]
    refine Prod.ext ?_ rfl
    simp only
    omega
theorem beh_le : ∀ (l : List Nd) (m : Nat), (beh l m).1 ≤ l.length
  | l, 0 => by rw [beh_zero]; simp
  | [], m + 1 => by simp [beh]
  | n :: r, m + 1 => by
    have := beh_le r (m + prt n.op)
    simp [beh]; omega
theorem beh_trees : ∀ (l : List Nd) (m : Nat), (beh l m).2 = true → ∃ (ts : List Rx) (q : List Nd), ts.length = m ∧ (∀ t ∈ ts, t.Ok) ∧ l = (ts.map Rx.flat).flatten ++ q ∧ (beh l m).1 = (ts.map Rx.flat).flatten.length
  | l, 0, h => ⟨[], l, rfl, by simp, by simp, by rw [beh_zero]; rfl⟩
  | [], m + 1, h => by simp [beh] at h
  | n :: r, m + 1, h => by
    simp only [beh] at h
    obtain ⟨ts, q, hl, hok, he, hk⟩ := beh_trees r (m + prt n.op) h
    have hp := prt_le n.op
    have h3 : prt n.op = 0 ∨ prt n.op = 1 ∨ prt n.op = 2 := by omega
    rcases h3 with h0 | h0 | h0
    · refine ⟨.leaf n :: ts, q, by simp; omega, ?_, by simp [he, Rx.flat], by simp [beh, hk, Rx.flat]⟩
      intro t ht
      rcases List.mem_cons.1 ht with rfl | ht
      · exact h0
      · exact hok t ht
    · match ts, hl, hok, he, hk with
      | [], hl, _, _, _ => simp at hl; omega
      | a :: ts, hl, hok, he, hk =>
        refine ⟨.one n a :: ts, q, by simp at hl ⊢; omega, ?_, by simp [he, Rx.flat], by simp [beh, hk, Rx.flat]⟩
        intro t ht
        rcases List.mem_cons.1 ht with rfl | ht
        · exact ⟨h0, hok a (by simp)⟩
        · exact hok t (by simp [ht])
    · match ts, hl, hok, he, hk with
      | [], hl, _, _, _ => simp at hl; omega
      | [a], hl, _, _, _ => simp at hl; omega
      | a :: b :: ts, hl, hok, he, hk =>
        refine ⟨.two n a b :: ts, q, by simp at hl ⊢; omega, ?_, by simp [he, Rx.flat], by simp [beh, hk, Rx.flat]⟩
        intro t ht
        rcases List.mem_cons.1 ht with rfl | ht
        · exact ⟨h0, hok a (by simp), hok b (by simp)⟩
        · exact hok t (by simp [ht])
theorem beh_end (ns : List Nd) (h : (beh ns 1).2 = true) : endE ns 0 = some (beh ns 1).1 := by
  obtain ⟨ts, q, hl, hok, he, hk⟩ := beh_trees ns 1 h
  match ts, hl, hok, he, hk with
  | [t], hl, hok, he, hk =>
    have e : ns = t.flat ++ q := by simpa using he
    have e2 : (beh ns 1).1 = t.flat.length := by simpa using hk
    have := endE_mid t (hok t (by simp)) [] q
    rw [e2, e]
    simpa using this
theorem end_beh (ns : List Nd) (f i j : Nat) (h : endF ns f i = some j) : (beh (ns.drop i) 1).2 = true ∧ i + (beh (ns.drop i) 1).1 = j := by
  obtain ⟨t, ht, q, e, ej⟩ := part_tree ns f i j h
  have := beh_flat t ht q 0
  rw [e, this, beh_zero]
  refine ⟨rfl, ?_⟩
  simp only
  omega
/-- The fault of nodes that are fine one by one. -/
theorem fault_beh (ns : List Nd) (h60 : ¬ 60 < ns.length) (h0 : scanL ns = 0) : faultL ns = if (beh ns 1).2 = true ∧ ns.length ≤ (beh ns 1).1 then 0 else 2 := by
  rw [faultL, if_neg h60, h0, if_neg (by simp)]
  by_cases h : (beh ns 1).2 = true ∧ ns.length ≤ (beh ns 1).1
  · have e := beh_end ns h.1
    have hl := beh_le ns 1
    have e2 : (beh ns 1).1 = ns.length := by omega
    rw [e2] at e
    have hne : ns ≠ [] := by rintro rfl; rw [endE_nil] at e; cases e
    rw [if_pos h, if_neg (by simp [e, hne])]
  · rw [if_neg h, if_pos]
    refine Or.inr fun e => h ?_
    have := end_beh ns _ 0 _ e
    rw [List.drop_zero] at this
    exact ⟨this.1, by omega⟩
/-- Each node of a valid pattern begins a part. -/
theorem tree_sub : ∀ (t : Rx), t.Ok → ∀ i, i < t.flat.length → ∃ s : Rx, s.Ok ∧ ∃ q, t.flat.drop i = s.flat ++ q
  | t, ht, 0, _ => ⟨t, ht, [], by simp⟩
  | .leaf n, ht, i + 1, h => by simp [Rx.flat] at h
  | .one n a, ht, i + 1, h => by
    obtain ⟨s, hs, q, e⟩ := tree_sub a ht.2 i (by simp [Rx.flat] at h; omega)
    exact ⟨s, hs, q, by simpa [Rx.flat] using e⟩
  | .two n a b, ht, i + 1, h => by
    by_cases hi : i < a.flat.length
    · obtain ⟨s, hs, q, e⟩ := tree_sub a ht.2.1 i hi
      refine ⟨s, hs, q ++ b.flat, ?_⟩
      simp only [Rx.flat, List.drop_succ_cons]
      rw [List.drop_append_of_le_length (by omega), e, List.append_assoc]
    · obtain ⟨s, hs, q, e⟩ := tree_sub b ht.2.2 (i - a.flat.length) (by simp [Rx.flat] at h; omega)
      refine ⟨s, hs, q, ?_⟩
      simp only [Rx.flat, List.drop_succ_cons]
      rw [List.drop_append, List.drop_eq_nil_of_le (by omega), List.nil_append, e]
theorem part_at (ns : List Nd) (hv : endE ns 0 = some ns.length) (i : Nat) (hi : i < ns.length) : ∃ j, endE ns i = some j := by
  obtain ⟨t, ht, rfl⟩ := tree_of ns hv
  obtain ⟨s, hs, q, e⟩ := tree_sub t ht i hi
  have h := endE_mid s hs (t.flat.take i) q
  have e1 : (t.flat.take i).length = i := by simp; omega
  have e2 : t.flat.take i ++ s.flat ++ q = t.flat := by rw [List.append_assoc, ← e, List.take_append_drop]
  rw [e1, e2] at h
  exact ⟨_, h⟩
theorem beh_step (ns : List Nd) (i m : Nat) (n : Nd) (hn : ns[i]? = some n) : beh (ns.drop i) (m + 1) = ((beh (ns.drop (i + 1)) (m + prt n.op)).1 + 1, (beh (ns.drop (i + 1)) (m + prt n.op)).2) := by
  have hi : i < ns.length := by
    rcases Nat.lt_or_ge i ns.length with h | h
    · exact h
    · rw [List.getElem?_eq_none h] at hn; cases hn
  rw [List.drop_eq_getElem_cons hi]
  rw [List.getElem?_eq_getElem hi] at hn
  rw [Option.some.inj hn, beh]
end Go.Proofs.YtmdfdlljeggbbaaDoor
namespace Go.Proofs.YtmdfdlljeggbbaaDoor
set_option linter.unusedSimpArgs false
set_option linter.unusedVariables false
set_option maxRecDepth 100000
open Go.RowKit

set_option maxHeartbeats 400000 in
theorem rparts_any (op : Int) (w : World) :
    Calls Tryd.prog 55 #[.int .i64 op] w fun e w' => e = .returned (.int .i64 (prt op)) ∧ w' = w := by
  by_cases h3 : op = 3
  · subst h3
    go_enter Tryd.func55, Tryd.ntmps55
    go_wp2
    go_ret
    exact ⟨rfl, rfl⟩
  by_cases h4 : op = 4
  · subst h4
    go_enter Tryd.func55, Tryd.ntmps55
    go_wp2
    go_ret
    exact ⟨rfl, rfl⟩
  by_cases h5 : op = 5
  · subst h5
    go_enter Tryd.func55, Tryd.ntmps55
    go_wp2
    go_ret
    exact ⟨rfl, rfl⟩
  by_cases h6 : op = 6
  · subst h6
    go_enter Tryd.func55, Tryd.ntmps55
    go_wp2
    go_ret
    exact ⟨rfl, rfl⟩
  by_cases h7 : op = 7
  · subst h7
    go_enter Tryd.func55, Tryd.ntmps55
    go_wp2
    go_ret
    exact ⟨rfl, rfl⟩
  have b3 : (op == 3) = false := by simp [h3]
  have b4 : (op == 4) = false := by simp [h4]
  have b5 : (op == 5) = false := by simp [h5]
  have b6 : (op == 6) = false := by simp [h6]
  have b7 : (op == 7) = false := by simp [h7]
  have e0 : prt op = 0 := by unfold prt; simp [h3, h4, h5, h6, h7]
  rw [e0]
  clear h3 h4 h5 h6 h7 e0
  go_enter Tryd.func55, Tryd.ntmps55
  go_wp2
  go_ret
  exact ⟨rfl, rfl⟩
set_option maxHeartbeats 1000000 in
theorem behind_at (ns : List Nd) (b off cap i : Nat) (hm : ns.length ≤ maxLen) (hm2 : ns.length ≤ 2 ^ 62) (hi : i ≤ ns.length) (w : World) (hN : NsAt w b off ns) :
    Calls Tryd.prog 42 #[.slice (some ⟨b, off, none⟩) ns.length cap, .int .i64 i] w fun e w' => e = .returned (.tuple #[.int .i64 (i + (beh (ns.drop i) 1).1 : Nat), .bool (beh (ns.drop i) 1).2]) ∧ w' = w := by
  unfold maxLen at hm
  obtain ⟨k, x, HK, HX⟩ : ∃ k x, Hid (i + (beh (ns.drop i) 1).1 = k) ∧ Hid ((beh (ns.drop i) 1).2 = x) := ⟨_, _, Eq.refl _, Eq.refl _⟩
  rw [HK.out, HX.out]
  go_enter Tryd.func42, Tryd.ntmps42
  go_wp2_with fail
  go_loop [1, 6] (fun v u => ∃ (j m : Nat), j ≤ ns.length ∧ m ≤ j + 1 ∧ v = .int .i64 j ∧ u = .int .i64 m ∧ Hid (j + (beh (ns.drop j) m).1 = k) ∧ Hid ((beh (ns.drop j) m).2 = x)) (fun v _ => ns.length - (intOf v).toNat)
  case atStart => exact ⟨i, 1, by omega, by omega, rfl, rfl, HK, HX⟩
  case round =>
    obtain ⟨j, m, hj, hmj, rfl, rfl, H1, H2⟩ := hrel
    clear HK HX
    cases m with
    | zero =>
      rw [beh_zero] at H1 H2
      obtain rfl := H1.out
      obtain rfl := H2.out
      clear H1 H2
      go_wp2
      go_ret2
      exact ⟨rfl, rfl⟩
    | succ m =>
      have m0 : (0 : Int) < ((m + 1 : Nat) : Int) := by omega
      by_cases hl : j < ns.length
      · obtain ⟨n, hn⟩ : ∃ n, ns[j]? = some n := ⟨ns[j], List.getElem?_eq_getElem hl⟩
        obtain ⟨c0, _⟩ := hN j n hn
        have hp := prt_le n.op
        have i0 : (0 : Int) ≤ (j : Int) := by omega
        have i1 : (j : Int) < (ns.length : Int) := by omega
        rw [beh_step ns j m n hn] at H1 H2
        have H3 : Hid (j + 1 + (beh (ns.drop (j + 1)) (m + prt n.op)).1 = k) := by show _ = _; rw [← H1.out]; simp only; omega
        have H4 : Hid ((beh (ns.drop (j + 1)) (m + prt n.op)).2 = x) := H2.out
        clear hn H1 H2
        go_wp2_with fail
        refine (rparts_any _ _).mono ?_
        rintro e w1 ⟨rfl, rfl⟩
        generalize prt n.op = pr at *
        go_wp2
        refine ⟨⟨j + 1, m + pr, by omega, by omega, by go_num, ?_, H3, H4⟩, by simp [intOf]; omega⟩
        rw [show (m : Int) + 1 + ((pr : Int) - 1) = ((m + pr : Nat) : Int) from by omega]
      · have hj2 : j = ns.length := by omega
        have i1 : ¬ (j : Int) < (ns.length : Int) := by omega
        have d0 : ns.drop j = [] := List.drop_eq_nil_of_le (by omega)
        rw [d0] at H1 H2
        obtain rfl := H1.out
        obtain rfl := H2.out
        have m1 : (((m + 1 : Nat) : Int) == 0) = false := by rw [beq_eq_false_iff_ne]; omega
        clear H1 H2
        go_wp2
        go_ret2
        exact ⟨rfl, rfl⟩
theorem behind_any (ns : List Nd) (v : Value) (i : Nat) (w : World) (hN : NsIn w v ns) (hm2 : ns.length ≤ 2 ^ 62) (hi : i < ns.length) :
    Calls Tryd.prog 42 #[v, .int .i64 i] w fun e w' => e = .returned (.tuple #[.int .i64 (i + (beh (ns.drop i) 1).1 : Nat), .bool (beh (ns.drop i) 1).2]) ∧ w' = w := by
  obtain ⟨a, cap, rfl, hm, h | ⟨b, off, rfl, hlt, hn⟩⟩ := hN
  · subst h
    simp at hi
  · exact behind_at ns b off cap i hm hm2 (by omega) w hn
set_option maxHeartbeats 1000000 in
theorem behind_nil (a : Option Addr) (cap : Nat) (w : World) :
    Calls Tryd.prog 42 #[.slice a 0 cap, .int .i64 0] w fun e w' => e = .returned (.tuple #[.int .i64 0, .bool false]) ∧ w' = w := by
  go_enter Tryd.func42, Tryd.ntmps42
  go_wp2_with fail
  go_loop [1, 6] (fun v u => v = .int .i64 0 ∧ u = .int .i64 1) (fun _ _ => 0)
  case atStart => exact ⟨rfl, rfl⟩
  case round =>
    obtain ⟨rfl, rfl⟩ := hrel
    go_wp2
    go_ret2
    exact ⟨rfl, rfl⟩
set_option maxHeartbeats 1000000 in
theorem checkNode_any (n : Nd) (w : World) :
    Calls Tryd.prog 41 #[n.v] w fun e w' => e = .returned (errV (scanL [n])) ∧ Below w.heap.size w w' := by
  by_cases h1 : n.op < 1
  · have HF : Hid (scanL [n] = 1) := by show _ = _; rw [scanL, if_pos (Or.inl h1)]
    go_enter Tryd.func41, Tryd.ntmps41
    go_wp2
    go_ret
    exact ⟨by rw [HF.out]; rfl, Below.alloc (Below.refl _ _) (Nat.le_refl _) _⟩
  by_cases h9 : 9 < n.op
  · have HF : Hid (scanL [n] = 1) := by show _ = _; rw [scanL, if_pos (Or.inr h9)]
    go_enter Tryd.func41, Tryd.ntmps41
    go_wp2
    go_ret
    exact ⟨by rw [HF.out]; rfl, Below.alloc (Below.refl _ _) (Nat.le_refl _) _⟩
  by_cases hb : n.op = 1
  · have HF : Hid (scanL [n] = 0) := by show _ = _; rw [scanL, if_neg (by omega), if_neg (by simp [hb])]; rfl
    have hb2 : (n.op != 1) = false := by simp [hb]
    clear hb
    go_enter Tryd.func41, Tryd.ntmps41
    go_wp2
    go_ret
    exact ⟨by rw [HF.out]; rfl, Below.alloc (Below.refl _ _) (Nat.le_refl _) _⟩
  have hb2 : (n.op != 1) = true := by simp [hb]
  by_cases hz : n.c.eqb z4 = true
  · have HF : Hid (scanL [n] = 0) := by show _ = _; rw [scanL, if_neg (by omega), if_neg (by simp [hz])]; rfl
    clear hb
    have he : ∀ w, (Op.equalIn 10000 24 (.agg #[.int .u64 n.c.a, .int .u64 n.c.b, .int .u64 n.c.c, .int .u64 n.c.d]) (.agg #[.int .u64 0, .int .u64 0, .int .u64 0, .int .u64 0])).run Tryd.prog w = .ok true w := fun w => (eq4 n.c z4 w).trans (by rw [hz])
    go_enter Tryd.func41, Tryd.ntmps41
    go_wp2
    go_ret
    exact ⟨by rw [HF.out]; rfl, Below.alloc (Below.refl _ _) (Nat.le_refl _) _⟩
  · have HF : Hid (scanL [n] = 2) := by show _ = _; rw [scanL, if_neg (by omega), if_pos ⟨hb, hz⟩]
    clear hb
    have he : ∀ w, (Op.equalIn 10000 24 (.agg #[.int .u64 n.c.a, .int .u64 n.c.b, .int .u64 n.c.c, .int .u64 n.c.d]) (.agg #[.int .u64 0, .int .u64 0, .int .u64 0, .int .u64 0])).run Tryd.prog w = .ok false w := fun w => (eq4 n.c z4 w).trans (by rw [Bool.eq_false_iff.2 hz])
    go_enter Tryd.func41, Tryd.ntmps41
    go_wp2
    go_ret
    exact ⟨by rw [HF.out]; rfl, Below.alloc (Below.refl _ _) (Nat.le_refl _) _⟩
end Go.Proofs.YtmdfdlljeggbbaaDoor
namespace Go.Proofs.YtmdfdlljeggbbaaDoor
set_option linter.unusedSimpArgs false
set_option linter.unusedVariables false
set_option maxRecDepth 100000
open Go.RowKit

theorem scan_one (n : Nd) : scanL [n] = if n.op < 1 ∨ 9 < n.op then 1 else if ¬ n.op = 1 ∧ ¬ n.c.eqb z4 = true then 2 else 0 := by
  rw [scanL]; rfl
set_option maxHeartbeats 4000000 in
theorem check_at (ns : List Nd) (b off cap : Nat) (hm : ns.length ≤ maxLen) (w : World) (hlt : b < w.heap.size) (hN : NsAt w b off ns) (h0 : 0 < ns.length) :
    Calls Tryd.prog 22 #[.slice (some ⟨b, off, none⟩) ns.length cap] w fun e w' => e = .returned (errV (faultL ns)) ∧ Below w.heap.size w w' := by
  have HM := (show Hid _ from hm)
  unfold maxLen at hm
  by_cases h60 : 60 < ns.length
  · have g60 : (60 : Int) < (ns.length : Int) := by omega
    have HF : Hid (faultL ns = 3) := by show _ = _; rw [faultL, if_pos h60]
    go_enter Tryd.func22, Tryd.ntmps22
    go_wp2
    go_ret
    exact ⟨by rw [HF.out]; rfl, Below.refl _ _⟩
  · have g60 : ¬ (60 : Int) < (ns.length : Int) := by omega
    go_enter Tryd.func22, Tryd.ntmps22
    go_wp2
    go_loopw [14] (fun v wr => ∃ i : Nat, i ≤ ns.length ∧ v = .int .i64 i ∧ Hid (scanL ns = scanL (ns.drop i)) ∧ Below w.heap.size w wr) (fun v _ => ns.length - (intOf v).toNat)
    case atStart => exact ⟨0, by omega, rfl, Eq.refl _, Below.refl _ _⟩
    case round =>
      obtain ⟨i, hi, rfl, HS, hB⟩ := hrel
      have hNr := hN.below hB hlt
      by_cases hil : i < ns.length
      · obtain ⟨n, hn⟩ : ∃ n, ns[i]? = some n := ⟨ns[i], List.getElem?_eq_getElem hil⟩
        obtain ⟨c0, c1, c2, c3, c4⟩ := hNr i n hn
        have HD : Hid _ := scan_drop ns i n hn
        have H1 : Hid _ := scan_one n
        have i0 : (0 : Int) ≤ (i : Int) := by omega
        have i1 : (i : Int) < (ns.length : Int) := by omega
        clear hn
        have hcn := checkNode_any n
        go_wp2_with fail
        refine (hcn _).mono ?_
        rintro e w1 ⟨rfl, hb1⟩
        have hB1 : Below w.heap.size w w1 := hB.trans ((Below.alloc (Below.refl _ _) (Nat.le_refl _) _).trans (hb1.mono (by simp)) |>.mono hB.size)
        clear hb1 hcn
        by_cases hs : scanL [n] = 0
        · have HS2 : Hid (scanL ns = scanL (ns.drop (i + 1))) := by
            show _ = _
            rw [HS.out, HD.out]
            rw [H1.out] at hs
            split
            · rename_i h; rw [if_pos h] at hs; cases hs
            · rename_i h
              rw [if_neg h] at hs
              split
              · rename_i h2; rw [if_pos h2] at hs; cases hs
              · rfl
          rw [hs, show errV 0 = .nilIface from rfl]
          clear hs HD H1 HS
          go_wp2
          exact ⟨⟨i + 1, by omega, by go_num, HS2, hB1⟩, by simp [intOf]; omega⟩
        · have HF : Hid (faultL ns = scanL [n]) := by
            show _ = _
            have e1 : scanL ns = scanL [n] := by
              rw [HS.out, HD.out]
              rw [H1.out] at hs ⊢
              split
              · rfl
              · rename_i h
                rw [if_neg h] at hs
                split
                · rfl
                · rename_i h2; rw [if_neg h2] at hs; exact absurd rfl hs
            rw [faultL, if_neg h60, e1, if_pos hs]
          rw [show errV (scanL [n]) = .iface 25 (.int .i64 (scanL [n])) from if_neg hs]
          have HE : Hid (errV (faultL ns) = .iface 25 (.int .i64 (scanL [n]))) := by show _ = _; rw [HF.out]; exact if_neg hs
          clear hs HD H1 HS HF
          generalize scanL [n] = er at *
          go_wp2
          go_ret
          exact ⟨by rw [HE.out]; rfl, hB1⟩
      · have hi2 : i = ns.length := by omega
        have e0 : scanL ns = 0 := by rw [HS.out, List.drop_eq_nil_of_le (by omega)]; rfl
        have HF : Hid _ := fault_beh ns h60 e0
        have HC : Hid (Calls Tryd.prog 42 #[.slice (some ⟨b, off, none⟩) ns.length cap, .int .i64 0] wr fun e w' => e = .returned (.tuple #[.int .i64 ((beh ns 1).1 : Nat), .bool (beh ns 1).2]) ∧ w' = wr) := by
          have := behind_at ns b off cap 0 HM.out (by omega) (by omega) wr hNr
          rw [List.drop_zero, Nat.zero_add] at this
          exact this
        subst hi2
        have hkl := beh_le ns 1
        clear e0 HS
        generalize beh ns 1 = x at *
        obtain ⟨k, y⟩ := x
        simp only at HC HF hkl
        go_wp2_with fail
        refine HC.out.mono ?_
        rintro e w1 ⟨rfl, rfl⟩
        cases y with
        | false =>
          have HF2 : Hid (faultL ns = 2) := by show _ = _; rw [HF.out]; rfl
          clear HF HC
          go_wp2
          go_ret
          exact ⟨by rw [HF2.out]; rfl, hB⟩
        | true =>
          by_cases hk : k < ns.length
          · have HF2 : Hid (faultL ns = 2) := by show _ = _; rw [HF.out, if_neg (by simp; omega)]
            have hk2 : (k : Int) < (ns.length : Int) := by omega
            clear HF HC
            go_wp2
            go_ret
            exact ⟨by rw [HF2.out]; rfl, hB⟩
          · have HF2 : Hid (faultL ns = 0) := by show _ = _; rw [HF.out, if_pos (by simp; omega)]
            have hk2 : ¬ (k : Int) < (ns.length : Int) := by omega
            clear HF HC
            go_wp2
            go_ret
            exact ⟨by rw [HF2.out]; rfl, hB⟩
set_option maxHeartbeats 1000000 in
theorem check_nil (a : Option Addr) (cap : Nat) (w : World) :
    Calls Tryd.prog 22 #[.slice a 0 cap] w fun e w' => e = .returned (errV 2) ∧ Below w.heap.size w w' := by
  go_enter Tryd.func22, Tryd.ntmps22
  go_wp2_with fail
  go_loop [14] (fun v => v = .int .i64 0) (fun _ => 0)
  case atStart => rfl
  case round =>
    subst hrel
    go_wp2_with fail
    refine (behind_nil a cap w).mono ?_
    rintro e w1 ⟨rfl, rfl⟩
    go_wp2
    go_ret
    exact ⟨rfl, Below.refl _ _⟩
theorem rcheck_any (ns : List Nd) (v : Value) (w : World) (hN : NsIn w v ns) :
    Calls Tryd.prog 22 #[v] w fun e w' => e = .returned (errV (faultL ns)) ∧ Below w.heap.size w w' := by
  obtain ⟨a, cap, rfl, hm, h | ⟨b, off, rfl, hlt, hn⟩⟩ := hN
  · subst h
    exact check_nil a cap w
  · by_cases h0 : 0 < ns.length
    · exact check_at ns b off cap hm w hlt hn h0
    · have : ns = [] := List.eq_nil_of_length_eq_zero (by omega)
      subst this
      exact check_nil _ cap w
end Go.Proofs.YtmdfdlljeggbbaaDoor
namespace Go.Proofs.YtmdfdlljeggbbaaDoor
set_option linter.unusedSimpArgs false
set_option linter.unusedVariables false
set_option maxRecDepth 100000
open Go.RowKit
theorem textL_ne {k : C4} (hk : k.ok) : textL k ≠ [] := by
  obtain ⟨c, l, e, _⟩ := textL_head k hk []
  rw [List.append_nil] at e
  rw [e]
  simp
theorem top_pos : ∀ (t : Rx) (p q : List Nd), (p ++ t.flat ++ q)[p.length]? = some t.top
  | .leaf n, p, q => by simp [Rx.flat, Rx.top]
  | .one n a, p, q => by simp [Rx.flat, Rx.top]
  | .two n a b, p, q => by simp [Rx.flat, Rx.top]
theorem leaf_op {n : Nd} (h : prt n.op = 0) (hr : 1 ≤ n.op ∧ n.op ≤ 9) : n.op = 1 ∨ n.op = 2 ∨ n.op = 8 ∨ n.op = 9 := by
  have e3 : n.op ≠ 3 := by intro e; rw [e] at h; simp [prt] at h
  have e4 : n.op ≠ 4 := by intro e; rw [e] at h; simp [prt] at h
  have e5 : n.op ≠ 5 := by intro e; rw [e] at h; simp [prt] at h
  have e6 : n.op ≠ 6 := by intro e; rw [e] at h; simp [prt] at h
  have e7 : n.op ≠ 7 := by intro e; rw [e] at h; simp [prt] at h
  omega
/-- The first part of two that stand behind one another is not nothing. -/
theorem first_ne (t : Rx) (ht : t.Ok) (hr : ∀ n ∈ t.flat, (1 ≤ n.op ∧ n.op ≤ 9) ∧ n.c.ok) : brT (brk 3 t.top.op false) t.txt ≠ [] := by
  have br : ∀ s : List UInt8, brT true s ≠ [] := fun s => by simp [brT]
  have bn : ∀ (x : Bool) (s : List UInt8), s ≠ [] → brT x s ≠ [] := fun x s hs => by cases x <;> simp [brT, hs]
  cases t with
  | leaf n =>
    have hg := hr n (by simp [Rx.flat])
    rcases leaf_op ht hg.1 with h | h | h | h
    · apply bn; simp [Rx.txt, h, textL_ne hg.2]
    · rw [show (Rx.leaf n).top.op = 2 from h]; exact br _
    · apply bn; simp [Rx.txt, h]
    · apply bn; simp [Rx.txt, h]
  | one n a => apply bn; simp [Rx.txt]
  | two n a b =>
    rcases (prt_two n.op).1 ht.1 with h | h
    · rw [show (Rx.two n a b).top.op = 3 from h]; exact br _
    · rw [show (Rx.two n a b).top.op = 4 from h]; exact br _
theorem wpart_tree (b off cap : Nat) : ∀ (t : Rx), t.Ok → ∀ (p q : List Nd), (∀ n ∈ t.flat, (1 ≤ n.op ∧ n.op ≤ 9) ∧ n.c.ok) → (p ++ t.flat ++ q).length ≤ 60 → ∀ x, PartOk (p ++ t.flat ++ q) b off cap p.length (p.length + t.flat.length) x (brT x t.txt)
  | .leaf n, h, p, q, hr, hl => by
    intro x
    have hg := hr n (by simp [Rx.flat])
    have hat := top_pos (.leaf n) p q
    rw [show p.length + (Rx.leaf n).flat.length = p.length + 1 from rfl]
    rcases leaf_op h hg.1 with e | e | e | e
    · rw [show (Rx.leaf n).txt = textL n.c by simp [Rx.txt, e]]
      cases x
      · exact part_byte_no _ b off cap _ hl n hat e (textL_ne hg.2)
      · exact part_byte_yes _ b off cap _ hl n hat e (textL_ne hg.2)
    · rw [show (Rx.leaf n).txt = [] by simp [Rx.txt, e]]
      cases x
      · exact part_empty_no _ b off cap _ hl n hat e
      · exact part_empty_yes _ b off cap _ hl n hat e
    · rw [show (Rx.leaf n).txt = [94] by simp [Rx.txt, e]]
      cases x
      · exact part_begin_no _ b off cap _ hl n hat e
      · exact part_begin_yes _ b off cap _ hl n hat e
    · rw [show (Rx.leaf n).txt = [36] by simp [Rx.txt, e]]
      cases x
      · exact part_end_no _ b off cap _ hl n hat e
      · exact part_end_yes _ b off cap _ hl n hat e
  | .one n a, h, p, q, hr, hl => by
    intro x
    have hpos := top_pos (.one n a) p q
    have hap := top_pos a (p ++ [n]) q
    have ih := wpart_tree b off cap a h.2 (p ++ [n]) q (fun m hm => hr m (by simp [Rx.flat, hm])) (by simpa [Rx.flat] using hl) (brk n.op a.top.op false)
    have e : p ++ [n] ++ a.flat ++ q = p ++ (Rx.one n a).flat ++ q := by simp [Rx.flat]
    have ep : (p ++ [n]).length = p.length + 1 := by simp
    rw [e, ep] at ih hap
    have ek : p.length + 1 + a.flat.length = p.length + (Rx.one n a).flat.length := by simp [Rx.flat]; omega
    rw [ek] at ih
    have hop := (prt_one n.op).1 h.1
    have key : ∀ c, OneOk (p ++ (Rx.one n a).flat ++ q) b off cap p.length (p.length + (Rx.one n a).flat.length) c (brT (brk n.op a.top.op false) a.txt ++ [c]) := fun c => one_any' _ b off cap _ _ hl n a.top hpos hap hop c _ ih
    rcases hop with e | e | e
    · rw [show (Rx.one n a).txt = brT (brk n.op a.top.op false) a.txt ++ [42] by simp [Rx.txt, e, signT]]
      cases x
      · exact part_star_no _ b off cap _ _ hl n hpos e _ (key 42)
      · exact part_star_yes _ b off cap _ _ hl n hpos e _ (key 42)
    · rw [show (Rx.one n a).txt = brT (brk n.op a.top.op false) a.txt ++ [43] by simp [Rx.txt, e, signT]]
      cases x
      · exact part_plus_no _ b off cap _ _ hl n hpos e _ (key 43)
      · exact part_plus_yes _ b off cap _ _ hl n hpos e _ (key 43)
    · rw [show (Rx.one n a).txt = brT (brk n.op a.top.op false) a.txt ++ [63] by simp [Rx.txt, e, signT]]
      cases x
      · exact part_opt_no _ b off cap _ _ hl n hpos e _ (key 63)
      · exact part_opt_yes _ b off cap _ _ hl n hpos e _ (key 63)
  | .two n a b', h, p, q, hr, hl => by
    intro x
    have hpos := top_pos (.two n a b') p q
    have hap := top_pos a (p ++ [n]) (b'.flat ++ q)
    have hbp := top_pos b' (p ++ [n] ++ a.flat) q
    have ih := wpart_tree b off cap a h.2.1 (p ++ [n]) (b'.flat ++ q) (fun m hm => hr m (by simp [Rx.flat, hm])) (by simpa [Rx.flat] using hl) (brk n.op a.top.op false)
    have e : p ++ [n] ++ a.flat ++ (b'.flat ++ q) = p ++ (Rx.two n a b').flat ++ q := by simp [Rx.flat]
    have ep : (p ++ [n]).length = p.length + 1 := by simp
    rw [e, ep] at ih hap
    have ih2 := wpart_tree b off cap b' h.2.2 (p ++ [n] ++ a.flat) q (fun m hm => hr m (by simp [Rx.flat, hm])) (by simpa [Rx.flat] using hl) (brk n.op b'.top.op true)
    have e2 : p ++ [n] ++ a.flat ++ b'.flat ++ q = p ++ (Rx.two n a b').flat ++ q := by simp [Rx.flat]
    have ep2 : (p ++ [n] ++ a.flat).length = p.length + 1 + a.flat.length := by simp; omega
    rw [e2, ep2] at ih2 hbp
    have ek : p.length + 1 + a.flat.length + b'.flat.length = p.length + (Rx.two n a b').flat.length := by simp [Rx.flat]; omega
    rw [ek] at ih2
    have hpa := a.flat_pos
    have hop := (prt_two n.op).1 h.1
    have key : ∀ t, brT (brk n.op a.top.op false) a.txt ++ t ≠ [] → TwoOk (p ++ (Rx.two n a b').flat ++ q) b off cap p.length (p.length + (Rx.two n a b').flat.length) t (brT (brk n.op a.top.op false) a.txt ++ (t ++ brT (brk n.op b'.top.op true) b'.txt)) := fun t hne => two_any _ b off cap _ _ _ hl n a.top b'.top hpos hap hbp (by omega) hop _ t _ hne ih ih2
    rcases hop with e | e
    · have hne := first_ne a h.2.1 (fun m hm => hr m (by simp [Rx.flat, hm]))
      have k0 := key [] (by rw [e, List.append_nil]; exact hne)
      rw [show (Rx.two n a b').txt = brT (brk n.op a.top.op false) a.txt ++ ([] ++ brT (brk n.op b'.top.op true) b'.txt) by simp [Rx.txt, e]]
      cases x
      · exact part_cat_no _ b off cap _ _ hl n hpos e _ k0
      · exact part_cat_yes _ b off cap _ _ hl n hpos e _ k0
    · have k0 := key [124] (by simp)
      rw [show (Rx.two n a b').txt = brT (brk n.op a.top.op false) a.txt ++ ([124] ++ brT (brk n.op b'.top.op true) b'.txt) by simp [Rx.txt, e]]
      cases x
      · exact part_or_no _ b off cap _ _ hl n hpos e _ k0
      · exact part_or_yes _ b off cap _ _ hl n hpos e _ k0
end Go.Proofs.YtmdfdlljeggbbaaDoor
namespace Go.Proofs.YtmdfdlljeggbbaaDoor
set_option linter.unusedSimpArgs false
set_option linter.unusedVariables false
set_option maxRecDepth 100000
open Go.RowKit
theorem wrt_new (w : World) (nv : Value) (o : Obj) (ho : o = .cells #[.pointer none, .slice none 0 0, nv] 76 (0, 0)) : Wrt (w.alloc o) (w.heap.size + 1) w.heap.size nv [] := by
  refine ⟨.pointer none, .slice none 0 0, ?_, Or.inl rfl, ⟨rfl, Or.inl ⟨rfl, rfl⟩⟩, Nat.lt_succ_self _, fun _ => rfl⟩
  rw [ho]
  show (w.heap.push _)[w.heap.size]? = _
  simp
set_option maxHeartbeats 4000000 in
theorem print_bad (ns : List Nd) (v : Value) (w : World) (hN : NsIn w v ns) (hf : ¬ faultL ns = 0) : Calls Tryd.prog 30 #[v] w fun e w' => e = .returned (.tuple #[.string ⟨[].toArray⟩, errV (faultL ns)]) ∧ Below w.heap.size w w' := by
  have CC : Hid _ := rcheck_any ns v w hN
  obtain ⟨a, cap, rfl, hm, _⟩ := hN
  have he : errV (faultL ns) = .iface 25 (.int .i64 (faultL ns)) := by unfold errV; rw [if_neg hf]
  rw [he] at CC ⊢
  clear he hf
  go_enter Tryd.func30, Tryd.ntmps30
  go_wp2_with fail
  refine Calls.mono CC.out ?_
  rintro e w1 ⟨rfl, hb⟩
  have B1 : Hid _ := hb
  clear hb
  go_wp2
  go_ret2
  exact ⟨rfl, B1.out⟩
set_option maxHeartbeats 4000000 in
theorem print_ok (t : Rx) (v : Value) (w : World) (ht : t.Ok) (hN : NsIn w v t.flat) (hw : ∀ n ∈ t.flat, n.wf) (hf : faultL t.flat = 0) : Calls Tryd.prog 30 #[v] w fun e w' => e = .returned (.tuple #[.string ⟨(prtL t).toArray⟩, errV (prtE t)]) ∧ Below w.heap.size w w' := by
  have CC : Hid _ := rcheck_any t.flat v w hN
  obtain ⟨hl, hr, hv⟩ := (faultL_zero t.flat).1 hf
  obtain ⟨a, cap, rfl, hm, h | ⟨b, off, rfl, hlt, hn⟩⟩ := hN
  · have := t.flat_pos; rw [h] at this; simp at this
  have hP := wpart_tree b off cap t ht [] [] (fun n hn => ⟨(hr n hn).1, C4.wf_ok (hw n hn).2⟩) (by simpa using hl) false
  simp only [List.nil_append, List.append_nil, List.length_nil, Nat.zero_add, br_no] at hP
  have htl := Rx.txt_len t
  rw [hf, show errV 0 = .nilIface from rfl] at CC
  have HP : Hid (∀ w1 o, o = .cells #[.pointer none, .slice none 0 0, .slice (some ⟨b, off, none⟩) t.flat.length cap] 76 (0, 0) → Below w.heap.size w w1 → Calls Tryd.prog 46 #[.pointer (some ⟨w1.heap.size, 0, none⟩), .int .i64 0, .bool false] (w1.alloc o) fun e w' => e = .returned (.int .i64 (t.flat.length : Int)) ∧ Wrt w' (w1.heap.size + 1) w1.heap.size (.slice (some ⟨b, off, none⟩) t.flat.length cap) t.txt ∧ Below w1.heap.size (w1.alloc o) w') := by
    intro w1 o ho hb
    refine hP (w1.heap.size + 1) w1.heap.size [] (w1.alloc o) (wrt_new w1 _ o ho) (Nat.lt_of_lt_of_le hlt hb.size) ((hn.below hb hlt).below ((Below.refl _ _).alloc (Nat.le_refl _) o) (Nat.lt_of_lt_of_le hlt hb.size)) (by simp) (by simp; omega)
  clear hP hv hr hf hn hlt hw ht
  go_enter Tryd.func30, Tryd.ntmps30
  go_wp2_with fail
  refine Calls.mono CC.out ?_
  rintro e w1 ⟨rfl, hb⟩
  have B1 : Hid _ := hb
  clear hb
  go_wp2_with fail
  refine Calls.mono (HP.out _ _ rfl B1.out) ?_
  rintro e w2 ⟨rfl, hp, hb⟩
  have HP2 := hid hp
  have HB2 := hid (B1.out.trans (((Below.refl w1.heap.size w1).alloc (Nat.le_refl _) _).trans hb |>.mono B1.out.size))
  clear hp hb HP
  by_cases h200 : 200 < t.txt.length
  · have g200 : (200 : Int) < (t.txt.length : Int) := by omega
    have e1 : prtL t = [] := if_pos h200
    have e2 : prtE t = 3 := if_pos h200
    have E1 := hid e1
    have E2 := hid e2
    clear e1 e2 h200
    go_wp2_with fail
    refine Calls.mono (wLen _ _ _ _ _ HP2.out) ?_
    rintro e w3 ⟨rfl, rfl⟩
    go_wp2
    go_ret2
    exact ⟨by rw [E1.out, E2.out]; rfl, HB2.out⟩
  · have g200 : ¬ (200 : Int) < (t.txt.length : Int) := by omega
    have e1 : prtL t = t.txt := if_neg h200
    have e2 : prtE t = 0 := if_neg h200
    have E1 := hid e1
    have E2 := hid e2
    clear e1 e2 h200
    go_wp2_with fail
    refine Calls.mono (wLen _ _ _ _ _ HP2.out) ?_
    rintro e w3 ⟨rfl, rfl⟩
    go_wp2_with fail
    refine Calls.mono (wString _ _ _ _ _ HP2.out) ?_
    rintro e w4 ⟨rfl, hb4⟩
    have HB4 := hid (HB2.out.trans (hb4.mono (Nat.le_succ_of_le B1.out.size)))
    clear hb4
    go_wp2
    go_ret2
    exact ⟨by rw [E1.out, E2.out]; rfl, HB4.out⟩
/-- What is asked of Print. -/
theorem synP : SynP := ⟨fun ns v w hN _ hf => print_bad ns v w hN hf, fun t v w ht hN hw hf => print_ok t v w ht hN hw hf⟩
end Go.Proofs.YtmdfdlljeggbbaaDoor
namespace Go.Proofs.YtmdfdlljeggbbaaDoor
set_option linter.unusedSimpArgs false
set_option linter.unusedVariables false
set_option maxRecDepth 100000
open Go.RowKit
theorem ret_bool {a b : Bool} (h : a = b) : Ending.returned (.bool a) = .returned (.bool b) := by rw [h]
set_option maxHeartbeats 1000000 in
theorem more_any (g : Nat) (s : ByteArray) (a : Nat) (v : Value) (l : List UInt8) (w : World) (h : PA w g s a v l) :
    Calls Tryd.prog 62 #[.pointer (some ⟨g, 0, none⟩)] w fun e w' => e = .returned (.bool (decide (l ≠ []))) ∧ Below w.heap.size w w' := by
  obtain ⟨c0, c1, c2, c3, f1, f2, f3⟩ := h.rd.all
  have H : Hid (decide (a < s.size) = decide (l ≠ [])) := by
    show _ = _
    have := h.le
    cases l with
    | nil => simp at this ⊢; omega
    | cons c r => simp at this ⊢; omega
  clear h
  go_enter Tryd.func62, Tryd.ntmps62
  go_wp2_with fail
  go_quiet (fail)
  go_wp2
  go_ret
  exact ⟨ret_bool H.out, below_drewN' w nq⟩
set_option maxHeartbeats 1000000 in
theorem misfitAt_any (g : Nat) (s : ByteArray) (a : Int) (v : Value) (st : Bool) (z : Int) (w : World) (h : Rdr w g s a v st) :
    Calls Tryd.prog 63 #[.pointer (some ⟨g, 0, none⟩), .int .i64 z] w fun e w' => e = .returned (.agg #[.int .i64 z]) ∧ Stk w' g ∧ w.grownBy w' (some g) := by
  obtain ⟨c0, c1, c2, c3, f1, f2, f3⟩ := h.ca
  have hg := h.lt
  have H := hid h
  clear h
  have hne : ¬ g = w.heap.size := by omega
  have hne2 : ¬ w.heap.size = g := by omega
  go_enter Tryd.func63, Tryd.ntmps63
  go_wp2
  refine bodyPost_ret (v := .agg #[.int .i64 z]) (by simp [results, Tryd.results63, go_sem]) rfl ⟨rfl, ?_⟩
  exact ⟨⟨s, a, v, (H.out.setStuck true).alloc _⟩, grown_trans (grown_cell _ _ _ _) (grown_of_below ((Below.refl _ _).alloc (Nat.le_refl _) _) _)⟩
theorem more_nil (g : Nat) (s : ByteArray) (a : Nat) (v : Value) (w : World) (h : PA w g s a v []) :
    Calls Tryd.prog 62 #[.pointer (some ⟨g, 0, none⟩)] w fun e w' => e = .returned (.bool false) ∧ Below w.heap.size w w' := (more_any g s a v _ w h).mono fun _ _ x => ⟨x.1.trans (ret_bool (by simp)), x.2⟩
theorem more_cons (g : Nat) (s : ByteArray) (a : Nat) (v : Value) (c : UInt8) (r : List UInt8) (w : World) (h : PA w g s a v (c :: r)) :
    Calls Tryd.prog 62 #[.pointer (some ⟨g, 0, none⟩)] w fun e w' => e = .returned (.bool true) ∧ Below w.heap.size w w' := (more_any g s a v _ w h).mono fun _ _ x => ⟨x.1.trans (ret_bool (by simp)), x.2⟩
set_option maxHeartbeats 1000000 in
theorem rsees_any (g : Nat) (s : ByteArray) (a : Nat) (v : Value) (l : List UInt8) (b : UInt8) (z : Int) (hz : z = (b.toNat : Int)) (w : World) (h : PA w g s a v l) :
    Calls Tryd.prog 82 #[.pointer (some ⟨g, 0, none⟩), .int .u8 z] w fun e w' => e = .returned (.bool (decide (l.head? = some b))) ∧ Below w.heap.size w w' := by
  subst hz
  obtain ⟨c0, c1, c2, c3, f1, f2, f3⟩ := h.rd.all
  have d0 := cell_regrown c0
  have d1 := cell_regrown c1
  clear c0 c1 c2 c3 f1 f2 f3
  cases l with
  | nil =>
    have HM := hid fun d os => more_nil g s a v _ (h.below (below_regrown w d os))
    clear h
    go_enter Tryd.func82, Tryd.ntmps82
    go_wp2_with fail
    refine wp_region_quiet_below (by kernel_rfl) (by kernel_rfl) ?_
    repeat (go_big_quiet_step (first
      | (go_at_call 62; refine Calls.regrown_of (v := .bool false) ?_; exact HM.out _ _)))
    refine wpQuiet_nil ?_
    intro _ hw'
    obtain ⟨⟨dq, osq⟩, hw''⟩ := hw'
    have hb := below_regrown w dq osq
    subst hw''
    go_wp2
    go_ret
    exact ⟨rfl, hb⟩
  | cons c r =>
    obtain ⟨h1, _, h3⟩ := dropc _ _ _ _ h.at'
    have hi := str_idx s a c h1
    have HM := hid fun d os => more_cons g s a v c r _ (h.below (below_regrown w d os))
    clear h h1 h3
    by_cases hc : c = b
    · subst hc
      have e : ((c.toNat : Int) == (c.toNat : Int)) = true := by simp
      have HX : Hid (decide ((c :: r).head? = some c) = true) := by show _ = _; simp
      rw [HX.out]
      go_enter Tryd.func82, Tryd.ntmps82
      go_wp2_with fail
      refine wp_region_quiet_below (by kernel_rfl) (by kernel_rfl) ?_
      repeat (go_big_quiet_step (first
        | (go_at_call 62; refine Calls.regrown_of (v := .bool true) ?_; exact HM.out _ _)))
      refine wpQuiet_nil ?_
      intro _ hw'
      obtain ⟨⟨dq, osq⟩, hw''⟩ := hw'
      have hb := below_regrown w dq osq
      subst hw''
      go_wp2
      go_ret
      exact ⟨rfl, hb⟩
    · have e : ((c.toNat : Int) == (b.toNat : Int)) = false := by
        simp
        intro h
        exact hc (UInt8.toNat_inj.1 (by omega))
      have HX : Hid (decide ((c :: r).head? = some b) = false) := by show _ = _; simp [hc]
      rw [HX.out]
      go_enter Tryd.func82, Tryd.ntmps82
      go_wp2_with fail
      refine wp_region_quiet_below (by kernel_rfl) (by kernel_rfl) ?_
      repeat (go_big_quiet_step (first
        | (go_at_call 62; refine Calls.regrown_of (v := .bool true) ?_; exact HM.out _ _)))
      refine wpQuiet_nil ?_
      intro _ hw'
      obtain ⟨⟨dq, osq⟩, hw''⟩ := hw'
      have hb := below_regrown w dq osq
      subst hw''
      go_wp2
      go_ret
      exact ⟨rfl, hb⟩
set_option maxHeartbeats 1000000 in
theorem skip_no (g : Nat) (s : ByteArray) (a : Nat) (v : Value) (l : List UInt8) (b : UInt8) (z : Int) (hz : z = (b.toNat : Int)) (w : World) (h : PA w g s a v l) (hl : l.head? ≠ some b) :
    Calls Tryd.prog 72 #[.pointer (some ⟨g, 0, none⟩), .int .u8 z] w fun e w' => e = .returned (.bool false) ∧ Below w.heap.size w w' := by
  subst hz
  have HM := hid (rsees_any g s a v l b _ rfl w h)
  have HX : Hid (decide (l.head? = some b) = false) := by show _ = _; simp [hl]
  clear h hl
  go_enter Tryd.func72, Tryd.ntmps72
  go_wp2_with fail
  refine Calls.mono HM.out ?_
  rintro e w1 ⟨rfl, hb⟩
  rw [HX.out]
  go_wp2
  go_ret
  exact ⟨rfl, hb⟩
set_option maxHeartbeats 1000000 in
theorem skip_yes (g : Nat) (s : ByteArray) (a : Nat) (v : Value) (r : List UInt8) (b : UInt8) (z : Int) (hz : z = (b.toNat : Int)) (w : World) (h : PA w g s a v (b :: r)) :
    Calls Tryd.prog 72 #[.pointer (some ⟨g, 0, none⟩), .int .u8 z] w fun e w' => e = .returned (.bool true) ∧ PA w' g s (a + 1) v r ∧ w.grownBy w' (some g) := by
  subst hz
  have HM := hid (rsees_any g s a v _ b _ rfl w h)
  have HX : Hid (decide ((b :: r).head? = some b) = true) := by show _ = _; simp
  have HP := hid h
  clear h
  go_enter Tryd.func72, Tryd.ntmps72
  go_wp2_with fail
  refine Calls.mono HM.out ?_
  rintro e w1 ⟨rfl, hb⟩
  rw [HX.out]
  have hp := HP.out.below hb
  obtain ⟨c0, c1, c2, c3, f1, f2, f3⟩ := hp.rd.all
  have HP1 := hid hp
  clear hp
  have hadd : IntKind.i64.wrap ((a : Int) + 1) = ((a + 1 : Nat) : Int) := by
    have := HP.out.le
    have := HP.out.small
    rw [IntKind.wrap_i64]
    omega
  go_wp2
  go_ret
  exact ⟨rfl, HP1.out.next _ (by omega), grown_trans (grown_of_below hb _) (grown_cell _ _ _ _)⟩
set_option maxHeartbeats 1000000 in
theorem take_some (g : Nat) (s : ByteArray) (a : Nat) (v : Value) (c : UInt8) (r : List UInt8) (w : World) (h : PA w g s a v (c :: r)) :
    Calls Tryd.prog 96 #[.pointer (some ⟨g, 0, none⟩)] w fun e w' => e = .returned (.int .u8 (c.toNat : Int)) ∧ PA w' g s (a + 1) v r ∧ w.grownBy w' (some g) := by
  have HM := hid (more_cons g s a v c r w h)
  have HP := hid h
  have hi := str_idx s a c (dropc _ _ _ _ h.at').1
  clear h
  go_enter Tryd.func96, Tryd.ntmps96
  go_wp2_with fail
  refine Calls.mono HM.out ?_
  rintro e w1 ⟨rfl, hb⟩
  have hp := HP.out.below hb
  obtain ⟨c0, c1, c2, c3, f1, f2, f3⟩ := hp.rd.all
  have HP1 := hid hp
  have hadd : IntKind.i64.wrap ((a : Int) + 1) = ((a + 1 : Nat) : Int) := by
    have := HP.out.le
    have := HP.out.small
    rw [IntKind.wrap_i64]
    omega
  clear hp
  go_wp2
  have hp2 := HP1.out.next ((a : Int) + 1) (by omega)
  have hg2 := grown_cell w1 g 1 (.int .i64 ((a : Int) + 1))
  generalize w1.setCell ⟨g, 1, none⟩ (.int .i64 ((a : Int) + 1)) = w2 at *
  clear c0 c1 c2 c3 f1 f2 f3
  obtain ⟨c0, c1, c2, c3, f1, f2, f3⟩ := hp2.rd.all
  rw [show ((a + 1 : Nat) : Int) = (a : Int) + 1 from by omega] at c1
  have HP2 := hid hp2
  have hsub : IntKind.i64.wrap (a : Int) = (a : Int) := by
    have := HP.out.le
    have := HP.out.small
    rw [IntKind.wrap_i64]
    omega
  have hsub2 : (a : Int) + 1 - 1 = (a : Int) := by omega
  clear hp2
  go_quiet (fail)
  go_wp2
  go_ret
  exact ⟨rfl, HP2.out.below (below_drewN' w2 nq), grown_trans (grown_of_below hb _) (grown_trans hg2 (grown_of_below (below_drewN' w2 nq) _))⟩
set_option maxHeartbeats 1000000 in
theorem take_none (g : Nat) (s : ByteArray) (a : Nat) (v : Value) (w : World) (h : PA w g s a v []) :
    Calls Tryd.prog 96 #[.pointer (some ⟨g, 0, none⟩)] w fun e w' => e = .panicked (mis s.size) ∧ Stk w' g ∧ w.grownBy w' (some g) := by
  have HM := hid (more_nil g s a v w h)
  have HP := hid h
  have HA : Hid ((a : Int) = s.size) := by
    have := h.le
    simp at this
    show _ = _
    omega
  clear h
  go_enter Tryd.func96, Tryd.ntmps96
  go_wp2_with fail
  refine Calls.mono HM.out ?_
  rintro e w1 ⟨rfl, hb⟩
  have hp := HP.out.below hb
  obtain ⟨c0, c1, c2, c3, f1, f2, f3⟩ := hp.rd.all
  have HQ := hid (misfitAt_any g s a v false a w1 hp.rd)
  clear hp
  go_wp2_with fail
  refine Calls.mono HQ.out ?_
  rintro e w2 ⟨rfl, hs, hg⟩
  go_wp2
  refine ⟨rfl, ?_, hs, grown_trans (grown_of_below hb _) hg⟩
  rw [HA.out]
  rfl
set_option maxHeartbeats 1000000 in
theorem close_stuck (g : Nat) (z : Int) (u : FrameMode) (w : World) (h : Stk w g) :
    CallsD Tryd.prog 94 #[.pointer (some ⟨g, 0, none⟩), .int .u8 z] u w fun e u' w' => u' = u ∧ (e = .returned (.tuple #[]) ∧ Below w.heap.size w w') := by
  obtain ⟨s, a, v, hr⟩ := h
  obtain ⟨c0, c1, c2, c3, f1, f2, f3⟩ := hr.all
  clear hr
  go_enter_d Tryd.func94, Tryd.ntmps94
  go_wp2_with fail
  go_end0
  exact ⟨rfl, Below.refl _ _⟩
set_option maxHeartbeats 1000000 in
theorem close_yes (g : Nat) (s : ByteArray) (a : Nat) (v : Value) (r : List UInt8) (b : UInt8) (u : FrameMode) (w : World) (h : PA w g s a v (b :: r)) :
    CallsD Tryd.prog 94 #[.pointer (some ⟨g, 0, none⟩), .int .u8 (b.toNat : Int)] u w fun e u' w' => u' = u ∧ (e = .returned (.tuple #[]) ∧ PA w' g s (a + 1) v r ∧ w.grownBy w' (some g)) := by
  obtain ⟨c0, c1, c2, c3, f1, f2, f3⟩ := h.rd.all
  have HS := hid (skip_yes g s a v r b _ rfl w h)
  clear h
  go_enter_d Tryd.func94, Tryd.ntmps94
  go_wp2_with fail
  refine Calls.mono HS.out ?_
  rintro e w1 ⟨rfl, hp, hg⟩
  go_wp2
  go_end0
  exact ⟨rfl, hp, hg⟩
set_option maxHeartbeats 1000000 in
theorem close_no (g : Nat) (s : ByteArray) (a : Nat) (v : Value) (l : List UInt8) (b : UInt8) (u : FrameMode) (w : World) (h : PA w g s a v l) (hl : l.head? ≠ some b) :
    CallsD Tryd.prog 94 #[.pointer (some ⟨g, 0, none⟩), .int .u8 (b.toNat : Int)] u w fun e u' w' => u' = u ∧ (e = .panicked (mis ((s.size : Int) - (l.length : Int))) ∧ Stk w' g ∧ w.grownBy w' (some g)) := by
  obtain ⟨c0, c1, c2, c3, f1, f2, f3⟩ := h.rd.all
  have HS := hid (skip_no g s a v l b _ rfl w h hl)
  have HP := hid h
  have HA : Hid ((a : Int) = (s.size : Int) - (l.length : Int)) := by
    have := h.le
    show _ = _
    omega
  clear h hl
  go_enter_d Tryd.func94, Tryd.ntmps94
  go_wp2_with fail
  refine Calls.mono HS.out ?_
  rintro e w1 ⟨rfl, hb⟩
  have hp := HP.out.below hb
  clear c0 c1 c2 c3 f1 f2 f3
  obtain ⟨c0, c1, c2, c3, f1, f2, f3⟩ := hp.rd.all
  have HQ := hid (misfitAt_any g s a v false a w1 hp.rd)
  clear hp
  go_wp2_with fail
  refine Calls.mono HQ.out ?_
  rintro e w2 ⟨rfl, hs, hg⟩
  go_wp2
  refine ⟨rfl, ?_, hs, grown_trans (grown_of_below hb _) hg⟩
  rw [HA.out]
  rfl
end Go.Proofs.YtmdfdlljeggbbaaDoor
