/- The landed prog: Of. The landed prog: what is a step, what a step's Op has. The landed prog: Check. (Made by wip/tools/genpk2.py.) The landed prog: Check. What winnowfansame.Ints answers. -/
import Derived.Test.YtgnmlnfddcnkbaaDoorY07
import Derived.Test.YtgnmlnfddcnkbaaDoorY03
import Derived.Test.YtgnmlnfddcnkbaaDoorY06
import Derived.Test.YtgnmlnfddcnkbaaDoorY02
import Derived.Deep.RegionHeld3
import Derived.BigQuiet
import Derived.Lib.QuietBelow
namespace Go.Proofs.YtgnmlnfddcnkbaaDoor
set_option linter.unusedSimpArgs false
set_option linter.unusedVariables false
set_option maxRecDepth 100000
open Go.RowKit
theorem pof_bad (ns : List Nd) (v : Value) (w : World) (h : NsIn w v ns) (hf : ¬ faultL ns = 0) :
    Calls Tryd.prog 7 #[v] w fun e w' => ∃ a cap, e = .returned (.tuple #[.slice a 0 cap, errV (faultL ns)]) ∧ Below w.heap.size w w' := by
  have HC := hid (rcheck_any ns v w h)
  have e0 : errV (faultL ns) = .iface 45 (.int .i64 (faultL ns)) := by unfold errV; rw [if_neg hf]
  rw [e0] at HC
  have HE := hid e0
  clear h e0
  go_enter Tryd.func7, Tryd.ntmps7
  go_wp2_with fail
  refine Calls.mono HC.out ?_
  rintro e w1 ⟨rfl, hb1⟩
  have HB := hid hb1
  clear hb1 HC
  go_wp2
  go_ret2
  exact ⟨none, 0, by rw [HE.out]; rfl, HB.out⟩
set_option maxHeartbeats 2000000 in
theorem pof_tree (t : Rx) (ht : t.Ok) (v : Value) (w : World) (h : NsIn w v t.flat) (hf : faultL t.flat = 0) :
    Calls Tryd.prog 7 #[v] w fun e w' => ∃ u, e = .returned (.tuple #[u, .nilIface]) ∧ SsIn w' u t.prog ∧ Below w.heap.size w w' := by
  have HC := hid (rcheck_any t.flat v w h)
  rw [hf] at HC
  have e0 : errV 0 = .nilIface := rfl
  rw [e0] at HC
  clear e0
  obtain ⟨hl, hop, -⟩ := (faultL_zero t.flat).1 hf
  have hpos := t.flat_pos
  obtain ⟨a, cap, rfl, hm, h | ⟨b, off, rfl, hlt, hN⟩⟩ := h
  · rw [h] at hpos; simp at hpos
  have hcl := t.cod_len 0
  have HP := hid (bpart_tree b off cap t ht [] [] (fun n hn => (hop n hn).1) (by simpa using hl))
  rw [show ([] : List Nd) ++ t.flat ++ [] = t.flat from by simp] at HP
  have HN := hid hN
  clear hN hop hf hm
  go_enter Tryd.func7, Tryd.ntmps7
  go_wp2_with fail
  refine Calls.mono HC.out ?_
  rintro e w1 ⟨rfl, hb1⟩
  have HB1 := hid hb1
  clear hb1 HC
  go_wp2_with fail
  obtain ⟨o, ho⟩ : ∃ o : Obj, o = .cells #[.slice (some ⟨b, off, none⟩) t.flat.length cap, .slice none 0 0] 61 := ⟨_, rfl⟩
  have hBB : BB (w1.alloc o) w1.heap.size (.slice (some ⟨b, off, none⟩) t.flat.length cap) [] := by
    refine ⟨.slice none 0 0, ?_, ⟨rfl, Or.inl ⟨rfl, rfl⟩⟩⟩
    show (w1.alloc o).heap[w1.heap.size]? = _
    rw [ho]
    exact heap_alloc_new w1 _
  have hb1 : b < w1.heap.size := Nat.lt_of_lt_of_le hlt HB1.out.size
  have hN1 : NsAt (w1.alloc o) b off t.flat := (HN.out.below HB1.out hlt).below ((Below.refl _ _).alloc (Nat.le_refl _) _) hb1
  have HP1 := hid (HP.out w1.heap.size [] (w1.alloc o) hBB hb1 hN1 (by simp; omega))
  rw [← ho]
  clear hBB hN1 ho HN HP
  refine Calls.mono HP1.out ?_
  rintro e w2 ⟨rfl, h2, hb2⟩
  have HA := hid (add_any _ _ _ stD w2 h2 (by simp; omega))
  have HB2 : Hid (Below w1.heap.size w1 w2) := ((Below.refl _ _).alloc (Nat.le_refl _) o).trans hb2
  clear h2 hb2 HP1
  go_wp2_with fail
  refine Calls.mono HA.out ?_
  rintro e w3 ⟨rfl, h3, hb3⟩
  have HB3 : Hid (Below w.heap.size w w3) := HB1.out.trans ((HB2.out.trans hb3).mono HB1.out.size)
  obtain ⟨sv, hbl, hso⟩ := h3.of
  obtain ⟨c0, c1, f1⟩ := hbl.all
  have HI : Hid (SsIn w3 sv t.prog) := by
    show SsIn w3 sv t.prog
    have := hso.isIn (by unfold maxLen; simp; omega)
    simpa [Rx.prog] using this
  obtain ⟨a3, cap3, hsv⟩ := hso.len
  rw [show (([] : List St) ++ t.cod ([] : List St).length ++ [stD]).length = (t.cod 0).length + 1 from by simp] at hsv
  subst hsv
  clear h3 hb3 hbl hso HB2 HB1 HA
  go_wp2
  go_ret2
  exact ⟨_, rfl, HI.out, HB3.out⟩
theorem pof_any (ns : List Nd) (v : Value) (w : World) (h : NsIn w v ns) (hf : faultL ns = 0) :
    Calls Tryd.prog 7 #[v] w fun e w' => ∃ a len cap, e = .returned (.tuple #[.slice a len cap, .nilIface]) ∧ Below w.heap.size w w' := by
  obtain ⟨t, ht, rfl⟩ := tree_of ns ((faultL_zero ns).1 hf).2.2
  refine (pof_tree t ht v w h hf).mono ?_
  rintro e w' ⟨u, rfl, hu, hb⟩
  obtain ⟨a, cap, rfl, _⟩ := ssIn_form hu
  exact ⟨a, _, cap, rfl, hb⟩
end Go.Proofs.YtgnmlnfddcnkbaaDoor
namespace Go.Proofs.YtgnmlnfddcnkbaaDoor
set_option linter.unusedSimpArgs false
set_option linter.unusedVariables false
set_option maxRecDepth 100000
open Go.RowKit
theorem isStep_any (N : Nat) (hN : N ≤ 9223372036854775807) (x : Int) (b : Nat) (a : Option Addr) (cap : Nat) (w : World) (hb : w.cell? ⟨b, 0, none⟩ = some (.slice a N cap)) :
    Calls Tryd.prog 27 #[.int .i64 x, .pointer (some ⟨b, 0, none⟩)] w fun e w' => e = .returned (.bool (decide (0 ≤ x ∧ x < (N : Int)))) ∧ w' = w := by
  by_cases h0 : 0 ≤ x
  · by_cases h1 : x < (N : Int)
    · go_enter Tryd.func27, Tryd.ntmps27
      go_wp2
      go_ret
      exact ⟨by first | (simp [h0, h1]; done) | (simp [h0]; omega), rfl⟩
    · go_enter Tryd.func27, Tryd.ntmps27
      go_wp2
      go_ret
      exact ⟨by first | (simp [h0, h1]; done) | (simp [h0]; omega), rfl⟩
  · go_enter Tryd.func27, Tryd.ntmps27
    go_wp2
    go_ret
    exact ⟨by first | (simp [h0]; done) | (simp; omega), rfl⟩
/-- A step with the fields alone that its Op has. -/
def bareS (s : St) : St := if s.op = 1 then ⟨s.op, s.c, s.x, 0⟩ else if s.op = 2 then ⟨s.op, z4, s.x, s.y⟩ else if s.op = 3 ∨ s.op = 4 then ⟨s.op, z4, s.x, 0⟩ else ⟨s.op, z4, 0, 0⟩
theorem bare_any (s : St) (w : World) : Calls Tryd.prog 55 #[s.v] w fun e w' => e = .returned (bareS s).v ∧ Below w.heap.size w w' := by
  obtain ⟨op, c, x, y⟩ := s
  have HB : Hid (∀ o1 o2, Below w.heap.size w ((w.alloc o1).alloc o2)) := fun o1 o2 => ((Below.refl _ _).alloc (Nat.le_refl _) _).alloc (by simp) _
  by_cases h1 : op = 1
  · subst h1
    have HF : Hid (bareS ⟨1, c, x, y⟩ = ⟨1, c, x, 0⟩) := by show _ = _; unfold bareS; rw [if_pos rfl]
    go_enter Tryd.func55, Tryd.ntmps55
    go_wp2
    rw [HF.out]
    refine bodyPost_ret (by simp [results, Tryd.results55, go_sem, z4]) rfl ⟨rfl, HB.out _ _⟩
  by_cases h2 : op = 2
  · subst h2
    have HF : Hid (bareS ⟨2, c, x, y⟩ = ⟨2, z4, x, y⟩) := by show _ = _; unfold bareS; rw [if_neg (by simp), if_pos rfl]
    go_enter Tryd.func55, Tryd.ntmps55
    go_wp2
    rw [HF.out]
    refine bodyPost_ret (by simp [results, Tryd.results55, go_sem, z4]) rfl ⟨rfl, HB.out _ _⟩
  by_cases h3 : op = 3
  · subst h3
    have HF : Hid (bareS ⟨3, c, x, y⟩ = ⟨3, z4, x, 0⟩) := by show _ = _; unfold bareS; rw [if_neg (by simp), if_neg (by simp), if_pos (by simp)]
    go_enter Tryd.func55, Tryd.ntmps55
    go_wp2
    rw [HF.out]
    refine bodyPost_ret (by simp [results, Tryd.results55, go_sem, z4]) rfl ⟨rfl, HB.out _ _⟩
  by_cases h4 : op = 4
  · subst h4
    have HF : Hid (bareS ⟨4, c, x, y⟩ = ⟨4, z4, x, 0⟩) := by show _ = _; unfold bareS; rw [if_neg (by simp), if_neg (by simp), if_pos (by simp)]
    go_enter Tryd.func55, Tryd.ntmps55
    go_wp2
    rw [HF.out]
    refine bodyPost_ret (by simp [results, Tryd.results55, go_sem, z4]) rfl ⟨rfl, HB.out _ _⟩
  have HF : Hid (bareS ⟨op, c, x, y⟩ = ⟨op, z4, 0, 0⟩) := by show _ = _; unfold bareS; rw [if_neg h1, if_neg h2, if_neg (by simp; omega)]
  have g1 : (op == 1) = false := by simp [h1]
  have g2 : (op == 2) = false := by simp [h2]
  have g3 : (op == 3) = false := by simp [h3]
  have g4 : (op == 4) = false := by simp [h4]
  clear h1 h2 h3 h4
  go_enter Tryd.func55, Tryd.ntmps55
  go_wp2
  rw [HF.out]
  refine bodyPost_ret (by simp [results, Tryd.results55, go_sem, z4]) rfl ⟨rfl, HB.out _ _⟩
end Go.Proofs.YtgnmlnfddcnkbaaDoor
namespace Go.Proofs.YtgnmlnfddcnkbaaDoor
set_option linter.unusedSimpArgs false
set_option linter.unusedVariables false
set_option maxRecDepth 100000
open Go.RowKit
theorem bareS_eqb (s : St) (h1 : ¬ s.op < 1) (h5 : ¬ 5 < s.op) : s.eqb (bareS s) = ! decide (stShape s) := by
  obtain ⟨op, c, x, y⟩ := s
  have hc : c.eqb c = true := eqb_self c
  have hop : op = 1 ∨ op = 2 ∨ op = 3 ∨ op = 4 ∨ op = 5 := by simp only at h1 h5; omega
  unfold stShape
  rcases hop with rfl | rfl | rfl | rfl | rfl <;> cases h : c.eqb z4 <;> by_cases hy : y = 0 <;> by_cases hx : x = 0 <;> simp [bareS, St.eqb, hc, h, hy, hx]
/-- What a step is held against: any step's number. -/
abbrev isV (b : Nat) : Value := .func (.func 27) #[] #[.pointer (some ⟨b, 0, none⟩)]
set_option maxHeartbeats 8000000 in
theorem checkStep_any (N : Nat) (hN : N ≤ 9223372036854775807) (s : St) (b : Nat) (a : Option Addr) (cap : Nat) (w : World) (hb : w.cell? ⟨b, 0, none⟩ = some (.slice a N cap)) :
    Calls Tryd.prog 28 #[s.v, isV b] w fun e w' => e = .returned (errV (stBad N s)) ∧ Below w.heap.size w w' := by
  obtain ⟨op, c, x, y⟩ := s
  have hbl : b < w.heap.size := by
    rcases Nat.lt_or_ge b w.heap.size with h | h
    · exact h
    · simp [World.cell?, Array.getElem?_eq_none h] at hb
  obtain ⟨o, ho⟩ : ∃ o : Obj, o = .cells #[.int .i64 op, .int .u64 c.a, .int .u64 c.b, .int .u64 c.c, .int .u64 c.d, .int .i64 x, .int .i64 y] 52 := ⟨_, rfl⟩
  have HC' : Hid (∀ (z : Int), Calls Tryd.prog 27 #[.int .i64 z, .pointer (some ⟨b, 0, none⟩)] (w.alloc o) fun e w' => e = .returned (.bool (decide (0 ≤ z ∧ z < (N : Int)))) ∧ w' = w.alloc o) := fun z =>
    isStep_any N hN z b a cap _ ((World.cell?_of_block (a := ⟨b, 0, none⟩) (Below.heap_alloc w o b hbl)).trans hb)
  have HB : Hid (Below w.heap.size w (w.alloc o)) := (Below.refl _ _).alloc (Nat.le_refl _) _
  obtain ⟨t, HT⟩ : ∃ t, Hid (t = bareS ⟨op, c, x, y⟩) := ⟨_, Eq.refl _⟩
  have BA : Hid (∀ W, Calls Tryd.prog 55 #[.agg #[.int .i64 op, .int .u64 c.a, .int .u64 c.b, .int .u64 c.c, .int .u64 c.d, .int .i64 x, .int .i64 y]] W fun e w' => e = .returned (.agg #[.int .i64 t.op, .int .u64 t.c.a, .int .u64 t.c.b, .int .u64 t.c.c, .int .u64 t.c.d, .int .i64 t.x, .int .i64 t.y]) ∧ Below W.heap.size W w') := by
    intro W
    rw [HT.out]
    exact bare_any ⟨op, c, x, y⟩ W
  have RC : Hid ((∀ d os, (Go.Sort.grow (redrawn (w.alloc o) d) os).cell? ⟨w.heap.size, 0, none⟩ = some (.int .i64 op)) ∧ (∀ d os, (Go.Sort.grow (redrawn (w.alloc o) d) os).cell? ⟨w.heap.size, 1, none⟩ = some (.int .u64 c.a)) ∧ (∀ d os, (Go.Sort.grow (redrawn (w.alloc o) d) os).cell? ⟨w.heap.size, 2, none⟩ = some (.int .u64 c.b)) ∧ (∀ d os, (Go.Sort.grow (redrawn (w.alloc o) d) os).cell? ⟨w.heap.size, 3, none⟩ = some (.int .u64 c.c)) ∧ (∀ d os, (Go.Sort.grow (redrawn (w.alloc o) d) os).cell? ⟨w.heap.size, 4, none⟩ = some (.int .u64 c.d)) ∧ (∀ d os, (Go.Sort.grow (redrawn (w.alloc o) d) os).cell? ⟨w.heap.size, 5, none⟩ = some (.int .i64 x)) ∧ (∀ d os, (Go.Sort.grow (redrawn (w.alloc o) d) os).cell? ⟨w.heap.size, 6, none⟩ = some (.int .i64 y))) := by
    refine ⟨?_, ?_, ?_, ?_, ?_, ?_, ?_⟩ <;> exact cell_regrown (by rw [ho]; simp)
  clear hb
  by_cases h1 : op < 1
  · have HF : Hid (stBad N ⟨op, c, x, y⟩ = 1) := stBad_range (Or.inl h1)
    go_enter Tryd.func28, Tryd.ntmps28
    go_wp2
    go_ret
    exact ⟨by rw [HF.out]; rfl, by rw [← ho]; exact HB.out⟩
  by_cases h5 : 5 < op
  · have HF : Hid (stBad N ⟨op, c, x, y⟩ = 1) := stBad_range (Or.inr (Or.inl h5))
    go_enter Tryd.func28, Tryd.ntmps28
    go_wp2
    go_ret
    exact ⟨by rw [HF.out]; rfl, by rw [← ho]; exact HB.out⟩
  have HC : Hid (∀ (z : Int), Calls Tryd.prog 27 #[.int .i64 z, .pointer (some ⟨b, 0, none⟩)] (w.alloc (.cells #[.int .i64 op, .int .u64 c.a, .int .u64 c.b, .int .u64 c.c, .int .u64 c.d, .int .i64 x, .int .i64 y] 52)) fun e w' => e = .returned (.bool (decide (0 ≤ z ∧ z < (N : Int)))) ∧ w' = w.alloc (.cells #[.int .i64 op, .int .u64 c.a, .int .u64 c.b, .int .u64 c.c, .int .u64 c.d, .int .i64 x, .int .i64 y] 52)) := by
    rw [← ho]
    exact HC'
  clear HC'
  by_cases hd : op = 5
  · subst hd
    have hr : ¬ stRange N ⟨5, c, x, y⟩ := by unfold stRange; simp
    by_cases hs : stShape ⟨5, c, x, y⟩
    · have HF : Hid (stBad N ⟨5, c, x, y⟩ = 2) := stBad_shape hr hs
      have he : ∀ w, (Op.equalIn 10000 52 (.agg #[.int .i64 5, .int .u64 c.a, .int .u64 c.b, .int .u64 c.c, .int .u64 c.d, .int .i64 x, .int .i64 y]) (.agg #[.int .i64 t.op, .int .u64 t.c.a, .int .u64 t.c.b, .int .u64 t.c.c, .int .u64 t.c.d, .int .i64 t.x, .int .i64 t.y])).run Tryd.prog w = .ok false w := fun w => (eqS ⟨5, c, x, y⟩ t w).trans (by rw [HT.out, bareS_eqb _ (by show ¬ 5 < 1; omega) (by show ¬ 5 < 5; omega)]; simp only [hs, decide_true, decide_false, Bool.not_true, Bool.not_false])
      go_enter Tryd.func28, Tryd.ntmps28
      go_wp2_with fail
      rw [← ho]
      clear ho
      obtain ⟨r0, r1, r2, r3, r4, r5, r6⟩ := RC.out
      refine wp_region_quiet_below (by kernel_rfl) (by kernel_rfl) ?_
      repeat (go_big_quiet_step (first
        | (go_at_call 55; exact Calls.regrown_of (BA.out _))))
      refine wpQuiet_nil ?_
      intro _ hw'
      obtain ⟨⟨dq, osq⟩, hw''⟩ := hw'
      have B2 : Hid (Below w.heap.size w (Go.Sort.grow (redrawn (w.alloc o) dq) osq)) := HB.out.trans ((below_regrown (w.alloc o) dq osq).mono (by simp))
      subst hw''
      generalize Go.Sort.grow (redrawn (w.alloc o) dq) osq = W at *
      clear RC r0 r1 r2 r3 r4 r5 r6
      go_wp2
      go_ret
      exact ⟨by rw [HF.out]; rfl, B2.out⟩
    · have HF : Hid (stBad N ⟨5, c, x, y⟩ = 0) := stBad_ok hr hs
      have he : ∀ w, (Op.equalIn 10000 52 (.agg #[.int .i64 5, .int .u64 c.a, .int .u64 c.b, .int .u64 c.c, .int .u64 c.d, .int .i64 x, .int .i64 y]) (.agg #[.int .i64 t.op, .int .u64 t.c.a, .int .u64 t.c.b, .int .u64 t.c.c, .int .u64 t.c.d, .int .i64 t.x, .int .i64 t.y])).run Tryd.prog w = .ok true w := fun w => (eqS ⟨5, c, x, y⟩ t w).trans (by rw [HT.out, bareS_eqb _ (by show ¬ 5 < 1; omega) (by show ¬ 5 < 5; omega)]; simp only [hs, decide_true, decide_false, Bool.not_true, Bool.not_false])
      go_enter Tryd.func28, Tryd.ntmps28
      go_wp2_with fail
      rw [← ho]
      clear ho
      obtain ⟨r0, r1, r2, r3, r4, r5, r6⟩ := RC.out
      refine wp_region_quiet_below (by kernel_rfl) (by kernel_rfl) ?_
      repeat (go_big_quiet_step (first
        | (go_at_call 55; exact Calls.regrown_of (BA.out _))))
      refine wpQuiet_nil ?_
      intro _ hw'
      obtain ⟨⟨dq, osq⟩, hw''⟩ := hw'
      have B2 : Hid (Below w.heap.size w (Go.Sort.grow (redrawn (w.alloc o) dq) osq)) := HB.out.trans ((below_regrown (w.alloc o) dq osq).mono (by simp))
      subst hw''
      generalize Go.Sort.grow (redrawn (w.alloc o) dq) osq = W at *
      clear RC r0 r1 r2 r3 r4 r5 r6
      go_wp2
      go_ret
      exact ⟨by rw [HF.out]; rfl, B2.out⟩
  have g5 : (op != 5) = true := by simp [hd]
  by_cases hx : 0 ≤ x ∧ x < (N : Int)
  case neg =>
    have HF : Hid (stBad N ⟨op, c, x, y⟩ = 1) := stBad_range (Or.inr (Or.inr (Or.inl ⟨hd, by show x < 0 ∨ (N : Int) ≤ x; omega⟩)))
    have hxd : decide (0 ≤ x ∧ x < (N : Int)) = false := by simp only [hx, decide_false]
    go_enter Tryd.func28, Tryd.ntmps28
    go_wp2_with fail
    refine Calls.mono (HC.out _) ?_
    rintro e w1 ⟨rfl, rfl⟩
    rw [hxd]
    go_wp2
    go_ret
    exact ⟨by rw [HF.out]; rfl, by rw [← ho]; exact HB.out⟩
  have hxd : decide (0 ≤ x ∧ x < (N : Int)) = true := by simp only [hx, and_self, decide_true]
  by_cases hf : op = 2
  · subst hf
    by_cases hy : 0 ≤ y ∧ y < (N : Int)
    case neg =>
      have HF : Hid (stBad N ⟨2, c, x, y⟩ = 1) := stBad_range (Or.inr (Or.inr (Or.inr ⟨rfl, by show y < 0 ∨ (N : Int) ≤ y; omega⟩)))
      have hyd : decide (0 ≤ y ∧ y < (N : Int)) = false := by simp only [hy, decide_false]
      go_enter Tryd.func28, Tryd.ntmps28
      go_wp2_with fail
      refine Calls.mono (HC.out _) ?_
      rintro e w1 ⟨rfl, rfl⟩
      rw [hxd]
      go_wp2_with fail
      refine Calls.mono (HC.out _) ?_
      rintro e w1 ⟨rfl, rfl⟩
      rw [hyd]
      go_wp2
      go_ret
      exact ⟨by rw [HF.out]; rfl, by rw [← ho]; exact HB.out⟩
    have hyd : decide (0 ≤ y ∧ y < (N : Int)) = true := by simp only [hy, and_self, decide_true]
    have hr : ¬ stRange N ⟨2, c, x, y⟩ := by
      show ¬ ((2 : Int) < 1 ∨ (5 : Int) < 2 ∨ ((2 : Int) ≠ 5 ∧ (x < 0 ∨ (N : Int) ≤ x)) ∨ ((2 : Int) = 2 ∧ (y < 0 ∨ (N : Int) ≤ y)))
      omega
    by_cases hs : stShape ⟨2, c, x, y⟩
    · have HF : Hid (stBad N ⟨2, c, x, y⟩ = 2) := stBad_shape hr hs
      have he : ∀ w, (Op.equalIn 10000 52 (.agg #[.int .i64 2, .int .u64 c.a, .int .u64 c.b, .int .u64 c.c, .int .u64 c.d, .int .i64 x, .int .i64 y]) (.agg #[.int .i64 t.op, .int .u64 t.c.a, .int .u64 t.c.b, .int .u64 t.c.c, .int .u64 t.c.d, .int .i64 t.x, .int .i64 t.y])).run Tryd.prog w = .ok false w := fun w => (eqS ⟨2, c, x, y⟩ t w).trans (by rw [HT.out, bareS_eqb _ (by show ¬ 2 < 1; omega) (by show ¬ 5 < 2; omega)]; simp only [hs, decide_true, decide_false, Bool.not_true, Bool.not_false])
      go_enter Tryd.func28, Tryd.ntmps28
      go_wp2_with fail
      refine Calls.mono (HC.out _) ?_
      rintro e w1 ⟨rfl, rfl⟩
      rw [hxd]
      go_wp2_with fail
      refine Calls.mono (HC.out _) ?_
      rintro e w1 ⟨rfl, rfl⟩
      rw [hyd]
      go_wp2_with fail
      rw [← ho]
      clear ho
      obtain ⟨r0, r1, r2, r3, r4, r5, r6⟩ := RC.out
      refine wp_region_quiet_below (by kernel_rfl) (by kernel_rfl) ?_
      repeat (go_big_quiet_step (first
        | (go_at_call 55; exact Calls.regrown_of (BA.out _))))
      refine wpQuiet_nil ?_
      intro _ hw'
      obtain ⟨⟨dq, osq⟩, hw''⟩ := hw'
      have B2 : Hid (Below w.heap.size w (Go.Sort.grow (redrawn (w.alloc o) dq) osq)) := HB.out.trans ((below_regrown (w.alloc o) dq osq).mono (by simp))
      subst hw''
      generalize Go.Sort.grow (redrawn (w.alloc o) dq) osq = W at *
      clear RC r0 r1 r2 r3 r4 r5 r6
      go_wp2
      go_ret
      exact ⟨by rw [HF.out]; rfl, B2.out⟩
    · have HF : Hid (stBad N ⟨2, c, x, y⟩ = 0) := stBad_ok hr hs
      have he : ∀ w, (Op.equalIn 10000 52 (.agg #[.int .i64 2, .int .u64 c.a, .int .u64 c.b, .int .u64 c.c, .int .u64 c.d, .int .i64 x, .int .i64 y]) (.agg #[.int .i64 t.op, .int .u64 t.c.a, .int .u64 t.c.b, .int .u64 t.c.c, .int .u64 t.c.d, .int .i64 t.x, .int .i64 t.y])).run Tryd.prog w = .ok true w := fun w => (eqS ⟨2, c, x, y⟩ t w).trans (by rw [HT.out, bareS_eqb _ (by show ¬ 2 < 1; omega) (by show ¬ 5 < 2; omega)]; simp only [hs, decide_true, decide_false, Bool.not_true, Bool.not_false])
      go_enter Tryd.func28, Tryd.ntmps28
      go_wp2_with fail
      refine Calls.mono (HC.out _) ?_
      rintro e w1 ⟨rfl, rfl⟩
      rw [hxd]
      go_wp2_with fail
      refine Calls.mono (HC.out _) ?_
      rintro e w1 ⟨rfl, rfl⟩
      rw [hyd]
      go_wp2_with fail
      rw [← ho]
      clear ho
      obtain ⟨r0, r1, r2, r3, r4, r5, r6⟩ := RC.out
      refine wp_region_quiet_below (by kernel_rfl) (by kernel_rfl) ?_
      repeat (go_big_quiet_step (first
        | (go_at_call 55; exact Calls.regrown_of (BA.out _))))
      refine wpQuiet_nil ?_
      intro _ hw'
      obtain ⟨⟨dq, osq⟩, hw''⟩ := hw'
      have B2 : Hid (Below w.heap.size w (Go.Sort.grow (redrawn (w.alloc o) dq) osq)) := HB.out.trans ((below_regrown (w.alloc o) dq osq).mono (by simp))
      subst hw''
      generalize Go.Sort.grow (redrawn (w.alloc o) dq) osq = W at *
      clear RC r0 r1 r2 r3 r4 r5 r6
      go_wp2
      go_ret
      exact ⟨by rw [HF.out]; rfl, B2.out⟩
  have g2 : (op == 2) = false := by simp [hf]
  have hr : ¬ stRange N ⟨op, c, x, y⟩ := by
    show ¬ (op < 1 ∨ 5 < op ∨ (op ≠ 5 ∧ (x < 0 ∨ (N : Int) ≤ x)) ∨ (op = 2 ∧ (y < 0 ∨ (N : Int) ≤ y)))
    omega
  by_cases hs : stShape ⟨op, c, x, y⟩
  · have HF : Hid (stBad N ⟨op, c, x, y⟩ = 2) := stBad_shape hr hs
    have he : ∀ w, (Op.equalIn 10000 52 (.agg #[.int .i64 op, .int .u64 c.a, .int .u64 c.b, .int .u64 c.c, .int .u64 c.d, .int .i64 x, .int .i64 y]) (.agg #[.int .i64 t.op, .int .u64 t.c.a, .int .u64 t.c.b, .int .u64 t.c.c, .int .u64 t.c.d, .int .i64 t.x, .int .i64 t.y])).run Tryd.prog w = .ok false w := fun w => (eqS ⟨op, c, x, y⟩ t w).trans (by rw [HT.out, bareS_eqb _ (by show ¬ op < 1; omega) (by show ¬ 5 < op; omega)]; simp only [hs, decide_true, decide_false, Bool.not_true, Bool.not_false])
    go_enter Tryd.func28, Tryd.ntmps28
    go_wp2_with fail
    refine Calls.mono (HC.out _) ?_
    rintro e w1 ⟨rfl, rfl⟩
    rw [hxd]
    go_wp2_with fail
    rw [← ho]
    clear ho
    obtain ⟨r0, r1, r2, r3, r4, r5, r6⟩ := RC.out
    refine wp_region_quiet_below (by kernel_rfl) (by kernel_rfl) ?_
    repeat (go_big_quiet_step (first
      | (go_at_call 55; exact Calls.regrown_of (BA.out _))))
    refine wpQuiet_nil ?_
    intro _ hw'
    obtain ⟨⟨dq, osq⟩, hw''⟩ := hw'
    have B2 : Hid (Below w.heap.size w (Go.Sort.grow (redrawn (w.alloc o) dq) osq)) := HB.out.trans ((below_regrown (w.alloc o) dq osq).mono (by simp))
    subst hw''
    generalize Go.Sort.grow (redrawn (w.alloc o) dq) osq = W at *
    clear RC r0 r1 r2 r3 r4 r5 r6
    go_wp2
    go_ret
    exact ⟨by rw [HF.out]; rfl, B2.out⟩
  · have HF : Hid (stBad N ⟨op, c, x, y⟩ = 0) := stBad_ok hr hs
    have he : ∀ w, (Op.equalIn 10000 52 (.agg #[.int .i64 op, .int .u64 c.a, .int .u64 c.b, .int .u64 c.c, .int .u64 c.d, .int .i64 x, .int .i64 y]) (.agg #[.int .i64 t.op, .int .u64 t.c.a, .int .u64 t.c.b, .int .u64 t.c.c, .int .u64 t.c.d, .int .i64 t.x, .int .i64 t.y])).run Tryd.prog w = .ok true w := fun w => (eqS ⟨op, c, x, y⟩ t w).trans (by rw [HT.out, bareS_eqb _ (by show ¬ op < 1; omega) (by show ¬ 5 < op; omega)]; simp only [hs, decide_true, decide_false, Bool.not_true, Bool.not_false])
    go_enter Tryd.func28, Tryd.ntmps28
    go_wp2_with fail
    refine Calls.mono (HC.out _) ?_
    rintro e w1 ⟨rfl, rfl⟩
    rw [hxd]
    go_wp2_with fail
    rw [← ho]
    clear ho
    obtain ⟨r0, r1, r2, r3, r4, r5, r6⟩ := RC.out
    refine wp_region_quiet_below (by kernel_rfl) (by kernel_rfl) ?_
    repeat (go_big_quiet_step (first
      | (go_at_call 55; exact Calls.regrown_of (BA.out _))))
    refine wpQuiet_nil ?_
    intro _ hw'
    obtain ⟨⟨dq, osq⟩, hw''⟩ := hw'
    have B2 : Hid (Below w.heap.size w (Go.Sort.grow (redrawn (w.alloc o) dq) osq)) := HB.out.trans ((below_regrown (w.alloc o) dq osq).mono (by simp))
    subst hw''
    generalize Go.Sort.grow (redrawn (w.alloc o) dq) osq = W at *
    clear RC r0 r1 r2 r3 r4 r5 r6
    go_wp2
    go_ret
    exact ⟨by rw [HF.out]; rfl, B2.out⟩
end Go.Proofs.YtgnmlnfddcnkbaaDoor
namespace Go.Proofs.YtgnmlnfddcnkbaaDoor
set_option linter.unusedSimpArgs false
set_option linter.unusedVariables false
set_option maxRecDepth 100000
open Go.RowKit
theorem pcheck_full (ss : List St) (v : Value) (w : World) (h : SsIn w v ss) (h200 : 200 < ss.length) :
    Calls Tryd.prog 11 #[v] w fun e w' => e = .returned (errV (stepsF ss)) ∧ Below w.heap.size w w' := by
  obtain ⟨a, cap, rfl, hm⟩ := ssIn_form h
  unfold maxLen at hm
  have g200 : (200 : Int) < (ss.length : Int) := by omega
  have HF : Hid (stepsF ss = 3) := by show _ = _; rw [stepsF, if_pos h200]
  clear h
  go_enter Tryd.func11, Tryd.ntmps11
  go_wp2
  go_ret
  exact ⟨by rw [HF.out]; rfl, (Below.refl _ _).alloc (Nat.le_refl _) _⟩
theorem pcheck_none (v : Value) (w : World) (h : SsIn w v []) :
    Calls Tryd.prog 11 #[v] w fun e w' => e = .returned (errV (stepsF [])) ∧ Below w.heap.size w w' := by
  obtain ⟨a, cap, rfl, hm⟩ := ssIn_form h
  simp only [List.length_nil]
  clear h
  go_enter Tryd.func11, Tryd.ntmps11
  go_wp2
  go_ret
  exact ⟨rfl, (Below.refl _ _).alloc (Nat.le_refl _) _⟩
set_option maxHeartbeats 4000000 in
theorem pcheck_at (ss : List St) (b off cap : Nat) (w : World) (hlt : b < w.heap.size) (hN : SsAt w b off ss) (h0 : 0 < ss.length) (h200 : ¬ 200 < ss.length) :
    Calls Tryd.prog 11 #[.slice (some ⟨b, off, none⟩) ss.length cap] w fun e w' => e = .returned (errV (stepsF ss)) ∧ Below w.heap.size w w' := by
  have g200 : (ss.length : Int) ≤ 200 := by omega
  have z0 : ((ss.length : Int) == 0) = false := by rw [beq_eq_false_iff_ne]; omega
  obtain ⟨o, ho⟩ : ∃ o : Obj, o = .cells #[.slice (some ⟨b, off, none⟩) ss.length cap] 23 := ⟨_, rfl⟩
  have hcell : (w.alloc o).cell? ⟨w.heap.size, 0, none⟩ = some (.slice (some ⟨b, off, none⟩) ss.length cap) := by rw [ho]; simp
  have hB0 : Below w.heap.size w (w.alloc o) := (Below.refl _ _).alloc (Nat.le_refl _) _
  have HCK : Hid (∀ (W : World) (n : St), Below (w.alloc o).heap.size (w.alloc o) W → Calls Tryd.prog 28 #[n.v, isV w.heap.size] W fun e w' => e = .returned (errV (stBad ss.length n)) ∧ Below W.heap.size W w') := fun W n hW =>
    checkStep_any ss.length (by omega) n w.heap.size _ cap W ((hW.cell (p := ⟨w.heap.size, 0, none⟩) (by simp)).trans hcell)
  have HN : Hid (SsAt (w.alloc o) b off ss) := hN.below hB0 hlt
  have HFZ : Hid (stScan ss.length ss = stepsF ss) := by show _ = _; rw [stepsF, if_neg h200, if_neg (by omega)]
  clear hcell hN
  go_enter Tryd.func11, Tryd.ntmps11
  go_wp2_with fail
  rw [← ho]
  clear ho
  go_loopw [18] (fun v wr => ∃ i : Nat, i ≤ ss.length ∧ v = .int .i64 i ∧ Hid (stScan ss.length ss = stScan ss.length (ss.drop i)) ∧ Hid (Below (w.alloc o).heap.size (w.alloc o) wr)) (fun v _ => ss.length - (intOf v).toNat)
  case atStart => exact ⟨0, by omega, rfl, Eq.refl _, Below.refl _ _⟩
  case round =>
    obtain ⟨i, hi, rfl, HS, HB⟩ := hrel
    by_cases hil : i < ss.length
    · obtain ⟨n, hn⟩ : ∃ n, ss[i]? = some n := ⟨ss[i], List.getElem?_eq_getElem hil⟩
      obtain ⟨c0, c1, c2, c3, c4, c5, c6⟩ := (HN.out.below HB.out (by simp; omega)) i n hn
      have hlt1 : (i : Int) < (ss.length : Int) := by omega
      have HSD := hid (stScan_drop ss.length ss i n hn)
      go_wp2_with fail
      refine Calls.mono (HCK.out _ n (HB.out.alloc HB.out.size _)) ?_
      rintro e w1 ⟨rfl, hb1⟩
      have B1 : Hid (Below (w.alloc o).heap.size (w.alloc o) w1) := (HB.out.alloc HB.out.size _).trans (hb1.mono (by have := HB.out.size; simp at this ⊢; omega))
      by_cases hz : stBad ss.length n = 0
      · have HS2 : Hid (stScan ss.length ss = stScan ss.length (ss.drop (i + 1))) := by show _ = _; rw [HS.out, HSD.out, if_pos hz]
        have e0 : errV (stBad ss.length n) = .nilIface := by rw [hz]; rfl
        rw [e0]
        clear hb1 c0 c1 c2 c3 c4 c5 c6 e0 hz
        go_wp2
        exact ⟨⟨i + 1, by omega, by go_num, HS2, B1⟩, by simp [intOf]; omega⟩
      · have HS2 : Hid (stepsF ss = stBad ss.length n) := by show _ = _; rw [← HFZ.out, HS.out, HSD.out, if_neg hz]
        have e0 : errV (stBad ss.length n) = .iface 45 (.int .i64 (stBad ss.length n)) := by unfold errV; rw [if_neg hz]
        rw [e0]
        clear hb1 c0 c1 c2 c3 c4 c5 c6
        go_wp2
        go_ret
        refine ⟨by rw [HS2.out, e0]; rfl, hB0.trans (B1.out.mono (by simp))⟩
    · have he : i = ss.length := by omega
      have hg1 : ¬ (i : Int) < (ss.length : Int) := by omega
      have HE : Hid (stepsF ss = 0) := by
        show _ = _
        rw [← HFZ.out, HS.out, he, List.drop_length]
        rfl
      go_wp2
      go_ret
      exact ⟨by rw [HE.out]; rfl, hB0.trans (HB.out.mono (by simp))⟩
theorem pcheck_any (ss : List St) (v : Value) (w : World) (h : SsIn w v ss) :
    Calls Tryd.prog 11 #[v] w fun e w' => e = .returned (errV (stepsF ss)) ∧ Below w.heap.size w w' := by
  by_cases h200 : 200 < ss.length
  · exact pcheck_full ss v w h h200
  rcases Nat.eq_zero_or_pos ss.length with h0 | h0
  · have e : ss = [] := List.eq_nil_of_length_eq_zero h0
    subst e
    exact pcheck_none v w h
  · obtain ⟨a, cap, rfl, hm, h | ⟨b, off, rfl, hlt, hn⟩⟩ := h
    · subst h
      simp at h0
    · exact pcheck_at ss b off cap w hlt hn h0 h200
end Go.Proofs.YtgnmlnfddcnkbaaDoor
namespace Go.Proofs.YtgnmlnfddcnkbaaDoor
set_option linter.unusedSimpArgs false
set_option linter.unusedVariables false
set_option maxRecDepth 100000
open Go.RowKit
set_option maxHeartbeats 1000000 in
theorem ints_len (x y : List Nat) (a1 a2 : Option Addr) (c1 c2 : Nat) (h1 : x.length ≤ maxLen) (h2 : y.length ≤ maxLen) (hne : x.length ≠ y.length) (w : World) :
    Calls Tryd.prog 10 #[.slice a1 x.length c1, .slice a2 y.length c2] w fun e w' => e = .returned (.bool (x == y)) ∧ Below w.heap.size w w' := by
  have e : (x == y) = false := by
    rw [beq_eq_false_iff_ne]
    intro e
    exact hne (by rw [e])
  rw [e]
  have hb : ((x.length : Int) != (y.length : Int)) = true := by rw [bne_iff_ne]; omega
  clear hne e
  go_enter Tryd.func10, Tryd.ntmps10
  go_wp2
  go_ret
  exact ⟨rfl, Below.refl _ _⟩
set_option maxHeartbeats 4000000 in
theorem ints_same (x y : List Nat) (b1 o1 b2 o2 : Nat) (c1 c2 : Nat) (h1 : x.length ≤ maxLen) (hlen : x.length = y.length) (w : World) (hl1 : b1 < w.heap.size) (hl2 : b2 < w.heap.size) (hx : IsAt w b1 o1 x) (hy : IsAt w b2 o2 y) :
    Calls Tryd.prog 10 #[.slice (some ⟨b1, o1, none⟩) x.length c1, .slice (some ⟨b2, o2, none⟩) x.length c2] w fun e w' => e = .returned (.bool (x == y)) ∧ Below w.heap.size w w' := by
  unfold maxLen at h1
  have HL := (show Hid _ from hlen)
  clear hlen
  go_enter Tryd.func10, Tryd.ntmps10
  go_wp2
  go_loopw [5] (fun v wr => ∃ i : Nat, i ≤ x.length ∧ v = .int .i64 i ∧ Hid ((x == y) = (x.drop i == y.drop i)) ∧ Below w.heap.size w wr) (fun v _ => x.length - (intOf v).toNat)
  case atStart => exact ⟨0, by omega, rfl, Eq.refl _, Below.refl _ _⟩
  case round =>
    obtain ⟨i, hi, rfl, HS, hB⟩ := hrel
    by_cases hil : i < x.length
    · obtain ⟨n, hn⟩ : ∃ n, x[i]? = some n := ⟨x[i], List.getElem?_eq_getElem hil⟩
      obtain ⟨m, hm⟩ : ∃ m, y[i]? = some m := ⟨y[i]'(by rw [← HL.out]; exact hil), List.getElem?_eq_getElem (by rw [← HL.out]; exact hil)⟩
      have a0 := (hx.below hB hl1) i n hn
      have d0 := (hy.below hB hl2) i m hm
      have HD : Hid ((x.drop i == y.drop i) = (n == m && x.drop (i + 1) == y.drop (i + 1))) := by show _ = _; rw [drop_at x i n hn, drop_at y i m hm]; rfl
      have i0 : (0 : Int) ≤ (i : Int) := by omega
      have i1 : (i : Int) < (x.length : Int) := by omega
      clear hn hm
      by_cases hq : n = m
      · subst hq
        have HF : Hid ((x == y) = (x.drop (i + 1) == y.drop (i + 1))) := by show _ = _; rw [HS.out, HD.out]; simp
        go_wp2_with fail
        try go_quiet (fail)
        go_wp2
        exact ⟨⟨i + 1, by omega, by go_num, HF, by first | exact hB | exact hB.trans ((below_drewN' wr _).mono hB.size)⟩, by simp [intOf]; omega⟩
      · have HF : Hid ((x == y) = false) := by show _ = _; rw [HS.out, HD.out]; simp [hq]
        have pq : ((n : Int) != (m : Int)) = true := by rw [bne_iff_ne]; omega
        clear hq
        go_wp2_with fail
        try go_quiet (fail)
        go_wp2
        go_ret
        exact ⟨by rw [HF.out]; rfl, by first | exact hB | exact hB.trans ((below_drewN' wr _).mono hB.size)⟩
    · have HF : Hid ((x == y) = true) := by
        show _ = _
        have e1 : x.drop i = [] := List.drop_eq_nil_of_le (by omega)
        have e2 : y.drop i = [] := List.drop_eq_nil_of_le (by have := HL.out; omega)
        rw [HS.out, e1, e2]; rfl
      go_wp2
      go_ret
      exact ⟨by rw [HF.out]; rfl, hB⟩
set_option maxHeartbeats 1000000 in
theorem ints_nil (a1 a2 : Option Addr) (c1 c2 : Nat) (w : World) :
    Calls Tryd.prog 10 #[.slice a1 0 c1, .slice a2 0 c2] w fun e w' => e = .returned (.bool true) ∧ Below w.heap.size w w' := by
  go_enter Tryd.func10, Tryd.ntmps10
  go_wp2
  go_loop [5] (fun v => v = .int .i64 0) (fun _ => 0)
  case atStart => rfl
  case round =>
    subst hrel
    go_wp2
    go_ret
    exact ⟨rfl, Below.refl _ _⟩
theorem ints_any (x y : List Nat) (v u : Value) (w : World) (hx : IsIn w v x) (hy : IsIn w u y) :
    Calls Tryd.prog 10 #[v, u] w fun e w' => e = .returned (.bool (x == y)) ∧ Below w.heap.size w w' := by
  obtain ⟨a1, c1, rfl, h1, hx⟩ := hx
  obtain ⟨a2, c2, rfl, h2, hy⟩ := hy
  by_cases hlen : x.length = y.length
  · rcases hx with hx | ⟨b1, o1, rfl, hl1, hx⟩
    · subst hx
      have : y = [] := List.eq_nil_of_length_eq_zero (by simpa using hlen.symm)
      subst this
      exact ints_nil a1 a2 c1 c2 w
    · rcases hy with hy | ⟨b2, o2, rfl, hl2, hy⟩
      · subst hy
        have : x = [] := List.eq_nil_of_length_eq_zero (by simpa using hlen)
        subst this
        exact ints_nil _ a2 c1 c2 w
      · rw [← hlen]
        exact ints_same x y b1 o1 b2 o2 c1 c2 h1 hlen w hl1 hl2 hx hy
  · exact ints_len x y a1 a2 c1 c2 h1 h2 hlen w
end Go.Proofs.YtgnmlnfddcnkbaaDoor
