/- Package mean: sets of places: with, has, joined, when. What is known, in a map: spots and sets of places. Package mean: a set of places hands on its places, rising. The reader of package mean in memory, and what is asked of its calls. What rex.End answers: plain mathematics. Package rex: End. Package mean: second, reading, check. Package mean: look, at the leaves but Byte. (Made by wip/tools/genlk.py.) -/
import Derived.Test.YteeamifjldoihaaDoorY14
import Derived.DeepKeys4
import Derived.Maps.OwnSet
import Derived.Maps.Range
import Derived.Test.YteeamifjldoihaaDoorY03
import Derived.Test.YteeamifjldoihaaDoorY06
import Derived.Test.YteeamifjldoihaaDoorY07
import Derived.Test.YteeamifjldoihaaDoorY02
import Derived.Test.YteeamifjldoihaaDoorY12
import Derived.Test.YteeamifjldoihaaDoorY13
namespace Go.Proofs.YteeamifjldoihaaDoor
set_option linter.unusedSimpArgs false
set_option linter.unusedVariables false
set_option maxRecDepth 100000
open Go.RowKit

theorem td64 (a : Nat) : (a : Int).tdiv 64 = ((a / 64 : Nat) : Int) := by
  rw [Int.tdiv_eq_ediv_of_nonneg (by omega)]; omega
theorem tm64 (a : Nat) : (a : Int).tmod 64 = ((a % 64 : Nat) : Int) := by
  rw [Int.tmod_eq_emod_of_nonneg (by omega)]; omega
set_option maxHeartbeats 400000 in
theorem phas_any (p : Nat → Bool) (a : Nat) (ha : a < 448) (w : World) :
    Calls Tryd.prog 29 #[plV p, .int .i64 (a : Int)] w fun e w' => e = .returned (.bool (p a)) ∧ Below w.heap.size w w' := by
  have hw := (Hp.new w p _ rfl).cell (a / 64) (by omega)
  have h1 := td64 a
  have h2 := tm64 a
  have hx := has_word p a
  unfold plV
  go_enter Tryd.func29, Tryd.ntmps29
  go_wp2
  go_ret
  exact ⟨rfl, (Below.refl _ _).alloc (Nat.le_refl _) _⟩
set_option maxHeartbeats 400000 in
theorem pwith_any (p : Nat → Bool) (a : Nat) (ha : a < 448) (w : World) :
    Calls Tryd.prog 69 #[plV p, .int .i64 (a : Int)] w fun e w' => e = .returned (plV (withP p a)) ∧ Below w.heap.size w w' := by
  have h1 := td64 a
  have h2 := tm64 a
  have i0 : (0 : Int) ≤ (a : Int) / 64 := by omega
  have i1 : (a : Int) / 64 < 7 := by omega
  have i2 : ((a : Int) / 64).toNat = a / 64 := by omega
  have i3 : ((a : Int) % 64).toNat = a % 64 := by omega
  have i4 : (0 : Int) ≤ (a : Int) % 64 := by omega
  obtain ⟨w0, hw0⟩ : ∃ w0, w0 = (w.alloc (.cells #[.int .u64 (wd p 0), .int .u64 (wd p 1), .int .u64 (wd p 2), .int .u64 (wd p 3), .int .u64 (wd p 4), .int .u64 (wd p 5), .int .u64 (wd p 6)] 72)).alloc (.cells #[.int .u64 0, .int .u64 0, .int .u64 0, .int .u64 0, .int .u64 0, .int .u64 0, .int .u64 0] 72) := ⟨_, rfl⟩
  have hP : Hp w0 w.heap.size p := by rw [hw0]; exact (Hp.new w p _ rfl).alloc _
  have hZ : Hp w0 (w.heap.size + 1) noP := by rw [hw0]; exact Hp.zero _ _ (by simp)
  have hB : Below w.heap.size w w0 := by rw [hw0]; exact ((Below.refl _ w).alloc (Nat.le_refl _) _).alloc (by simp) _
  have hc := hP.cell (a / 64) (by omega)
  have hf := hP.frozen (a / 64)
  unfold plV
  go_enter Tryd.func69, Tryd.ntmps69
  go_wp2_with fail
  rw [← hw0]
  clear hw0
  go_region
  have hP1 : Hp (w0.setCell ⟨w.heap.size, a / 64, none⟩ (.int .u64 (bits .or .u64 (wd p (a / 64)) (IntKind.u64.wrap (2 ^ (a % 64)))))).drew w.heap.size (withP p a) := (hP.store (a / 64) (by omega) _ (with_set p a ha)).drew
  have hZ1 : Hp (w0.setCell ⟨w.heap.size, a / 64, none⟩ (.int .u64 (bits .or .u64 (wd p (a / 64)) (IntKind.u64.wrap (2 ^ (a % 64)))))).drew (w.heap.size + 1) noP := (hZ.other _ _ (by simp)).drew
  have hB1 : Below w.heap.size w (w0.setCell ⟨w.heap.size, a / 64, none⟩ (.int .u64 (bits .or .u64 (wd p (a / 64)) (IntKind.u64.wrap (2 ^ (a % 64)))))).drew := (hB.setCell (Nat.le_refl _) _).drew
  generalize (w0.setCell ⟨w.heap.size, a / 64, none⟩ (.int .u64 (bits .or .u64 (wd p (a / 64)) (IntKind.u64.wrap (2 ^ (a % 64)))))).drew = w1 at hP1 hZ1 hB1 ⊢
  clear hP hZ hB hc hf
  obtain ⟨c0, c1, c2, c3, c4, c5, c6⟩ := hP1.all
  obtain ⟨d0, d1, d2, d3, d4, d5, d6⟩ := hZ1.all
  obtain ⟨f0, f1, f2, f3, f4, f5, f6⟩ := hZ1.frz
  go_wp2
  have hq := hZ1.put7 (withP p a)
  obtain ⟨e0, e1, e2, e3, e4, e5, e6⟩ := hq.all
  refine bodyPost_ret (v := plV (withP p a)) (by simp [results, Tryd.results69, go_sem, plV, e0, e1, e2, e3, e4, e5, e6]) rfl ⟨rfl, ?_⟩
  exact below_put7 hB1 (by omega) _
set_option maxHeartbeats 400000 in
theorem pwhen_any (so : Bool) (a : Nat) (ha : a < 448) (w : World) :
    Calls Tryd.prog 65 #[.bool so, .int .i64 (a : Int)] w fun e w' => e = .returned (plV (whenP so a)) ∧ Below w.heap.size w w' := by
  have hZ : Hp (w.alloc (.cells #[.int .u64 0, .int .u64 0, .int .u64 0, .int .u64 0, .int .u64 0, .int .u64 0, .int .u64 0] 72)) w.heap.size noP := Hp.zero _ _ rfl
  have hB : Below w.heap.size w (w.alloc (.cells #[.int .u64 0, .int .u64 0, .int .u64 0, .int .u64 0, .int .u64 0, .int .u64 0, .int .u64 0] 72)) := (Below.refl _ w).alloc (Nat.le_refl _) _
  have hs : w.heap.size < (w.alloc (.cells #[.int .u64 0, .int .u64 0, .int .u64 0, .int .u64 0, .int .u64 0, .int .u64 0, .int .u64 0] 72)).heap.size := by simp
  have hwd : plV noP = .agg #[.int .u64 0, .int .u64 0, .int .u64 0, .int .u64 0, .int .u64 0, .int .u64 0, .int .u64 0] := by
    unfold plV
    rw [wd_no, wd_no, wd_no, wd_no, wd_no, wd_no, wd_no]
  have C : Hid _ := pwith_any noP a ha
  cases so with
  | false =>
    go_enter Tryd.func65, Tryd.ntmps65
    go_wp2_with fail
    refine bodyPost_ret (v := plV (whenP false a)) (by rw [when_false, hwd]; simp [results, Tryd.results65, go_sem]) rfl ⟨rfl, ?_⟩
    exact hB
  | true =>
    go_enter Tryd.func65, Tryd.ntmps65
    go_wp2_with fail
    rw [← hwd]
    refine (C.out _).mono ?_
    rintro e w1 ⟨rfl, hb⟩
    have hZ1 := hZ.below hb hs
    have hB1 : Below w.heap.size w w1 := hB.trans (hb.mono (by simp))
    clear C hZ hB
    obtain ⟨d0, d1, d2, d3, d4, d5, d6⟩ := hZ1.all
    obtain ⟨f0, f1, f2, f3, f4, f5, f6⟩ := hZ1.frz
    unfold plV
    go_wp2
    have hq := hZ1.put7 (withP noP a)
    obtain ⟨e0, e1, e2, e3, e4, e5, e6⟩ := hq.all
    refine bodyPost_ret (v := plV (withP noP a)) (by simp [results, Tryd.results65, go_sem, plV, e0, e1, e2, e3, e4, e5, e6]) rfl ⟨by rw [when_true], ?_⟩
    exact below_put7 hB1 (by omega) _
theorem idx7_0 (a0 a1 a2 a3 a4 a5 a6 : Int) (w : World) : (Instr.index 70 (.agg #[.int .u64 a0, .int .u64 a1, .int .u64 a2, .int .u64 a3, .int .u64 a4, .int .u64 a5, .int .u64 a6]) (.int .i64 0)).run Tryd.prog w = .ok (.int .u64 a0) w := by kernel_rfl
theorem idx7_1 (a0 a1 a2 a3 a4 a5 a6 : Int) (w : World) : (Instr.index 70 (.agg #[.int .u64 a0, .int .u64 a1, .int .u64 a2, .int .u64 a3, .int .u64 a4, .int .u64 a5, .int .u64 a6]) (.int .i64 1)).run Tryd.prog w = .ok (.int .u64 a1) w := by kernel_rfl
theorem idx7_2 (a0 a1 a2 a3 a4 a5 a6 : Int) (w : World) : (Instr.index 70 (.agg #[.int .u64 a0, .int .u64 a1, .int .u64 a2, .int .u64 a3, .int .u64 a4, .int .u64 a5, .int .u64 a6]) (.int .i64 2)).run Tryd.prog w = .ok (.int .u64 a2) w := by kernel_rfl
theorem idx7_3 (a0 a1 a2 a3 a4 a5 a6 : Int) (w : World) : (Instr.index 70 (.agg #[.int .u64 a0, .int .u64 a1, .int .u64 a2, .int .u64 a3, .int .u64 a4, .int .u64 a5, .int .u64 a6]) (.int .i64 3)).run Tryd.prog w = .ok (.int .u64 a3) w := by kernel_rfl
theorem idx7_4 (a0 a1 a2 a3 a4 a5 a6 : Int) (w : World) : (Instr.index 70 (.agg #[.int .u64 a0, .int .u64 a1, .int .u64 a2, .int .u64 a3, .int .u64 a4, .int .u64 a5, .int .u64 a6]) (.int .i64 4)).run Tryd.prog w = .ok (.int .u64 a4) w := by kernel_rfl
theorem idx7_5 (a0 a1 a2 a3 a4 a5 a6 : Int) (w : World) : (Instr.index 70 (.agg #[.int .u64 a0, .int .u64 a1, .int .u64 a2, .int .u64 a3, .int .u64 a4, .int .u64 a5, .int .u64 a6]) (.int .i64 5)).run Tryd.prog w = .ok (.int .u64 a5) w := by kernel_rfl
theorem idx7_6 (a0 a1 a2 a3 a4 a5 a6 : Int) (w : World) : (Instr.index 70 (.agg #[.int .u64 a0, .int .u64 a1, .int .u64 a2, .int .u64 a3, .int .u64 a4, .int .u64 a5, .int .u64 a6]) (.int .i64 6)).run Tryd.prog w = .ok (.int .u64 a6) w := by kernel_rfl
/-- A word of seven. -/
theorem idx7 (q : Nat → Bool) (k : Nat) (hk : k < 7) (w : World) : (Instr.index 70 (.agg #[.int .u64 (wd q 0), .int .u64 (wd q 1), .int .u64 (wd q 2), .int .u64 (wd q 3), .int .u64 (wd q 4), .int .u64 (wd q 5), .int .u64 (wd q 6)]) (.int .i64 (k : Int))).run Tryd.prog w = .ok (.int .u64 (wd q k)) w := by
  rcases (by omega : k = 0 ∨ k = 1 ∨ k = 2 ∨ k = 3 ∨ k = 4 ∨ k = 5 ∨ k = 6) with rfl | rfl | rfl | rfl | rfl | rfl | rfl
  · exact idx7_0 _ _ _ _ _ _ _ w
  · exact idx7_1 _ _ _ _ _ _ _ w
  · exact idx7_2 _ _ _ _ _ _ _ w
  · exact idx7_3 _ _ _ _ _ _ _ w
  · exact idx7_4 _ _ _ _ _ _ _ w
  · exact idx7_5 _ _ _ _ _ _ _ w
  · exact idx7_6 _ _ _ _ _ _ _ w
set_option maxHeartbeats 1000000 in
theorem pjoined_any (p q : Nat → Bool) (w : World) :
    Calls Tryd.prog 68 #[plV p, plV q] w fun e w' => e = .returned (plV (joinP p q)) ∧ Below w.heap.size w w' := by
  unfold plV
  go_enter Tryd.func68, Tryd.ntmps68
  go_wp2
  go_loopw [9] (fun i wr => ∃ k : Nat, k ≤ 7 ∧ i = .int .i64 k ∧ Below w.heap.size w wr ∧ Hp wr w.heap.size (joinK p q k) ∧ Hp wr (w.heap.size + 1 + 1) noP) (fun i _ => 7 - (intOf i).toNat)
  case atStart =>
    refine ⟨0, by omega, rfl, ?_, ?_, ?_⟩
    · exact (((Below.refl _ _).alloc (Nat.le_refl _) _).alloc (by simp) _).alloc (by simp; omega) _
    · rw [joinK_zero]; exact ((Hp.new _ p _ rfl).alloc _).alloc _
    · exact Hp.zero _ _ (by simp)
  case round =>
    obtain ⟨k, hk, rfl, hB, hJ, hZ⟩ := hrel
    by_cases hlt : k < 7
    · have cj := hJ.cell k hlt
      have fj := hJ.frozen k
      have i0 : (0 : Int) ≤ (k : Int) := by omega
      have i1 : (k : Int) < 7 := by omega
      have hqk := idx7 q k hlt
      go_wp2_with fail
      refine ⟨⟨k + 1, by omega, by go_num, hB.setCell (Nat.le_refl _) _, hJ.store k hlt _ (join_set p q k hlt), hZ.other _ _ (by simp only; omega)⟩, by simp [intOf]; omega⟩
    · have hk7 : k = 7 := by omega
      subst hk7
      obtain ⟨c0, c1, c2, c3, c4, c5, c6⟩ := hJ.all
      obtain ⟨d0, d1, d2, d3, d4, d5, d6⟩ := hZ.all
      obtain ⟨f0, f1, f2, f3, f4, f5, f6⟩ := hZ.frz
      go_wp2
      have hq := hZ.put7 (joinP p q)
      have e7 := joinK_end p q
      unfold cellsP at e7
      simp only [List.cons.injEq, Value.int.injEq, true_and, and_true] at e7
      obtain ⟨g0, g1, g2, g3, g4, g5, g6⟩ := e7
      rw [g0, g1, g2, g3, g4, g5, g6]
      obtain ⟨e0, e1, e2, e3, e4, e5, e6⟩ := hq.all
      refine bodyPost_ret (v := plV (joinP p q)) (by simp [results, Tryd.results68, go_sem, plV, e0, e1, e2, e3, e4, e5, e6]) rfl ⟨rfl, ?_⟩
      exact below_put7 hB (by omega) _
end Go.Proofs.YteeamifjldoihaaDoor
namespace Go.Proofs.YteeamifjldoihaaDoor
set_option linter.unusedSimpArgs false
set_option linter.unusedVariables false
set_option maxRecDepth 100000
open Go.RowKit

/-- A spot as a value and as a key. -/
def spotV (i a : Nat) : Value := .agg #[.int .i64 (i : Int), .int .i64 (a : Int)]
def spotL (i a : Nat) : Lit := .string (keyBytes [.int .i64 (i : Int), .int .i64 (a : Int)])
theorem spot_row : (102 : TypeId) < Tryd.prog.types.size := of_decide_eq_true (by kernel_rfl)
theorem spot_laid : laidOutB Tryd.prog = true := by kernel_rfl
theorem spot_wide : (match Tryd.prog.underlying 102 with | some (.array _ _) | some (.struct _) => true | _ => false) = true := by kernel_rfl
theorem spot_keyed : Maps.Keyed Tryd.prog 102 := Maps.Keyed.of_law (deep_law_laid spot_laid (m := 2) (by omega) spot_row (by kernel_rfl) spot_wide)
theorem spot_key (i a : Nat) (hi : i < 1000000) (ha : a < 1000000) : keyOf Tryd.prog 102 (spotV i a) = some (spotL i a) := by
  have hk : Tryd.prog.keyType 102 = true := by kernel_rfl
  have hf : (spotV i a).formed Tryd.prog 102 = true := by
    unfold spotV
    kernel_rfl
  obtain ⟨d, hd⟩ : ∃ d, Tryd.prog.types.size = d + 1 := ⟨Tryd.prog.types.size - 1, (Nat.sub_add_cancel (Nat.lt_of_le_of_lt (Nat.zero_le _) spot_row)).symm⟩
  have wi : (Lit.int .i64 (i : Int)).wf = true := WalkArith.wf_i64 (by omega)
  have wa : (Lit.int .i64 (a : Int)).wf = true := WalkArith.wf_i64 (by omega)
  have hc : Tryd.prog.cellsOf 102 = 2 := by kernel_rfl
  have hc1 : Tryd.prog.cellsOf 3 = 1 := by kernel_rfl
  unfold keyOf
  rw [Tryd.underlying102]
  simp only [hk, hf, Bool.and_self, if_true, hd]
  simp [spotV, spotL, Value.cells, Program.keyLits, Tryd.underlying102, Tryd.underlying3, hc, hc1, wi, wa]
/-- How an element of the map reads: as itself. -/
def rv (v : Value) : Option (DataW Value × List MemPlace) := some (.held v, [])
theorem zero_places (w : World) : (zeroValue 72).run Tryd.prog w = .ok (.agg #[.int .u64 0, .int .u64 0, .int .u64 0, .int .u64 0, .int .u64 0, .int .u64 0, .int .u64 0]) w := by kernel_rfl
/-- The map in block M holds at spots i a values x with ok i a x alone. -/
def Kn (w : World) (M : Nat) (ok : Nat → Nat → Value → Prop) : Prop :=
  ∃ D : DataW Value, w.ownsMap Tryd.prog 102 rv M (Maps.size D) D ∧ ∀ kl, Maps.has D kl = true → ∃ i a x, i < 60 ∧ a < 401 ∧ kl = spotL i a ∧ ok i a x ∧ ∀ z, D.atKey kl z = .held x
theorem Kn.made (w : World) (ok : Nat → Nat → Value → Prop) : Kn (w.alloc (.map #[] 0)) w.heap.size ok :=
  ⟨.map [], World.ownsMap_made w _ _ _, fun kl h => by simp [Maps.has] at h⟩
theorem Kn.lt {w : World} {M : Nat} {ok : Nat → Nat → Value → Prop} (h : Kn w M ok) : M < w.heap.size := by
  obtain ⟨D, h, _⟩ := h
  exact h.lt
theorem Kn.kept {w w' : World} {M : Nat} {ok : Nat → Nat → Value → Prop} {row : Option Nat} (h : Kn w M ok) (hg : w.grownBy w' row) (hne : some M ≠ row) : Kn w' M ok := by
  obtain ⟨D, h, hk⟩ := h
  exact ⟨D, h.kept hg hne, hk⟩
theorem Kn.heap {w : World} {M : Nat} {ok : Nat → Nat → Value → Prop} (h : Kn w M ok) : ∃ es clock, w.heap[M]? = some (.map es clock) := by
  obtain ⟨D, ⟨es, clock, hb, _⟩, _⟩ := h
  exact ⟨es, clock, hb⟩
theorem spot_inj {i a j b : Nat} (hi : i < 1000000) (ha : a < 1000000) (hj : j < 1000000) (hb : b < 1000000) (h : spotL i a = spotL j b) : i = j ∧ a = b := by
  have h1 := spot_key i a hi ha
  have h2 := spot_key j b hj hb
  rw [h] at h1
  have := spot_keyed.inj h1 h2
  unfold spotV at this
  simp at this
  omega
/-- What is looked up. -/
theorem Kn.look {w : World} {M : Nat} {ok : Nat → Nat → Value → Prop} (h : Kn w M ok) (i a : Nat) (hi : i < 60) (ha : a < 401) :
    (∃ x, ok i a x ∧ ∀ w' : World, w'.heap[M]? = w.heap[M]? → (Instr.lookup 98 (.map (some M)) (spotV i a) true).run Tryd.prog w' = .ok (.tuple #[x, .bool true]) w') ∨
    (∀ w' : World, w'.heap[M]? = w.heap[M]? → (Instr.lookup 98 (.map (some M)) (spotV i a) true).run Tryd.prog w' = .ok (.tuple #[.agg #[.int .u64 0, .int .u64 0, .int .u64 0, .int .u64 0, .int .u64 0, .int .u64 0, .int .u64 0], .bool false]) w') := by
  obtain ⟨D, h, hk⟩ := h
  have hkey := spot_key i a (by omega) (by omega)
  have hown : ∀ w' : World, w'.heap[M]? = w.heap[M]? → w'.ownsMap Tryd.prog 102 rv M (Maps.size D) D := fun w' e => by
    obtain ⟨es, clock, hb, r⟩ := h
    exact ⟨es, clock, e.trans hb, r⟩
  cases hh : Maps.has D (spotL i a) with
  | true =>
    obtain ⟨j, b, x, hj, hb, e, hx, hat⟩ := hk _ hh
    obtain ⟨rfl, rfl⟩ := spot_inj (by omega) (by omega) (by omega) (by omega) e
    refine Or.inl ⟨x, hx, fun w' e' => ?_⟩
    obtain ⟨v, ps, hrun, hv⟩ := (hown w' e').look_ok spot_keyed Tryd.underlying98 (zero_places w') (zd := .held _) (zp := []) rfl hkey
    rw [hat] at hv
    simp [rv] at hv
    rw [hh, hv.1] at hrun
    exact hrun
  | false =>
    refine Or.inr fun w' e' => ?_
    obtain ⟨v, ps, hrun, hv⟩ := (hown w' e').look_ok spot_keyed Tryd.underlying98 (zero_places w') (zd := .held _) (zp := []) rfl hkey
    rw [Maps.atKey_of_not_has hh] at hv
    simp [rv] at hv
    rw [hh, hv.1] at hrun
    exact hrun
theorem Kn.small {w : World} {M : Nat} {D : DataW Value} {n : Nat} (h : w.ownsMap Tryd.prog 102 rv M n D) (hk : ∀ kl, Maps.has D kl = true → ∃ i a, i < 60 ∧ a < 401 ∧ kl = spotL i a) : Maps.size D ≤ 24060 := by
  obtain ⟨es, rfl, hp, hl⟩ := h.entries spot_keyed
  have h1 : (es.map (·.1)).length ≤ 24060 := by
    refine pigeon (fun c => spotL (c / 401) (c % 401)) 24060 _ (List.pairwise_map.2 hp) (fun k hm => ?_)
    obtain ⟨q, hq, rfl⟩ := List.mem_map.1 hm
    have : Maps.has (DataW.map es) q.1 = true := by
      rw [Maps.has_eq, List.any_eq_true]
      exact ⟨q, hq, WideAt.sameKey_self (hl q hq)⟩
    obtain ⟨i, a, hi, ha, e⟩ := hk _ this
    refine ⟨i * 401 + a, by omega, ?_⟩
    rw [e]
    have e1 : (i * 401 + a) / 401 = i := by omega
    have e2 : (i * 401 + a) % 401 = a := by omega
    simp only [e1, e2]
  simpa [Maps.size] using h1
/-- What is stored. -/
theorem Kn.store {w : World} {M : Nat} {ok : Nat → Nat → Value → Prop} (h : Kn w M ok) (i a : Nat) (x : Value) (hi : i < 60) (ha : a < 401) (hx : ok i a x) :
    ∃ w', (Instr.mapUpdate 98 (.map (some M)) (spotV i a) x).run Tryd.prog w = .ok () w' ∧ Kn w' M ok ∧ w.grownBy w' (some M) := by
  obtain ⟨D, h, hk⟩ := h
  have hkey := spot_key i a (by omega) (by omega)
  have hs := Kn.small h (fun kl hh => by obtain ⟨i, a, x, h1, h2, h3, _⟩ := hk kl hh; exact ⟨i, a, h1, h2, h3⟩)
  obtain ⟨w', hrun, hown, hg⟩ := h.update spot_keyed Tryd.underlying98 (by unfold maxLen; omega) hkey (val := x) (d := .held x) (ps := []) rfl
  have hkl := spot_keyed.key hkey
  refine ⟨w', hrun, ⟨D.put (spotL i a) (.held x), ?_, fun kl hh => ?_⟩, hg⟩
  · obtain ⟨es, clock, hb, F, _, e⟩ := hown
    refine ⟨es, clock, hb, F, ?_, e⟩
    rw [e]
    simp [Maps.size, length_sorted]
  · by_cases e : kl = spotL i a
    · subst e
      exact ⟨i, a, x, hi, ha, rfl, hx, fun z => Maps.atKey_put_same h.isMap hkl _ _⟩
    · rw [Maps.has_put_other e] at hh
      obtain ⟨j, b, y, h1, h2, h3, h4, h5⟩ := hk kl hh
      exact ⟨j, b, y, h1, h2, h3, h4, fun z => by rw [Maps.atKey_put_other e]; exact h5 z⟩
end Go.Proofs.YteeamifjldoihaaDoor
namespace Go.Proofs.YteeamifjldoihaaDoor
set_option linter.unusedSimpArgs false
set_option linter.unusedVariables false
set_option maxRecDepth 100000
open Go.RowKit Go.Shelf
attribute [local go_sem] Oper.semAt_some

theorem el_split (p : Nat → Bool) (x N : Nat) (hx : x < N) (hp : p x = true) : ∃ rest, el p N = el p x ++ x :: rest := by
  obtain ⟨d, rfl⟩ : ∃ d, N = x + 1 + d := ⟨N - x - 1, by omega⟩
  refine ⟨(List.range d |>.map fun j => x + 1 + j).filter p, ?_⟩
  unfold el
  rw [List.range_add, List.range_succ, List.filter_append, List.filter_append]
  simp [hp]
set_option maxHeartbeats 2000000 in
theorem rises (n : Nat) (hn : 1 ≤ n) (p : Nat → Bool) : RunsOn Fence.wide n Tryd.prog 79 #[plV p] (fun x : Nat => Value.int .i64 (x : Int)) Tab (el p 448) := by
  intro l J W hJ hJT hY h0
  have hI7 : Hid _ := hid (idx7 p)
  unfold plV
  refine callsIn_of_wp Tryd.func79 rfl trivial ?_ rfl
  simp only [Tryd.ntmps79, List.size_toArray, List.length_cons, List.length_nil, Nat.reduceAdd, Nat.reduceSub, Array.replicate_succ, Array.replicate_zero, List.push_toArray, List.append_toArray, List.nil_append, List.cons_append]
  gi_wp2
  gi_loopw [8] (fun v wr => ∃ k : Nat, k ≤ 7 ∧ v = .int .i64 (k : Int) ∧ J (el p (64 * k)) wr) (fun v _ => 7 - (intOf v).toNat)
  case atStart =>
    exact ⟨0, by omega, rfl, hJ _ _ _ none h0 (World.grownBy_alloc _ _ _) (fun r e => by cases e)⟩
  case round =>
    obtain ⟨k, hk, rfl, hj⟩ := hrel
    by_cases hlt : k < 7
    · have i0 : (0 : Int) ≤ (k : Int) := by omega
      have i1 : (k : Int) < 7 := by omega
      have hqk := fun w => hI7.out k hlt w
      have hwd : wd p k = ((cutw (fun j => p (64 * k + j)) 0 : Nat) : Int) := by rw [cutw_zero]; rfl
      gi_wp2
      gi_loopw [5] (fun v wr => ∃ m : Nat, m ≤ 64 ∧ v = .int .u64 ((cutw (fun j => p (64 * k + j)) m : Nat) : Int) ∧ J (el p (64 * k + m)) wr) (fun v _ => (intOf v).toNat)
      case atStart =>
        exact ⟨0, by omega, rfl, hj⟩
      case round =>
        obtain ⟨m, hm, rfl, hj2⟩ := hrel
        by_cases hz : cutw (fun j => p (64 * k + j)) m = 0
        · have hz0 : ((cutw (fun j => p (64 * k + j)) m : Nat) : Int) = 0 := by omega
          have hj3 : J (el p (64 * (k + 1))) wr := by
            rw [el_skip' p (64 * k + m) (64 * (k + 1)) (by omega) (fun j h1 h2 => by
              have := cutw_none hz (j - 64 * k) (by omega) (by omega)
              rwa [show 64 * k + (j - 64 * k) = j by omega] at this)]
            exact hj2
          gi_wp2
          exact ⟨⟨k + 1, by omega, by go_num, hj3⟩, by simp [intOf]; omega⟩
        · obtain ⟨k0, hk0, h1, h2, h3, h4, h5⟩ := cutw_step hz
          have hlt64 : cutw (fun j => p (64 * k + j)) m < 18446744073709551616 := mkw64 _
          obtain ⟨rest, hrest⟩ := el_split p (64 * k + k0) 448 (by omega) h3
          have hj3 : J (el p (64 * k + k0)) wr := by
            rw [el_skip' p (64 * k + m) (64 * k + k0) (by omega) (fun j g1 g2 => by
              have := h4 (j - 64 * k) (by omega) (by omega)
              rwa [show 64 * k + (j - 64 * k) = j by omega] at this)]
            exact hj2
          obtain ⟨fn, tmps, assign, body, hy, hR⟩ := hY _ _ rest wr hrest hj3
          have hTz := tz_any _ hz hlt64 wr (hJT _ _ hj2)
          rw [← hk0] at hTz
          replace hTz := hid hTz
          have hnz : (((cutw (fun j => p (64 * k + j)) m : Nat) : Int) == 0) = false := by rw [beq_eq_false_iff_ne]; omega
          have ev : ((64 * k + k0 : Nat) : Int) = (k : Int) * 64 + (k0 : Int) := by omega
          rw [ev] at hy
          have hand : bits .and .u64 ((cutw (fun j => p (64 * k + j)) m : Nat) : Int) (((cutw (fun j => p (64 * k + j)) m : Nat) : Int) - 1) = ((cutw (fun j => p (64 * k + j)) (k0 + 1) : Nat) : Int) := by
            have e1 : ((cutw (fun j => p (64 * k + j)) m : Nat) : Int) - 1 = ((cutw (fun j => p (64 * k + j)) m - 1 : Nat) : Int) := by omega
            rw [e1, u64_and_nat _ _ hlt64 (by omega), h5]
          have hless : cutw (fun j => p (64 * k + j)) (k0 + 1) < cutw (fun j => p (64 * k + j)) m := by
            rw [← h5]
            have : cutw (fun j => p (64 * k + j)) m &&& (cutw (fun j => p (64 * k + j)) m - 1) ≤ cutw (fun j => p (64 * k + j)) m - 1 := Nat.and_le_right
            omega
          clear h5 hk0
          generalize hn2 : cutw (fun j => p (64 * k + j)) (k0 + 1) = n2 at hand hless
          generalize cutw (fun j => p (64 * k + j)) m = nn at *
          gi_wp2_with (refine ⟨trivial, ?_⟩; gi_at_call 62; refine (callsIn_wide.2 hTz.out).mono ?_; rintro e w' ⟨rfl, rfl⟩)
          refine hR.mono ?_
          rintro e W3 ⟨rfl, hJ3⟩
          gi_wp2
          exact ⟨⟨k0 + 1, by omega, by rw [hn2], by rw [← Nat.add_assoc, el_snoc p _ h3]; exact hJ3⟩, by simp [intOf]; omega⟩
    · have hk7 : k = 7 := by omega
      subst hk7
      gi_wp2
      go_end0
      exact ⟨⟨_, rfl⟩, hj⟩
theorem enters_rising : ∀ args w, (callFunc 79 args).run Tryd.prog w = .ok (.enter 79 args) w := fun _ _ => by kernel_rfl
end Go.Proofs.YteeamifjldoihaaDoor
namespace Go.Proofs.YteeamifjldoihaaDoor
set_option linter.unusedSimpArgs false
set_option linter.unusedVariables false
set_option maxRecDepth 100000
open Go.RowKit

/-- A reader: where it began, where it lies, its map, its nodes, its text. -/
structure Cx where
  W0 : World
  rb : Nat
  M : Nat
  b : Nat
  off : Nat
  cap : Nat
  ns : List Nd
  s : ByteArray
def Cx.v (c : Cx) : Value := .slice (some ⟨c.b, c.off, none⟩) c.ns.length c.cap
def Cx.S (c : Cx) : List UInt8 := c.s.data.toList
theorem Cx.S_len (c : Cx) : c.S.length = c.s.size := Array.length_toList
structure Cx.Good (c : Cx) : Prop where
  nsAt : NsAt c.W0 c.b c.off c.ns
  blt : c.b < c.W0.heap.size
  fault : faultL c.ns = 0
  wf : ∀ n ∈ c.ns, n.wf
  size : c.s.size ≤ 400
  tab : Tab c.W0
  hrb : c.W0.heap.size ≤ c.rb
  hM : c.W0.heap.size ≤ c.M
  ne : c.rb ≠ c.M
theorem Cx.Good.len {c : Cx} (h : c.Good) : c.ns.length ≤ 60 := ((faultL_zero c.ns).1 h.fault).1
/-- What may be known of a spot. -/
def Cx.ok (c : Cx) (i a : Nat) (x : Value) : Prop := ∃ (t : Rx) (p q : List Nd), t.Ok ∧ c.ns = p ++ t.flat ++ q ∧ p.length = i ∧ a ≤ c.s.size ∧ x = plV (fs c.S t a)
structure Cx.At (c : Cx) (w : World) : Prop where
  bel : Below c.W0.heap.size c.W0 w
  rd : w.heap[c.rb]? = some (.cells #[c.v, .string c.s, .map (some c.M)] 100 (0, 0))
  kn : Kn w c.M c.ok
theorem Cx.At.lt {c : Cx} {w : World} (h : c.At w) : c.rb < w.heap.size := by
  have := h.rd
  rcases Nat.lt_or_ge c.rb w.heap.size with h' | h'
  · exact h'
  · rw [Array.getElem?_eq_none h'] at this; cases this
theorem Cx.At.c0 {c : Cx} {w : World} (h : c.At w) : w.cell? ⟨c.rb, 0, none⟩ = some c.v := by rw [Lib.cell_of_heap h.rd]; rfl
theorem Cx.At.c1 {c : Cx} {w : World} (h : c.At w) : w.cell? ⟨c.rb, 1, none⟩ = some (.string c.s) := by rw [Lib.cell_of_heap h.rd]; rfl
theorem Cx.At.c2 {c : Cx} {w : World} (h : c.At w) : w.cell? ⟨c.rb, 2, none⟩ = some (.map (some c.M)) := by rw [Lib.cell_of_heap h.rd]; rfl
/-- Other blocks are turned, none of them the reader's. -/
theorem Cx.At.turn {c : Cx} {w w' : World} (h : c.At w) {row : Option Nat} (hg : w.grownBy w' row) (hr : ∀ r, row = some r → c.W0.heap.size ≤ r ∧ r ≠ c.rb ∧ r ≠ c.M) : c.At w' where
  bel := h.bel.grown hg h.bel.size (fun k e => (hr k e).1)
  rd := (hg.block c.rb h.lt (fun e => (hr _ e.symm).2.1 rfl)).trans h.rd
  kn := h.kn.kept hg (fun e => (hr _ e.symm).2.2 rfl)
theorem Cx.At.alloc {c : Cx} {w : World} (h : c.At w) (o : Obj) : c.At (w.alloc o) := h.turn (World.grownBy_alloc w o none) (fun r e => by cases e)
theorem Cx.At.drew {c : Cx} {w : World} (h : c.At w) : c.At w.drew := ⟨h.bel.drew, h.rd, by obtain ⟨D, h1, h2⟩ := h.kn; exact ⟨D, h1.drew, h2⟩⟩
theorem Cx.At.below {c : Cx} {w w' : World} (h : c.At w) (hb : Below w.heap.size w w') : c.At w' := h.turn (below_grown hb none) (fun r e => by cases e)
/-- What is asked of ends and look, at a tree that begins at node i, from place a. -/
def EndsOk (c : Cx) (t : Rx) (i a : Nat) : Prop := ∀ w, c.At w → Calls Tryd.prog 28 #[.pointer (some ⟨c.rb, 0, none⟩), .int .i64 (i : Int), .int .i64 (a : Int)] w fun e w' => e = .returned (plV (fs c.S t a)) ∧ c.At w' ∧ w.grownBy w' (some c.M)
def LookOk (c : Cx) (t : Rx) (i a : Nat) : Prop := ∀ w, c.At w → Calls Tryd.prog 49 #[.pointer (some ⟨c.rb, 0, none⟩), .int .i64 (i : Int), .int .i64 (a : Int)] w fun e w' => e = .returned (plV (fs c.S t a)) ∧ c.At w' ∧ w.grownBy w' (some c.M)
theorem Cx.ok_one {c : Cx} {t : Rx} (ht : t.Ok) {p q : List Nd} (hns : c.ns = p ++ t.flat ++ q) {a : Nat} {x : Value} (h : c.ok p.length a x) : x = plV (fs c.S t a) := by
  obtain ⟨u, p', q', hu, hns', hl, _, rfl⟩ := h
  rw [hns, List.append_assoc, List.append_assoc] at hns'
  obtain ⟨_, h2⟩ := List.append_inj hns' hl.symm
  obtain ⟨rfl, _⟩ := flat_pre t u ht hu q q' h2
  rfl
theorem grown_drew {w w' : World} {row : Option Nat} (h : w.grownBy w' row) : w.grownBy w'.drew row := ⟨h.os, h.tape, h.output, h.size, h.block⟩
/-- A block that is new is turned. -/
theorem grown_new {w w' w'' : World} {row : Option Nat} {r : Nat} (h : w.grownBy w' row) (k : w'.grownBy w'' (some r)) (hr : w.heap.size ≤ r) : w.grownBy w'' row :=
  ⟨k.os.trans h.os, k.tape.trans h.tape, k.output.trans h.output, Nat.le_trans h.size k.size, fun i hi hne => (k.block i (Nat.lt_of_lt_of_le hi h.size) (fun e => by cases e; omega)).trans (h.block i hi hne)⟩
theorem flat_lt {c : Cx} {t : Rx} {p q : List Nd} (hns : c.ns = p ++ t.flat ++ q) : p.length < c.ns.length := by
  rw [hns]
  have := t.flat_pos
  simp
  omega
end Go.Proofs.YteeamifjldoihaaDoor
namespace Go.Proofs.YteeamifjldoihaaDoor
set_option linter.unusedSimpArgs false
set_option linter.unusedVariables false
set_option maxRecDepth 100000
open Go.RowKit

/-- What End answers: the place, and the fault. -/
def endN (ns : List Nd) (i : Int) : Int := if faultL ns = 0 ∧ 0 ≤ i ∧ i < ns.length then endI (endE ns i.toNat) else 0
def endErr (ns : List Nd) (i : Int) : Int := if faultL ns = 0 then (if 0 ≤ i ∧ i < ns.length then 0 else 1) else faultL ns
theorem rexEnd_in (ns : List Nd) (i : Int) (h : faultL ns = 0) (h1 : 0 ≤ i) (h2 : i < ns.length) : endN ns i = endI (endE ns i.toNat) ∧ endErr ns i = 0 := by
  simp [endN, endErr, h, h1, h2]
theorem rexEnd_out (ns : List Nd) (i : Int) (h : faultL ns = 0) (h1 : ¬ (0 ≤ i ∧ i < ns.length)) : endN ns i = 0 ∧ endErr ns i = 1 := by
  rw [endN, endErr, if_neg (fun h2 => h1 h2.2), if_pos h, if_neg h1]
  exact ⟨rfl, rfl⟩
theorem rexEnd_bad (ns : List Nd) (i : Int) (h : ¬ faultL ns = 0) : endN ns i = 0 ∧ endErr ns i = faultL ns := by
  rw [endN, endErr, if_neg (fun h2 => h h2.1), if_neg h]
  exact ⟨rfl, rfl⟩
end Go.Proofs.YteeamifjldoihaaDoor
namespace Go.Proofs.YteeamifjldoihaaDoor
set_option linter.unusedSimpArgs false
set_option linter.unusedVariables false
set_option maxRecDepth 100000
open Go.RowKit

set_option maxHeartbeats 4000000 in
theorem rend_any (ns : List Nd) (v : Value) (i : Int) (w : World) (hN : NsIn w v ns) :
    Calls Tryd.prog 80 #[v, .int .i64 i] w fun e w' => e = .returned (.tuple #[.int .i64 (endN ns i), errV (endErr ns i)]) ∧ Below w.heap.size w w' := by
  have CC : Hid _ := rcheck_any ns v w hN
  by_cases hf : faultL ns = 0
  · obtain ⟨hl, hr, hv⟩ := (faultL_zero ns).1 hf
    by_cases hi : 0 ≤ i ∧ i < ns.length
    · obtain ⟨c1, c2⟩ := rexEnd_in ns i hf hi.1 hi.2
      rw [c1, c2]
      obtain ⟨j, rfl⟩ : ∃ j : Nat, i = (j : Int) := ⟨i.toNat, by omega⟩
      rw [Int.toNat_natCast]
      obtain ⟨k, hk⟩ := part_at ns hv j (by omega)
      obtain ⟨a, cap, rfl, hm, h | ⟨b, off, rfl, hlt, hn⟩⟩ := hN
      · subst h; rw [endE_nil] at hv; cases hv
      have C2 : Hid (∀ w', Below w.heap.size w w' → Calls Tryd.prog 51 #[.slice (some ⟨b, off, none⟩) ns.length cap, .int .i64 j] w' fun e w'' => e = .returned (.tuple #[.int .i64 k, .bool true]) ∧ w'' = w') := fun w' hb => behind_k ns b off cap hl w' (hn.below hb hlt) j _ k hk
      rw [hk, show endI (some k) = (k : Int) from rfl]
      rw [hf] at CC
      rw [show errV 0 = .nilIface from rfl] at CC ⊢
      have i0 : (0 : Int) ≤ (j : Int) := hi.1
      have i1 : (j : Int) < (ns.length : Int) := hi.2
      clear hr hv hn hf hk c1 c2 hi
      go_enter Tryd.func80, Tryd.ntmps80
      go_wp2_with fail
      refine Calls.mono CC.out ?_
      rintro e w1 ⟨rfl, hb⟩
      have B1 : Hid _ := hb
      clear hb
      go_wp2_with fail
      refine Calls.mono (C2.out _ B1.out) ?_
      rintro e w1 ⟨rfl, rfl⟩
      go_wp2
      go_ret2
      exact ⟨rfl, B1.out⟩
    · obtain ⟨c1, c2⟩ := rexEnd_out ns i hf hi
      rw [c1, c2]
      obtain ⟨a, cap, rfl, hm, _⟩ := hN
      rw [hf] at CC
      rw [show errV 0 = .nilIface from rfl] at CC
      rw [show errV 1 = .iface 24 (.int .i64 1) from rfl]
      clear hr hv hf c1 c2
      by_cases i0 : i < 0
      · clear hi
        go_enter Tryd.func80, Tryd.ntmps80
        go_wp2_with fail
        refine Calls.mono CC.out ?_
        rintro e w1 ⟨rfl, hb⟩
        have B1 : Hid _ := hb
        clear hb
        go_wp2
        go_ret2
        exact ⟨rfl, B1.out⟩
      · have i1 : (ns.length : Int) ≤ i := by omega
        clear hi
        go_enter Tryd.func80, Tryd.ntmps80
        go_wp2_with fail
        refine Calls.mono CC.out ?_
        rintro e w1 ⟨rfl, hb⟩
        have B1 : Hid _ := hb
        clear hb
        go_wp2
        go_ret2
        exact ⟨rfl, B1.out⟩
  · obtain ⟨c1, c2⟩ := rexEnd_bad ns i hf
    rw [c1, c2]
    obtain ⟨a, cap, rfl, hm, _⟩ := hN
    rw [show errV (faultL ns) = .iface 24 (.int .i64 (faultL ns)) from if_neg hf] at CC ⊢
    clear hf c1 c2
    generalize faultL ns = ft at *
    go_enter Tryd.func80, Tryd.ntmps80
    go_wp2_with fail
    refine Calls.mono CC.out ?_
    rintro e w1 ⟨rfl, hb⟩
    have B1 : Hid _ := hb
    clear hb
    go_wp2
    go_ret2
    exact ⟨rfl, B1.out⟩
end Go.Proofs.YteeamifjldoihaaDoor
namespace Go.Proofs.YteeamifjldoihaaDoor
set_option linter.unusedSimpArgs false
set_option linter.unusedVariables false
set_option maxRecDepth 100000
open Go.RowKit
set_option maxHeartbeats 1000000 in
theorem second_any {c : Cx} (hc : c.Good) {n : Nd} {a b : Rx} (ha : a.Ok) {p q : List Nd} (hns : c.ns = p ++ (Rx.two n a b).flat ++ q) (w : World) (hA : c.At w) :
    Calls Tryd.prog 67 #[.pointer (some ⟨c.rb, 0, none⟩), .int .i64 (p.length : Int)] w fun e w' => e = .returned (.int .i64 ((p.length + 1 + a.flat.length : Nat) : Int)) ∧ Below w.heap.size w w' := by
  have hl := hc.len
  have h1 := flat_lt hns
  have hN : NsIn w c.v c.ns := ⟨_, _, rfl, by unfold maxLen; omega, Or.inr ⟨c.b, c.off, rfl, Nat.lt_of_lt_of_le hc.blt hA.bel.size, hc.nsAt.below hA.bel hc.blt⟩⟩
  have hns2 : c.ns = (p ++ [n]) ++ a.flat ++ (b.flat ++ q) := by rw [hns]; simp [Rx.flat]
  have hend : endN c.ns ((p.length : Int) + 1) = ((p.length + 1 + a.flat.length : Nat) : Int) ∧ endErr c.ns ((p.length : Int) + 1) = 0 := by
    have hlen : p.length + 1 < c.ns.length := by
      rw [hns2]
      have := a.flat_pos
      simp
      omega
    have := rexEnd_in c.ns ((p.length : Int) + 1) hc.fault (by omega) (by omega)
    refine ⟨?_, this.2⟩
    rw [this.1, show (((p.length : Int) + 1).toNat) = (p ++ [n]).length by simp]
    rw [hns2, endE_mid a ha (p ++ [n]) (b.flat ++ q)]
    simp [endI]
  have C := hid (rend_any c.ns c.v ((p.length : Int) + 1) w hN)
  rw [hend.1, hend.2] at C
  rw [show errV 0 = .nilIface from rfl] at C
  have c0 := hA.c0
  unfold Cx.v at c0 C
  clear hns hns2 hend hN
  go_enter Tryd.func67, Tryd.ntmps67
  go_wp2_with fail
  refine C.out.mono ?_
  rintro e w1 ⟨rfl, hb⟩
  go_wp2
  go_ret
  exact ⟨rfl, hb⟩
set_option maxHeartbeats 1000000 in
theorem mcheck_any (ns : List Nd) (v : Value) (s : ByteArray) (w : World) (hN : NsIn w v ns) (hs : s.size ≤ maxLen) :
    Calls Tryd.prog 26 #[v, .string s] w fun e w' => e = .returned (errV (meanF ns s.size)) ∧ Below w.heap.size w w' := by
  have C := hid (rcheck_any ns v w hN)
  obtain ⟨a, cap, rfl, hm, _⟩ := hN
  unfold meanF
  by_cases hf : faultL ns = 0
  · rw [if_pos hf]
    rw [hf] at C
    rw [show errV 0 = .nilIface from rfl] at C
    by_cases h4 : 400 < s.size
    · rw [if_pos h4]
      rw [show errV 3 = .iface 24 (.int .i64 3) from rfl]
      have h4' : (400 : Int) < (s.size : Int) := by omega
      go_enter Tryd.func26, Tryd.ntmps26
      go_wp2_with fail
      refine C.out.mono ?_
      rintro e w1 ⟨rfl, hb⟩
      go_wp2
      go_ret
      exact ⟨rfl, hb⟩
    · rw [if_neg h4]
      rw [show errV 0 = .nilIface from rfl]
      have h4' : (s.size : Int) ≤ 400 := by omega
      go_enter Tryd.func26, Tryd.ntmps26
      go_wp2_with fail
      refine C.out.mono ?_
      rintro e w1 ⟨rfl, hb⟩
      go_wp2
      go_ret
      exact ⟨rfl, hb⟩
  · rw [if_neg hf]
    rw [show errV (faultL ns) = .iface 24 (.int .i64 (faultL ns)) by unfold errV; rw [if_neg hf]] at C ⊢
    go_enter Tryd.func26, Tryd.ntmps26
    go_wp2_with fail
    refine C.out.mono ?_
    rintro e w1 ⟨rfl, hb⟩
    go_wp2
    go_ret
    exact ⟨rfl, hb⟩
set_option maxHeartbeats 1000000 in
theorem reading_any (a : Option Addr) (l cap : Nat) (s : ByteArray) (w : World) :
    Calls Tryd.prog 27 #[.slice a l cap, .string s] w fun e w' => e = .returned (.pointer (some ⟨w.heap.size + 1, 0, none⟩)) ∧ w' = (w.alloc (.map #[] 0)).alloc (.cells #[.slice a l cap, .string s, .map (some w.heap.size)] 100) := by
  have hmm := @run_makeMap Tryd.prog
  go_enter Tryd.func27, Tryd.ntmps27
  go_wp2
  go_ret
  exact ⟨rfl, rfl⟩
end Go.Proofs.YteeamifjldoihaaDoor
namespace Go.Proofs.YteeamifjldoihaaDoor
set_option linter.unusedSimpArgs false
set_option linter.unusedVariables false
set_option maxRecDepth 100000
open Go.RowKit
set_option maxHeartbeats 4000000 in
theorem look_begin {c : Cx} (hc : c.Good) (n : Nd)  {p q : List Nd} (hns : c.ns = p ++ (Rx.leaf n).flat ++ q) (hop : n.op = 8) (a : Nat) (ha : a ≤ c.s.size) : LookOk c (Rx.leaf n) p.length a := by
  intro w hA
  have hlen := hc.len
  have hsz := hc.size
  have hpl := flat_lt hns
  have hW := hA.bel.size
  have hA0 := hA.lt
  have hM0 := hA.kn.lt
  have hn : c.ns[p.length]? = some n := by rw [hns, List.append_assoc, List.getElem?_append_right (Nat.le_refl _)]; simp [Rx.flat]
  have hZ : Hp (w.alloc (.cells #[.int .u64 0, .int .u64 0, .int .u64 0, .int .u64 0, .int .u64 0, .int .u64 0, .int .u64 0] 72)) w.heap.size noP := Hp.zero _ _ rfl
  have hA1 : c.At (w.alloc (.cells #[.int .u64 0, .int .u64 0, .int .u64 0, .int .u64 0, .int .u64 0, .int .u64 0, .int .u64 0] 72)) := hA.alloc _
  have hG1 : w.grownBy (w.alloc (.cells #[.int .u64 0, .int .u64 0, .int .u64 0, .int .u64 0, .int .u64 0, .int .u64 0, .int .u64 0] 72)) (some c.M) := World.grownBy_alloc _ _ _
  have hz1 : (w.alloc (.cells #[.int .u64 0, .int .u64 0, .int .u64 0, .int .u64 0, .int .u64 0, .int .u64 0, .int .u64 0] 72)).heap.size = w.heap.size + 1 := by simp
  obtain ⟨n0, n1, n2, n3, n4⟩ := (hc.nsAt.below hA1.bel hc.blt) _ _ hn
  rw [hop] at n0
  have c0 := hA1.c0
  have c1 := hA1.c1
  unfold Cx.v at c0
  have i0 : (0 : Int) ≤ (p.length : Int) := by omega
  have i1 : (p.length : Int) < (c.ns.length : Int) := by omega
  have s0 : (c.s.size : Int) ≤ 400 := by omega
  have hres : fs c.S (.leaf n) a = whenP ((a : Int) == 0) a := by
    rw [fs_begin n a hop]
    congr 1
    rw [Bool.eq_iff_iff]; simp
  clear hn hns hop n1 n2 n3 n4
  go_enter Tryd.func49, Tryd.ntmps49
  go_wp2_with fail
  refine (pwhen_any ((a : Int) == 0) a (by omega) _).mono ?_
  rintro e w1 ⟨rfl, hb⟩
  have hZ1 := hZ.below hb hZ.lt
  have hA2 := hA1.below hb
  have hG2 : w.grownBy w1 (some c.M) := hG1.trans (below_grown hb _)
  clear hZ n0 c0 c1
  obtain ⟨d0, d1, d2, d3, d4, d5, d6⟩ := hZ1.all
  obtain ⟨f0, f1, f2, f3, f4, f5, f6⟩ := hZ1.frz
  unfold plV
  go_wp2
  have hq := hZ1.put7 (whenP ((a : Int) == 0) a)
  obtain ⟨e0, e1, e2, e3, e4, e5, e6⟩ := hq.all
  refine bodyPost_ret (v := plV (whenP ((a : Int) == 0) a)) (by simp [results, Tryd.results49, go_sem, plV, e0, e1, e2, e3, e4, e5, e6]) rfl ⟨by rw [hres], hA2.turn (grown_put7 _ _ _) (fun r e => by cases e; exact ⟨hW, by omega, by omega⟩), grown_new hG2 (grown_put7 _ _ _) (Nat.le_refl _)⟩
set_option maxHeartbeats 4000000 in
theorem look_end {c : Cx} (hc : c.Good) (n : Nd)  {p q : List Nd} (hns : c.ns = p ++ (Rx.leaf n).flat ++ q) (hop : n.op = 9) (a : Nat) (ha : a ≤ c.s.size) : LookOk c (Rx.leaf n) p.length a := by
  intro w hA
  have hlen := hc.len
  have hsz := hc.size
  have hpl := flat_lt hns
  have hW := hA.bel.size
  have hA0 := hA.lt
  have hM0 := hA.kn.lt
  have hn : c.ns[p.length]? = some n := by rw [hns, List.append_assoc, List.getElem?_append_right (Nat.le_refl _)]; simp [Rx.flat]
  have hZ : Hp (w.alloc (.cells #[.int .u64 0, .int .u64 0, .int .u64 0, .int .u64 0, .int .u64 0, .int .u64 0, .int .u64 0] 72)) w.heap.size noP := Hp.zero _ _ rfl
  have hA1 : c.At (w.alloc (.cells #[.int .u64 0, .int .u64 0, .int .u64 0, .int .u64 0, .int .u64 0, .int .u64 0, .int .u64 0] 72)) := hA.alloc _
  have hG1 : w.grownBy (w.alloc (.cells #[.int .u64 0, .int .u64 0, .int .u64 0, .int .u64 0, .int .u64 0, .int .u64 0, .int .u64 0] 72)) (some c.M) := World.grownBy_alloc _ _ _
  have hz1 : (w.alloc (.cells #[.int .u64 0, .int .u64 0, .int .u64 0, .int .u64 0, .int .u64 0, .int .u64 0, .int .u64 0] 72)).heap.size = w.heap.size + 1 := by simp
  obtain ⟨n0, n1, n2, n3, n4⟩ := (hc.nsAt.below hA1.bel hc.blt) _ _ hn
  rw [hop] at n0
  have c0 := hA1.c0
  have c1 := hA1.c1
  unfold Cx.v at c0
  have i0 : (0 : Int) ≤ (p.length : Int) := by omega
  have i1 : (p.length : Int) < (c.ns.length : Int) := by omega
  have s0 : (c.s.size : Int) ≤ 400 := by omega
  have hres : fs c.S (.leaf n) a = whenP ((a : Int) == (c.s.size : Int)) a := by
    rw [fs_end n a hop, Cx.S_len]
    congr 1
    rw [Bool.eq_iff_iff]; simp; omega
  clear hn hns hop n1 n2 n3 n4
  go_enter Tryd.func49, Tryd.ntmps49
  go_wp2_with fail
  refine (pwhen_any ((a : Int) == (c.s.size : Int)) a (by omega) _).mono ?_
  rintro e w1 ⟨rfl, hb⟩
  have hZ1 := hZ.below hb hZ.lt
  have hA2 := hA1.below hb
  have hG2 : w.grownBy w1 (some c.M) := hG1.trans (below_grown hb _)
  clear hZ n0 c0 c1
  obtain ⟨d0, d1, d2, d3, d4, d5, d6⟩ := hZ1.all
  obtain ⟨f0, f1, f2, f3, f4, f5, f6⟩ := hZ1.frz
  unfold plV
  go_wp2
  have hq := hZ1.put7 (whenP ((a : Int) == (c.s.size : Int)) a)
  obtain ⟨e0, e1, e2, e3, e4, e5, e6⟩ := hq.all
  refine bodyPost_ret (v := plV (whenP ((a : Int) == (c.s.size : Int)) a)) (by simp [results, Tryd.results49, go_sem, plV, e0, e1, e2, e3, e4, e5, e6]) rfl ⟨by rw [hres], hA2.turn (grown_put7 _ _ _) (fun r e => by cases e; exact ⟨hW, by omega, by omega⟩), grown_new hG2 (grown_put7 _ _ _) (Nat.le_refl _)⟩
set_option maxHeartbeats 4000000 in
theorem look_empty {c : Cx} (hc : c.Good) (n : Nd)  {p q : List Nd} (hns : c.ns = p ++ (Rx.leaf n).flat ++ q) (hop : n.op = 2) (a : Nat) (ha : a ≤ c.s.size) : LookOk c (Rx.leaf n) p.length a := by
  intro w hA
  have hlen := hc.len
  have hsz := hc.size
  have hpl := flat_lt hns
  have hW := hA.bel.size
  have hA0 := hA.lt
  have hM0 := hA.kn.lt
  have hn : c.ns[p.length]? = some n := by rw [hns, List.append_assoc, List.getElem?_append_right (Nat.le_refl _)]; simp [Rx.flat]
  have hZ : Hp (w.alloc (.cells #[.int .u64 0, .int .u64 0, .int .u64 0, .int .u64 0, .int .u64 0, .int .u64 0, .int .u64 0] 72)) w.heap.size noP := Hp.zero _ _ rfl
  have hA1 : c.At (w.alloc (.cells #[.int .u64 0, .int .u64 0, .int .u64 0, .int .u64 0, .int .u64 0, .int .u64 0, .int .u64 0] 72)) := hA.alloc _
  have hG1 : w.grownBy (w.alloc (.cells #[.int .u64 0, .int .u64 0, .int .u64 0, .int .u64 0, .int .u64 0, .int .u64 0, .int .u64 0] 72)) (some c.M) := World.grownBy_alloc _ _ _
  have hz1 : (w.alloc (.cells #[.int .u64 0, .int .u64 0, .int .u64 0, .int .u64 0, .int .u64 0, .int .u64 0, .int .u64 0] 72)).heap.size = w.heap.size + 1 := by simp
  obtain ⟨n0, n1, n2, n3, n4⟩ := (hc.nsAt.below hA1.bel hc.blt) _ _ hn
  rw [hop] at n0
  have c0 := hA1.c0
  have c1 := hA1.c1
  unfold Cx.v at c0
  have i0 : (0 : Int) ≤ (p.length : Int) := by omega
  have i1 : (p.length : Int) < (c.ns.length : Int) := by omega
  have s0 : (c.s.size : Int) ≤ 400 := by omega
  have hres : fs c.S (.leaf n) a = whenP true a := fs_empty n a (by rw [Cx.S_len]; exact ha) (by omega) (by omega) (by omega)
  clear hn hns hop n1 n2 n3 n4
  go_enter Tryd.func49, Tryd.ntmps49
  go_wp2_with fail
  refine (pwhen_any true a (by omega) _).mono ?_
  rintro e w1 ⟨rfl, hb⟩
  have hZ1 := hZ.below hb hZ.lt
  have hA2 := hA1.below hb
  have hG2 : w.grownBy w1 (some c.M) := hG1.trans (below_grown hb _)
  clear hZ n0 c0 c1
  obtain ⟨d0, d1, d2, d3, d4, d5, d6⟩ := hZ1.all
  obtain ⟨f0, f1, f2, f3, f4, f5, f6⟩ := hZ1.frz
  unfold plV
  go_wp2
  have hq := hZ1.put7 (whenP true a)
  obtain ⟨e0, e1, e2, e3, e4, e5, e6⟩ := hq.all
  refine bodyPost_ret (v := plV (whenP true a)) (by simp [results, Tryd.results49, go_sem, plV, e0, e1, e2, e3, e4, e5, e6]) rfl ⟨by rw [hres], hA2.turn (grown_put7 _ _ _) (fun r e => by cases e; exact ⟨hW, by omega, by omega⟩), grown_new hG2 (grown_put7 _ _ _) (Nat.le_refl _)⟩
end Go.Proofs.YteeamifjldoihaaDoor
