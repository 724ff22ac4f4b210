/- What each call of package class does, function by function, over the loaded program: first part: bits, join, Both, Either, Not, Has, with, Of, Many. What each call of package class does: second part: Not, Many, Of. -/
import Derived.Test.YtmdfdlljeggbbaaDoorY01
namespace Go.Proofs.YtmdfdlljeggbbaaDoor
set_option linter.unusedSimpArgs false
set_option linter.unusedVariables false
set_option maxRecDepth 100000
open Go.RowKit

theorem either1_any (x y : Int) (w : World) :
    Calls Tryd.prog 40 #[.int .u64 x, .int .u64 y] w fun e w' => e = .returned (.int .u64 (bits .or .u64 x y)) ∧ w' = w := by
  go_enter Tryd.func40, Tryd.ntmps40
  go_wp2
  go_ret
  exact ⟨rfl, rfl⟩
theorem not1_any (x y : Int) (w : World) :
    Calls Tryd.prog 35 #[.int .u64 x, .int .u64 y] w fun e w' => e = .returned (.int .u64 (not64 x)) ∧ w' = w := by
  have hs : ¬ IntKind.u64.signed = true := by decide
  go_enter Tryd.func35, Tryd.ntmps35
  go_wp2
  all_goals first | (exfalso; exact hs ‹_›) | skip
  all_goals (go_ret; exact ⟨rfl, rfl⟩)
set_option maxHeartbeats 400000 in
theorem ones_any (x : Int) (w : World) :
    Calls Tryd.prog 36 #[.int .u64 x] w fun e w' => e = .returned (.int .i64 (ones x)) ∧ w' = w := by
  go_enter Tryd.func36, Tryd.ntmps36
  go_wp2
  go_ret
  exact ⟨rfl, rfl⟩
set_option maxHeartbeats 400000 in
theorem has_any (k : C4) (x : Int) (w : World) (h : 0 ≤ x) (h2 : x < 256) :
    Calls Tryd.prog 18 #[k.v, .int .u8 x] w fun e w' => e = .returned (.bool (k.hasI x)) ∧ Below w.heap.size w w' := by
  have hw := k.get (x/64).toNat (by omega)
  go_enter Tryd.func18, Tryd.ntmps18
  go_wp2
  go_ret
  exact ⟨rfl, (Below.refl _ _).alloc (Nat.le_refl _) _⟩
set_option maxHeartbeats 400000 in
theorem with_any (k : C4) (x : Int) (w : World) (h : 0 ≤ x) (h2 : x < 256) :
    Calls Tryd.prog 32 #[k.v, .int .u8 x] w fun e w' => e = .returned (k.add x).v ∧ Below w.heap.size w w' := by
  have hw := k.get (x/64).toNat (by omega)
  have hs := k.set (x/64).toNat (by omega)
  go_enter Tryd.func32, Tryd.ntmps32
  go_wp2
  refine bodyPost_ret (v := (k.add x).v) (by simp [results, Tryd.results32, go_sem]; exact ⟨rfl, rfl, rfl, rfl⟩) rfl ⟨rfl, ?_⟩
  exact ((Below.refl _ _).alloc (Nat.le_refl _) _).alloc (by simp) _

set_option maxHeartbeats 1000000 in
theorem join_any (g : Nat) (F : Int → Int → Int) (hg : ∀ (p q : Int) (w : World), Calls Tryd.prog g #[.int .u64 p, .int .u64 q] w fun e w' => e = .returned (.int .u64 (F p q)) ∧ w' = w)
    (he : ∀ args w, (callFunc g args).run Tryd.prog w = .ok (.enter g args) w) (x y : C4) (w : World) :
    Calls Tryd.prog 34 #[x.v, y.v, .func (.func g) #[] #[]] w fun e w' => e = .returned (jn F x y 4).v ∧ Below w.heap.size w w' := by
  have HG := (show Hid _ from hg)
  clear hg
  go_enter Tryd.func34, Tryd.ntmps34
  go_wp2
  go_loopw [9] (fun i wr => ∃ k : Nat, k ≤ 4 ∧ i = .int .i64 k ∧ Below w.heap.size w wr ∧ Hb wr w.heap.size x ∧ Hb wr (w.heap.size + 1) y ∧ Hb wr (w.heap.size + 1 + 1) z4 ∧ Hb wr (w.heap.size + 1 + 1 + 1) (jn F x y k)) (fun i _ => 4 - (intOf i).toNat)
  case atStart =>
    refine ⟨0, by omega, rfl, ?_, ?_, ?_, ?_, ?_⟩
    · exact ((((Below.refl _ _).alloc (Nat.le_refl _) _).alloc (by simp) _).alloc (by simp; omega) _).alloc (by simp; omega) _
    · exact (((Hb.new _ x _ rfl).alloc _).alloc _).alloc _
    · exact ((Hb.new _ y _ (by simp)).alloc _).alloc _
    · exact (Hb.new _ z4 _ (by simp)).alloc _
    · exact Hb.new _ (jn F x y 0) _ (by simp)
  case round =>
    obtain ⟨k, hk, rfl, hB, hX, hY, hZ, hJ⟩ := hrel
    by_cases hlt : k < 4
    · have cx := hX.cell k hlt
      have cy := hY.cell k hlt
      have cj := hJ.cell k hlt
      have fj := hJ.frozen k
      have i0 : (0 : Int) ≤ (k : Int) := by omega
      have i1 : (k : Int) < 4 := by omega
      have sx := fun v => (hX.other ⟨w.heap.size + 1 + 1 + 1, k, none⟩ v (by simp only; omega)).cell k hlt
      have sy := fun v => (hY.other ⟨w.heap.size + 1 + 1 + 1, k, none⟩ v (by simp only; omega)).cell k hlt
      go_wp2_with fail
      go_region_held3 (fun w' => w'.cell? ⟨w.heap.size, k, none⟩ = some (.int .u64 (x.w k)) ∧ w'.cell? ⟨w.heap.size + 1, k, none⟩ = some (.int .u64 (y.w k))) (go_keep)
        (first | (refine (HG.out _ _ _).mono ?_; rintro e w' ⟨rfl, rfl⟩))
      all_goals go_wp2
      refine ⟨⟨k + 1, by omega, by go_num, ?_, ?_, ?_, ?_, ?_⟩, by simp [intOf]; omega⟩
      · exact (hB.setCell (by simp; omega) _).drew
      · exact (hX.other _ _ (by simp only; omega)).drew
      · exact (hY.other _ _ (by simp only; omega)).drew
      · exact (hZ.other _ _ (by simp only; omega)).drew
      · rw [← jn_put F x y k hlt]
        exact (hJ.store k hlt _).drew
    · have hk4 : k = 4 := by omega
      subst hk4
      have c0 := hJ.c0
      have c1 := hJ.c1
      have c2 := hJ.c2
      have c3 := hJ.c3
      have d0 := hZ.c0
      have d1 := hZ.c1
      have d2 := hZ.c2
      have d3 := hZ.c3
      have f0 := hZ.frozen 0
      have f1 := hZ.frozen 1
      have f2 := hZ.frozen 2
      have f3 := hZ.frozen 3
      go_wp2
      have hq := hZ.put4 (jn F x y 4)
      refine bodyPost_ret (v := (jn F x y 4).v) (by simp [results, Tryd.results34, go_sem, hq.c0, hq.c1, hq.c2, hq.c3]) rfl ⟨rfl, ?_⟩
      exact (((hB.setCell (by simp; omega) _).setCell (by simp; omega) _).setCell (by simp; omega) _).setCell (by simp; omega) _

theorem enters_either1 : ∀ args w, (callFunc 40 args).run Tryd.prog w = .ok (.enter 40 args) w := fun _ _ => by kernel_rfl
theorem enters_not1 : ∀ args w, (callFunc 35 args).run Tryd.prog w = .ok (.enter 35 args) w := fun _ _ => by kernel_rfl
set_option maxHeartbeats 400000 in
theorem either_any (x y : C4) (w : World) :
    Calls Tryd.prog 20 #[x.v, y.v] w fun e w' => e = .returned (x.or y).v ∧ Below w.heap.size w w' := by
  go_enter Tryd.func20, Tryd.ntmps20
  go_wp2_with fail
  refine (join_any 40 _ either1_any enters_either1 x y _).mono ?_
  rintro e w1 ⟨rfl, hb⟩
  have hB : Below w.heap.size w w1 := ((((Below.refl _ _).alloc (Nat.le_refl _) _).alloc (by simp) _).alloc (by simp; omega) _).trans (hb.mono (by simp; omega))
  have hZ : Hb w1 (w.heap.size + 1 + 1) z4 := (Hb.new _ z4 _ (by simp)).below hb (by simp)
  obtain ⟨d0, d1, d2, d3, f0, f1, f2, f3⟩ := hZ.all
  go_wp2
  have hq := hZ.put4 (x.or y)
  refine bodyPost_ret (v := (x.or y).v) (by have g0 := hq.c0; have g1 := hq.c1; have g2 := hq.c2; have g3 := hq.c3; simp [jn, C4.and, C4.or, C4.not] at g0 g1 g2 g3 ⊢; simp [results, Tryd.results20, go_sem, C4.and, C4.or, g0, g1, g2, g3]) rfl ⟨rfl, ?_⟩
  exact below_put4 hB (by omega) _
end Go.Proofs.YtmdfdlljeggbbaaDoor
namespace Go.Proofs.YtmdfdlljeggbbaaDoor
set_option linter.unusedSimpArgs false
set_option linter.unusedVariables false
set_option maxRecDepth 100000
open Go.RowKit

set_option maxHeartbeats 400000 in
theorem not_any (x : C4) (w : World) :
    Calls Tryd.prog 11 #[x.v] w fun e w' => e = .returned (x.not).v ∧ Below w.heap.size w w' := by
  go_enter Tryd.func11, Tryd.ntmps11
  go_wp2_with fail
  refine (join_any 35 (fun p _ => not64 p) not1_any enters_not1 x x _).mono ?_
  rintro e w1 ⟨rfl, hb⟩
  have hB : Below w.heap.size w w1 := (((Below.refl _ _).alloc (Nat.le_refl _) _).alloc (by simp) _).trans (hb.mono (by simp; omega))
  have hZ : Hb w1 (w.heap.size + 1) z4 := (Hb.new _ z4 _ (by simp)).below hb (by simp)
  obtain ⟨d0, d1, d2, d3, f0, f1, f2, f3⟩ := hZ.all
  go_wp2
  have hq := hZ.put4 (x.not)
  refine bodyPost_ret (v := (x.not).v) (by have g0 := hq.c0; have g1 := hq.c1; have g2 := hq.c2; have g3 := hq.c3; simp [jn, C4.not] at g0 g1 g2 g3 ⊢; simp [results, Tryd.results11, go_sem, C4.not, g0, g1, g2, g3]) rfl ⟨rfl, ?_⟩
  exact below_put4 hB (by omega) _

theorem index4_0 (k : C4) (w : World) : (Instr.index 24 k.v (.int .i64 0)).run Tryd.prog w = .ok (.int .u64 k.a) w := by kernel_rfl
theorem index4_1 (k : C4) (w : World) : (Instr.index 24 k.v (.int .i64 1)).run Tryd.prog w = .ok (.int .u64 k.b) w := by kernel_rfl
theorem index4_2 (k : C4) (w : World) : (Instr.index 24 k.v (.int .i64 2)).run Tryd.prog w = .ok (.int .u64 k.c) w := by kernel_rfl
theorem index4_3 (k : C4) (w : World) : (Instr.index 24 k.v (.int .i64 3)).run Tryd.prog w = .ok (.int .u64 k.d) w := by kernel_rfl
theorem index4 (k : C4) (i : Nat) (h : i < 4) (w : World) : (Instr.index 24 k.v (.int .i64 i)).run Tryd.prog w = .ok (.int .u64 (k.w i)) w := by
  match i, h with
  | 0, _ => exact index4_0 k w
  | 1, _ => exact index4_1 k w
  | 2, _ => exact index4_2 k w
  | 3, _ => exact index4_3 k w

set_option maxHeartbeats 400000 in
theorem many_any (k : C4) (w : World) :
    Calls Tryd.prog 13 #[k.v] w fun e w' => e = .returned (.int .i64 (k.many 4)) ∧ Below w.heap.size w w' := by
  go_enter Tryd.func13, Tryd.ntmps13
  go_wp2
  go_loop [3, 7] (fun n i => ∃ j : Nat, j ≤ 4 ∧ i = .int .i64 j ∧ n = .int .i64 (k.many j)) (fun _ i => 4 - (intOf i).toNat)
  case atStart => exact ⟨0, by omega, rfl, rfl⟩
  case round =>
    obtain ⟨j, hj, rfl, rfl⟩ := hrel
    by_cases hlt : j < 4
    · have hi := index4 k j hlt
      go_wp2_with (first | (go_at_call 36; refine (ones_any _ _).mono ?_; rintro e w' ⟨rfl, rfl⟩))
      go_round
      case rel => exact ⟨j + 1, by omega, by go_num, rfl⟩
      case measure => simp [intOf]; omega
    · have hj4 : j = 4 := by omega
      subst hj4
      go_wp2
      go_ret
      exact ⟨rfl, (Below.refl _ _).alloc (Nat.le_refl _) _⟩

set_option maxHeartbeats 1000000 in
theorem of_any (s : ByteArray) (w : World) (hs : s.size ≤ maxLen) :
    Calls Tryd.prog 9 #[.string s] w fun e w' => e = .returned (C4.ofL s.data.toList).v ∧ Below w.heap.size w w' := by
  unfold maxLen at hs
  go_enter Tryd.func9, Tryd.ntmps9
  go_wp2
  go_loopw [7] (fun i wr => ∃ k : Nat, k ≤ s.size ∧ i = .int .i64 k ∧ Below w.heap.size w wr ∧ Hb wr w.heap.size z4 ∧ Hb wr (w.heap.size + 1) (C4.ofL (s.data.toList.take k))) (fun i _ => s.size - (intOf i).toNat)
  case atStart =>
    refine ⟨0, by omega, rfl, ?_, ?_, ?_⟩
    · exact ((Below.refl _ _).alloc (Nat.le_refl _) _).alloc (by simp) _
    · exact (Hb.new _ z4 _ rfl).alloc _
    · exact Hb.new _ z4 _ (by simp)
  case round =>
    obtain ⟨k, hk, rfl, hB, hZ, hC⟩ := hrel
    by_cases hlt : k < s.size
    · obtain ⟨c0, c1, c2, c3, e0, e1, e2, e3⟩ := hC.all
      have i0 : (0 : Int) ≤ (k : Int) := by omega
      have i1 : (k : Int) < (s.size : Int) := by omega
      have hg : s.data.toList[k]? = some s[k] := by
        rw [List.getElem?_eq_getElem (by simpa using hlt)]; rfl
      have hts : s.data.toList.take (k + 1) = s.data.toList.take k ++ [s[k]] := by
        rw [List.take_succ_eq_append_getElem (by simpa using hlt)]; rfl
      have HT : Hid (C4.ofL (s.data.toList.take (k + 1)) = (C4.ofL (s.data.toList.take k)).add (s[k].toNat : Int)) := by rw [hts, C4.ofL_snoc]; exact rfl
      clear hts hg
      have hlb : (s[k].toNat : Int) < 256 := by have := s[k].toNat_lt; omega
      have hl0 : (0 : Int) ≤ (s[k].toNat : Int) := by omega
      go_wp2_with fail
      go_region_with (first | (go_at_call 32; refine (with_any (C4.ofL (s.data.toList.take k)) _ _ hl0 hlb).mono ?_; rintro e w' ⟨rfl, hb⟩; have hC1 := Hb.below hC.drew hb hC.lt; obtain ⟨g0, g1, g2, g3, q0, q1, q2, q3⟩ := hC1.all))
      all_goals
        go_wp2
        refine ⟨⟨k + 1, by omega, by go_num, ?_, ?_, ?_⟩, by simp [intOf]; omega⟩
        · exact below_put4 (hB.drew.trans (hb.mono hB.size)) (by omega) _
        · exact Hb.other4 (Hb.below hZ.drew hb hZ.lt) _ (by omega)
        · rw [HT.out]; exact hC1.put4 _
    · have hk4 : k = s.size := by omega
      subst hk4
      have ht : s.data.toList.take s.size = s.data.toList := List.take_of_length_le (by simp)
      rw [ht] at hC
      clear ht
      obtain ⟨c0, c1, c2, c3, e0, e1, e2, e3⟩ := hC.all
      obtain ⟨d0, d1, d2, d3, f0, f1, f2, f3⟩ := hZ.all
      go_wp2
      have hq := hZ.put4 (C4.ofL s.data.toList)
      refine bodyPost_ret (v := (C4.ofL s.data.toList).v) (by simp [results, Tryd.results9, go_sem, hq.c0, hq.c1, hq.c2, hq.c3]) rfl ⟨rfl, ?_⟩
      exact below_put4 hB (by omega) _
end Go.Proofs.YtmdfdlljeggbbaaDoor
