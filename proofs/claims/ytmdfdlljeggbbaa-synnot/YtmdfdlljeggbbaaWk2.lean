/- What each call of package class does: second part: Not, Many, Of. -/
import Derived.Test.YtmdfdlljeggbbaaWk1
set_option linter.unusedSimpArgs false
set_option linter.unusedVariables false
set_option maxRecDepth 100000
namespace Go.Proofs.Ytmdfdlljeggbbaa
open Go.RowKit

set_option maxHeartbeats 400000 in
theorem not_any (x : C4) (w : World) :
    Calls Try.prog 10 #[x.v] w fun e w' => e = .returned (x.not).v ∧ Below w.heap.size w w' := by
  go_enter Try.func10, Try.ntmps10
  go_wp2_with fail
  refine (join_any 21 (fun p _ => not64 p) not1_any enters_not1 x x _).mono ?_
  rintro e w1 ⟨rfl, hb⟩
  have hB : Below w.heap.size w w1 := (((Below.refl _ _).alloc (Nat.le_refl _) _).alloc (by simp) _).trans (hb.mono (by simp; omega))
  have hZ : Hb w1 (w.heap.size + 1) z4 := (Hb.new _ z4 _ (by simp)).below hb (by simp)
  obtain ⟨d0, d1, d2, d3, f0, f1, f2, f3⟩ := hZ.all
  go_wp2
  have hq := hZ.put4 (x.not)
  refine bodyPost_ret (v := (x.not).v) (by have g0 := hq.c0; have g1 := hq.c1; have g2 := hq.c2; have g3 := hq.c3; simp [jn, C4.not] at g0 g1 g2 g3 ⊢; simp [results, Try.results10, go_sem, C4.not, g0, g1, g2, g3]) rfl ⟨rfl, ?_⟩
  exact below_put4 hB (by omega) _

theorem index4_0 (k : C4) (w : World) : (Instr.index 24 k.v (.int .i64 0)).run Try.prog w = .ok (.int .u64 k.a) w := by kernel_rfl
theorem index4_1 (k : C4) (w : World) : (Instr.index 24 k.v (.int .i64 1)).run Try.prog w = .ok (.int .u64 k.b) w := by kernel_rfl
theorem index4_2 (k : C4) (w : World) : (Instr.index 24 k.v (.int .i64 2)).run Try.prog w = .ok (.int .u64 k.c) w := by kernel_rfl
theorem index4_3 (k : C4) (w : World) : (Instr.index 24 k.v (.int .i64 3)).run Try.prog w = .ok (.int .u64 k.d) w := by kernel_rfl
theorem index4 (k : C4) (i : Nat) (h : i < 4) (w : World) : (Instr.index 24 k.v (.int .i64 i)).run Try.prog w = .ok (.int .u64 (k.w i)) w := by
  match i, h with
  | 0, _ => exact index4_0 k w
  | 1, _ => exact index4_1 k w
  | 2, _ => exact index4_2 k w
  | 3, _ => exact index4_3 k w

set_option maxHeartbeats 400000 in
theorem many_any (k : C4) (w : World) :
    Calls Try.prog 11 #[k.v] w fun e w' => e = .returned (.int .i64 (k.many 4)) ∧ Below w.heap.size w w' := by
  go_enter Try.func11, Try.ntmps11
  go_wp2
  go_loop [3, 7] (fun n i => ∃ j : Nat, j ≤ 4 ∧ i = .int .i64 j ∧ n = .int .i64 (k.many j)) (fun _ i => 4 - (intOf i).toNat)
  case atStart => exact ⟨0, by omega, rfl, rfl⟩
  case round =>
    obtain ⟨j, hj, rfl, rfl⟩ := hrel
    by_cases hlt : j < 4
    · have hi := index4 k j hlt
      go_wp2_with (first | (go_at_call 22; refine (ones_any _ _).mono ?_; rintro e w' ⟨rfl, rfl⟩))
      go_round
      case rel => exact ⟨j + 1, by omega, by go_num, rfl⟩
      case measure => simp [intOf]; omega
    · have hj4 : j = 4 := by omega
      subst hj4
      go_wp2
      go_ret
      exact ⟨rfl, (Below.refl _ _).alloc (Nat.le_refl _) _⟩

set_option maxHeartbeats 1000000 in
theorem of_any (s : ByteArray) (w : World) (hs : s.size ≤ maxLen) :
    Calls Try.prog 7 #[.string s] w fun e w' => e = .returned (C4.ofL s.data.toList).v ∧ Below w.heap.size w w' := by
  unfold maxLen at hs
  go_enter Try.func7, Try.ntmps7
  go_wp2
  go_loopw [7] (fun i wr => ∃ k : Nat, k ≤ s.size ∧ i = .int .i64 k ∧ Below w.heap.size w wr ∧ Hb wr w.heap.size z4 ∧ Hb wr (w.heap.size + 1) (C4.ofL (s.data.toList.take k))) (fun i _ => s.size - (intOf i).toNat)
  case atStart =>
    refine ⟨0, by omega, rfl, ?_, ?_, ?_⟩
    · exact ((Below.refl _ _).alloc (Nat.le_refl _) _).alloc (by simp) _
    · exact (Hb.new _ z4 _ rfl).alloc _
    · exact Hb.new _ z4 _ (by simp)
  case round =>
    obtain ⟨k, hk, rfl, hB, hZ, hC⟩ := hrel
    by_cases hlt : k < s.size
    · obtain ⟨c0, c1, c2, c3, e0, e1, e2, e3⟩ := hC.all
      have i0 : (0 : Int) ≤ (k : Int) := by omega
      have i1 : (k : Int) < (s.size : Int) := by omega
      have hg : s.data.toList[k]? = some s[k] := by
        rw [List.getElem?_eq_getElem (by simpa using hlt)]; rfl
      have hts : s.data.toList.take (k + 1) = s.data.toList.take k ++ [s[k]] := by
        rw [List.take_succ_eq_append_getElem (by simpa using hlt)]; rfl
      have HT : Hid (C4.ofL (s.data.toList.take (k + 1)) = (C4.ofL (s.data.toList.take k)).add (s[k].toNat : Int)) := by rw [hts, C4.ofL_snoc]; exact rfl
      clear hts hg
      have hlb : (s[k].toNat : Int) < 256 := by have := s[k].toNat_lt; omega
      have hl0 : (0 : Int) ≤ (s[k].toNat : Int) := by omega
      go_wp2_with fail
      go_region_with (first | (go_at_call 17; refine (with_any (C4.ofL (s.data.toList.take k)) _ _ hl0 hlb).mono ?_; rintro e w' ⟨rfl, hb⟩; have hC1 := Hb.below hC.drew hb hC.lt; obtain ⟨g0, g1, g2, g3, q0, q1, q2, q3⟩ := hC1.all))
      all_goals
        go_wp2
        refine ⟨⟨k + 1, by omega, by go_num, ?_, ?_, ?_⟩, by simp [intOf]; omega⟩
        · exact below_put4 (hB.drew.trans (hb.mono hB.size)) (by omega) _
        · exact Hb.other4 (Hb.below hZ.drew hb hZ.lt) _ (by omega)
        · rw [HT.out]; exact hC1.put4 _
    · have hk4 : k = s.size := by omega
      subst hk4
      have ht : s.data.toList.take s.size = s.data.toList := List.take_of_length_le (by simp)
      rw [ht] at hC
      clear ht
      obtain ⟨c0, c1, c2, c3, e0, e1, e2, e3⟩ := hC.all
      obtain ⟨d0, d1, d2, d3, f0, f1, f2, f3⟩ := hZ.all
      go_wp2
      have hq := hZ.put4 (C4.ofL s.data.toList)
      refine bodyPost_ret (v := (C4.ofL s.data.toList).v) (by simp [results, Try.results7, go_sem, hq.c0, hq.c1, hq.c2, hq.c3]) rfl ⟨rfl, ?_⟩
      exact below_put4 hB (by omega) _
end Go.Proofs.Ytmdfdlljeggbbaa
