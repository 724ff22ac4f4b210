/- What the document's own functions answer: With, OfText, Others, Count. -/
import Derived.Test.YthahnpaigmbiaaaDoorRf1
set_option linter.unusedSimpArgs false
set_option linter.unusedVariables false
namespace Go.Proofs.YthahnpaigmbiaaaDoor
open Go.RowKit

set_option maxHeartbeats 1000000 in
theorem withR_not (k : C4) (hk : k.ok) (b : Nat) (hb : b < 256) (hn : k.has b = false) (w : World) :
    Calls Tryd.prog 4 #[k.v, .int .i64 b] w fun e w' => e = .returned (k.add b).v ∧ Below w.heap.size w w' := by
  have HA : Hid _ := C4.put_add hk b hb hn
  have hx0 : (0 : Int) ≤ (b : Int) := by omega
  have hx1 : (b : Int) < 256 := by omega
  go_enter Tryd.func4, Tryd.ntmps4
  go_wp2_with fail
  refine (in_any k hk b hb _).mono ?_
  rintro e w1 ⟨rfl, hb1⟩
  have hK : Hb w1 w.heap.size k := ((Hb.new w k _ rfl).alloc _).below hb1 (by simp; omega)
  have hZ : Hb w1 (w.heap.size + 1) z4 := (Hb.new _ z4 _ (by simp)).below hb1 (by simp)
  have hB : Below w.heap.size w w1 := (((Below.refl _ _).alloc (Nat.le_refl _) _).alloc (by simp) _).trans (hb1.mono (by simp; omega))
  generalize hx : (b : Int) = x at *
  go_wp2
  go_loop [6, 7] (fun n i => ∃ j z : Nat, (j : Int) ≤ x % 64 ∧ Hid (z = 2 ^ j) ∧ i = .int .i64 j ∧ n = .int .u64 (z : Int)) (fun _ i => (x % 64).toNat - (intOf i).toNat)
  case atStart => exact ⟨0, 1, by omega, by show 1 = 2 ^ 0; rfl, rfl, rfl⟩
  case round =>
    obtain ⟨j, z, hj, HZ, rfl, rfl⟩ := hrel
    by_cases hlt : (j : Int) < x % 64
    · go_wp2
      go_round
      case rel =>
        have hz : z * 2 < 18446744073709551616 := by
          rw [HZ.out, ← Nat.pow_succ]
          exact Nat.pow_lt_pow_right (n := 64) (by decide) (by omega)
        exact ⟨j + 1, z * 2, by omega, by show _ = _; rw [HZ.out, Nat.pow_succ], by go_num, wrap_twice z hz⟩
      case measure => simp [intOf]; omega
    · have hj2 : (x % 64).toNat = j := by omega
      have HJ := (show Hid _ from hj2)
      clear hj2
      have cx := hK.cell (x / 64).toNat (by omega)
      have fx := hK.frozen (x / 64).toNat
      have hS := fun v => hK.store (x / 64).toNat (by omega) v
      have hT := fun v => hZ.other ⟨w.heap.size, (x / 64).toNat, none⟩ (.int .u64 v) (by simp only; omega)
      have s0 := fun v => (hS v).c0
      have s1 := fun v => (hS v).c1
      have s2 := fun v => (hS v).c2
      have s3 := fun v => (hS v).c3
      have t0 := fun v => (hT v).c0
      have t1 := fun v => (hT v).c1
      have t2 := fun v => (hT v).c2
      have t3 := fun v => (hT v).c3
      have u0 := fun v => (hT v).frozen 0
      have u1 := fun v => (hT v).frozen 1
      have u2 := fun v => (hT v).frozen 2
      have u3 := fun v => (hT v).frozen 3
      go_wp2
      have ez : k.put (x / 64).toNat (IntKind.u64.wrap (k.w (x / 64).toNat + (z : Int))) = k.add x := by rw [HZ.out, ← HJ.out]; exact HA.out
      have hq := (hT (IntKind.u64.wrap (k.w (x / 64).toNat + (z : Int)))).put4 (k.add x)
      rw [← ez] at hq
      refine bodyPost_ret (v := (k.add x).v) (by rw [← ez]; simp [results, Tryd.results4, go_sem, hq.c0, hq.c1, hq.c2, hq.c3]) rfl ⟨rfl, ?_⟩
      exact below_put4 (hB.setCell (by simp) _) (by omega) _
set_option maxHeartbeats 1000000 in
theorem withR_has (k : C4) (hk : k.ok) (b : Nat) (hb : b < 256) (hn : k.has b = true) (w : World) :
    Calls Tryd.prog 4 #[k.v, .int .i64 b] w fun e w' => e = .returned (k.add b).v ∧ Below w.heap.size w w' := by
  rw [C4.add_same hk b hb hn]
  go_enter Tryd.func4, Tryd.ntmps4
  go_wp2_with fail
  refine (in_any k hk b hb _).mono ?_
  rintro e w1 ⟨rfl, hb1⟩
  have hK : Hb w1 w.heap.size k := ((Hb.new w k _ rfl).alloc _).below hb1 (by simp; omega)
  have hZ : Hb w1 (w.heap.size + 1) z4 := (Hb.new _ z4 _ (by simp)).below hb1 (by simp)
  have hB : Below w.heap.size w w1 := (((Below.refl _ _).alloc (Nat.le_refl _) _).alloc (by simp) _).trans (hb1.mono (by simp; omega))
  obtain ⟨c0, c1, c2, c3, e0, e1, e2, e3⟩ := hK.all
  obtain ⟨d0, d1, d2, d3, f0, f1, f2, f3⟩ := hZ.all
  go_wp2
  have hq := hZ.put4 k
  refine bodyPost_ret (v := k.v) (by simp [results, Tryd.results4, go_sem, hq.c0, hq.c1, hq.c2, hq.c3]) rfl ⟨rfl, ?_⟩
  exact below_put4 hB (by omega) _
theorem withR_z (k : C4) (hk : k.ok) (x : Int) (h0 : 0 ≤ x) (h1 : x < 256) (w : World) :
    Calls Tryd.prog 4 #[k.v, .int .i64 x] w fun e w' => e = .returned (k.add x).v ∧ Below w.heap.size w w' := by
  obtain ⟨b, rfl⟩ := Int.eq_ofNat_of_zero_le h0
  cases hn : k.has b
  · exact withR_not k hk b (by omega) hn w
  · exact withR_has k hk b (by omega) hn w
theorem withR_any (k : C4) (hk : k.ok) (b : Nat) (hb : b < 256) (w : World) :
    Calls Tryd.prog 4 #[k.v, .int .i64 b] w fun e w' => e = .returned (k.add b).v ∧ Below w.heap.size w w' := by
  cases hn : k.has b
  · exact withR_not k hk b hb hn w
  · exact withR_has k hk b hb hn w

set_option maxHeartbeats 1000000 in
theorem ofText_any (s : ByteArray) (w : World) (hs : s.size ≤ maxLen) :
    Calls Tryd.prog 8 #[.string s] w fun e w' => e = .returned (C4.ofL s.data.toList).v ∧ Below w.heap.size w w' := by
  unfold maxLen at hs
  go_enter Tryd.func8, Tryd.ntmps8
  go_wp2
  go_loopw [4] (fun i wr => ∃ k : Nat, k ≤ s.size ∧ i = .int .i64 k ∧ Below w.heap.size w wr ∧ Hb wr w.heap.size z4 ∧ Hb wr (w.heap.size + 1) (C4.ofL (s.data.toList.take k))) (fun i _ => s.size - (intOf i).toNat)
  case atStart =>
    refine ⟨0, by omega, rfl, ?_, ?_, ?_⟩
    · exact ((Below.refl _ _).alloc (Nat.le_refl _) _).alloc (by simp) _
    · exact (Hb.new _ z4 _ rfl).alloc _
    · exact Hb.new _ z4 _ (by simp)
  case round =>
    obtain ⟨k, hk, rfl, hB, hZ, hC⟩ := hrel
    by_cases hlt : k < s.size
    · obtain ⟨c0, c1, c2, c3, e0, e1, e2, e3⟩ := hC.all
      have i0 : (0 : Int) ≤ (k : Int) := by omega
      have i1 : (k : Int) < (s.size : Int) := by omega
      have hts : s.data.toList.take (k + 1) = s.data.toList.take k ++ [s[k]] := by
        rw [List.take_succ_eq_append_getElem (by simpa using hlt)]; rfl
      have HT : Hid (C4.ofL (s.data.toList.take (k + 1)) = (C4.ofL (s.data.toList.take k)).add (s[k].toNat : Int)) := by rw [hts, C4.ofL_snoc]; exact rfl
      clear hts
      have hlb : s[k].toNat < 256 := s[k].toNat_lt
      have hwr : IntKind.i64.wrap (s[k].toNat : Int) = (s[k].toNat : Int) := by rw [IntKind.wrap_i64]; omega
      have hok := ofL_ok (s.data.toList.take k)
      have HO := (show Hid _ from hok)
      clear hok
      go_wp2_with fail
      go_region_with (first | (go_at_call 4; refine (withR_any (C4.ofL (s.data.toList.take k)) HO.out _ hlb _).mono ?_; rintro e w' ⟨rfl, hb⟩; have hC1 := Hb.below hC.drew hb hC.lt; obtain ⟨g0, g1, g2, g3, q0, q1, q2, q3⟩ := hC1.all))
      all_goals
        go_wp2
        refine ⟨⟨k + 1, by omega, by go_num, ?_, ?_, ?_⟩, by simp [intOf]; omega⟩
        · exact below_put4 (hB.drew.trans (hb.mono hB.size)) (by omega) _
        · exact Hb.other4 (Hb.below hZ.drew hb hZ.lt) _ (by omega)
        · rw [HT.out]; exact hC1.put4 _
    · have hk4 : k = s.size := by omega
      subst hk4
      have ht : s.data.toList.take s.size = s.data.toList := List.take_of_length_le (by simp)
      rw [ht] at hC
      clear ht
      obtain ⟨c0, c1, c2, c3, e0, e1, e2, e3⟩ := hC.all
      obtain ⟨d0, d1, d2, d3, f0, f1, f2, f3⟩ := hZ.all
      go_wp2
      have hq := hZ.put4 (C4.ofL s.data.toList)
      refine bodyPost_ret (v := (C4.ofL s.data.toList).v) (by simp [results, Tryd.results8, go_sem, hq.c0, hq.c1, hq.c2, hq.c3]) rfl ⟨rfl, ?_⟩
      exact below_put4 hB (by omega) _
/-! Others, Count -/
def oth (k : C4) : Nat → C4
  | 0 => z4
  | i + 1 => if k.has i then oth k i else (oth k i).add (i : Int)
theorem oth_ok (k : C4) : ∀ i, (oth k i).ok
  | 0 => z4_ok
  | i + 1 => by
    rw [oth]
    split
    · exact oth_ok k i
    · exact C4.add_ok (oth_ok k i) i
theorem oth_has (k : C4) (n : Nat) (hn : n < 256) : ∀ i, i ≤ 256 → (oth k i).has n = (decide (n < i) && !k.has n)
  | 0, _ => by rw [oth, z4_has]; simp
  | i + 1, hi => by
    have ih := oth_has k n hn i (by omega)
    rw [oth]
    by_cases hk : k.has i = true
    · rw [if_pos hk, ih]
      by_cases e : n = i
      · subst e; simp [hk]
      · have : (n < i + 1) ↔ (n < i) := by omega
        simp only [this]
    · rw [if_neg hk, C4.has_add (oth_ok k i) i n (by omega) hn, ih]
      by_cases e : i = n
      · subst e; simp [hk]
      · have : (n < i + 1) ↔ (n < i) := by omega
        simp only [this, e, decide_false, Bool.or_false]
theorem oth_not {k : C4} (hk : k.ok) : oth k 256 = k.not := by
  apply C4.ext_has (oth_ok k 256) (C4.not_ok hk)
  intro i hi
  rw [oth_has k i hi 256 (Nat.le_refl _), C4.has_not hk]
  simp [hi]
set_option maxHeartbeats 1000000 in
theorem others_any (k : C4) (hk : k.ok) (w : World) :
    Calls Tryd.prog 10 #[k.v] w fun e w' => e = .returned k.not.v ∧ Below w.heap.size w w' := by
  rw [← oth_not hk]
  go_enter Tryd.func10, Tryd.ntmps10
  go_wp2
  go_loopw [4] (fun v wr => ∃ i : Nat, i ≤ 256 ∧ v = .int .i64 i ∧ Below w.heap.size w wr ∧ Hb wr w.heap.size k ∧ Hb wr (w.heap.size + 1) z4 ∧ Hb wr (w.heap.size + 1 + 1) (oth k i)) (fun v _ => 256 - (intOf v).toNat)
  case atStart =>
    refine ⟨0, by omega, rfl, ?_, ?_, ?_, ?_⟩
    · exact (((Below.refl _ _).alloc (Nat.le_refl _) _).alloc (by simp) _).alloc (by simp; omega) _
    · exact ((Hb.new _ k _ rfl).alloc _).alloc _
    · exact (Hb.new _ z4 _ (by simp)).alloc _
    · exact Hb.new _ z4 _ (by simp)
  case round =>
    obtain ⟨i, hi, rfl, hB, hK, hZ, hO⟩ := hrel
    obtain ⟨c0, c1, c2, c3, e0, e1, e2, e3⟩ := hK.all
    by_cases hlt : i < 256
    · have i1 : (i : Int) < 256 := by omega
      go_wp2_with fail
      refine (in_any k hk i hlt _).mono ?_
      rintro e w1 ⟨rfl, hb1⟩
      have hB1 := hB.trans (hb1.mono hB.size)
      have hK1 := hK.below hb1 hK.lt
      have hZ1 := hZ.below hb1 hZ.lt
      have hO1 := hO.below hb1 hO.lt
      cases hn : k.has i
      · have HE : Hid (oth k (i + 1) = (oth k i).add (i : Int)) := by show _ = _; rw [oth, hn]; rfl
        obtain ⟨o0, o1, o2, o3, p0, p1, p2, p3⟩ := hO1.all
        go_wp2_with fail
        refine (withR_any (oth k i) (oth_ok k i) i hlt _).mono ?_
        rintro e w2 ⟨rfl, hb2⟩
        have hO2 := hO1.below hb2 hO1.lt
        obtain ⟨r0, r1, r2, r3, t0, t1, t2, t3⟩ := hO2.all
        go_wp2
        refine ⟨⟨i + 1, by omega, by go_num, ?_, ?_, ?_, ?_⟩, by simp [intOf]; omega⟩
        · exact below_put4 (hB1.trans (hb2.mono hB1.size)) (by omega) _
        · exact Hb.other4 (hK1.below hb2 hK1.lt) _ (by omega)
        · exact Hb.other4 (hZ1.below hb2 hZ1.lt) _ (by omega)
        · rw [HE.out]; exact hO2.put4 _
      · have HE : Hid (oth k (i + 1) = oth k i) := by show _ = _; rw [oth, hn]; rfl
        go_wp2
        refine ⟨⟨i + 1, by omega, by go_num, hB1, hK1, hZ1, ?_⟩, by simp [intOf]; omega⟩
        rw [HE.out]; exact hO1
    · have hi2 : i = 256 := by omega
      subst hi2
      obtain ⟨o0, o1, o2, o3, p0, p1, p2, p3⟩ := hO.all
      obtain ⟨d0, d1, d2, d3, f0, f1, f2, f3⟩ := hZ.all
      go_wp2
      have hq := hZ.put4 (oth k 256)
      refine bodyPost_ret (v := (oth k 256).v) (by simp [results, Tryd.results10, go_sem, hq.c0, hq.c1, hq.c2, hq.c3]) rfl ⟨rfl, ?_⟩
      exact below_put4 hB (by omega) _
set_option maxHeartbeats 1000000 in
theorem count_any (k : C4) (hk : k.ok) (w : World) :
    Calls Tryd.prog 12 #[k.v] w fun e w' => e = .returned (.int .i64 (cnt k.has 256)) ∧ Below w.heap.size w w' := by
  go_enter Tryd.func12, Tryd.ntmps12
  go_wp2
  go_loopw [3, 4] (fun u v wr => ∃ i c : Nat, i ≤ 256 ∧ c ≤ i ∧ Hid (c = cnt k.has i) ∧ v = .int .i64 i ∧ u = .int .i64 c ∧ Below w.heap.size w wr ∧ Hb wr w.heap.size k) (fun _ v _ => 256 - (intOf v).toNat)
  case atStart => exact ⟨0, 0, by omega, by omega, Eq.refl _, rfl, rfl, (Below.refl _ _).alloc (Nat.le_refl _) _, Hb.new _ k _ rfl⟩
  case round =>
    obtain ⟨i, c, hi, hc, HC, rfl, rfl, hB, hK⟩ := hrel
    obtain ⟨c0, c1, c2, c3, e0, e1, e2, e3⟩ := hK.all
    by_cases hlt : i < 256
    · have i1 : (i : Int) < 256 := by omega
      go_wp2_with fail
      refine (in_any k hk i hlt _).mono ?_
      rintro e w1 ⟨rfl, hb1⟩
      have hB1 := hB.trans (hb1.mono hB.size)
      have hK1 := hK.below hb1 hK.lt
      cases hn : k.has i
      · have HE : Hid (c = cnt k.has (i + 1)) := by show _ = _; rw [cnt, hn, HC.out]; rfl
        go_wp2
        exact ⟨⟨i + 1, c, by omega, by omega, HE, by go_num, by go_num, hB1, hK1⟩, by simp [intOf]; omega⟩
      · have HE : Hid (c + 1 = cnt k.has (i + 1)) := by show _ = _; rw [cnt, hn, HC.out]; rfl
        go_wp2
        exact ⟨⟨i + 1, c + 1, by omega, by omega, HE, by go_num, by go_num, hB1, hK1⟩, by simp [intOf]; omega⟩
    · have hi2 : i = 256 := by omega
      subst hi2
      go_wp2
      go_ret
      exact ⟨ret_int (by rw [HC.out]), hB⟩
end Go.Proofs.YthahnpaigmbiaaaDoor
