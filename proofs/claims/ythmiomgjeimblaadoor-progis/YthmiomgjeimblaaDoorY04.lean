/- What the document's own functions (package winnowfanref1) answer: In, With, OfText, Others, Count. What the document's own functions answer: Count. What the document's own functions answer: Fault. What the document's own functions answer: StepsFault. (Made by wip/tools/genstf.py.) Plain mathematics of classes, fourth part: a class can be read back out of its text; so two classes have other texts. -/
import Derived.Test.YthmiomgjeimblaaDoorY01
import Derived.Test.YthmiomgjeimblaaDoorY02
import Derived.Test.YthmiomgjeimblaaDoorY03
namespace Go.Proofs.YthmiomgjeimblaaDoor
set_option linter.unusedSimpArgs false
set_option linter.unusedVariables false
open Go.RowKit

theorem half_step (m i : Nat) : ((m / 2 ^ i : Nat) : Int) / 2 = ((m / 2 ^ (i + 1) : Nat) : Int) := by
  rw [Nat.pow_succ, ← Nat.div_div_eq_div_mul]
  omega
theorem tb_mod (m j : Nat) : (((m / 2 ^ j : Nat) : Int) % 2 == 1) = m.testBit j := by
  rw [tb_eq]
  generalize m / 2 ^ j = z
  by_cases h : z % 2 = 1
  · rw [h]
    have : (z : Int) % 2 = 1 := by omega
    rw [this]; rfl
  · have : ¬ (z : Int) % 2 = 1 := by omega
    simp only [h, decide_false]
    rw [beq_eq_false_iff_ne]
    exact this

theorem wrap_half (z : Nat) (h : z < 18446744073709551616) : Value.int IntKind.u64 (IntKind.u64.wrap ((z : Int) / 2)) = Value.int IntKind.u64 ((z / 2 : Nat) : Int) := by
  have e : (z : Int) / 2 = ((z / 2 : Nat) : Int) := by omega
  rw [e, u64_small _ (by omega)]
theorem wrap_twice (z : Nat) (h : z * 2 < 18446744073709551616) : Value.int IntKind.u64 (IntKind.u64.wrap ((z : Int) * 2)) = Value.int IntKind.u64 ((z * 2 : Nat) : Int) := by
  have e : (z : Int) * 2 = ((z * 2 : Nat) : Int) := by omega
  rw [e, u64_small _ h]
set_option maxHeartbeats 400000 in
theorem in_walk (k : C4) (x : Int) (h0 : 0 ≤ x) (hb : x < 256) (m : Nat) (hm : k.w (x / 64).toNat = (m : Int)) (hml : m < 18446744073709551616) (w : World) :
    Calls Tryd.prog 17 #[k.v, .int .i64 x] w fun e w' => e = .returned (.bool (m.testBit (x % 64).toNat)) ∧ Below w.heap.size w w' := by
  have hw := k.get (x / 64).toNat (by omega)
  rw [hm] at hw
  have HL := (show Hid _ from hml)
  clear hm hml
  go_enter Tryd.func17, Tryd.ntmps17
  go_wp2
  go_loop [5, 6] (fun n i => ∃ j z : Nat, (j : Int) ≤ x % 64 ∧ Hid (z = m / 2 ^ j) ∧ i = .int .i64 j ∧ n = .int .u64 (z : Int)) (fun _ i => (x % 64).toNat - (intOf i).toNat)
  case atStart => exact ⟨0, m, by omega, by show m = m / 2 ^ 0; simp, rfl, rfl⟩
  case round =>
    obtain ⟨j, z, hj, HZ, rfl, rfl⟩ := hrel
    by_cases hlt : (j : Int) < x % 64
    · go_wp2
      go_round
      case rel =>
        have hz : z < 18446744073709551616 := by rw [HZ.out]; exact Nat.lt_of_le_of_lt (Nat.div_le_self _ _) HL.out
        exact ⟨j + 1, z / 2, by omega, by show _ = _; rw [HZ.out, Nat.pow_succ, ← Nat.div_div_eq_div_mul], by go_num, wrap_half z hz⟩
      case measure => simp [intOf]; omega
    · have hj2 : (x % 64).toNat = j := by omega
      have HJ := (show Hid _ from hj2)
      clear hj2
      go_wp2
      go_ret
      refine ⟨?_, (Below.refl _ _).alloc (Nat.le_refl _) _⟩
      show Ending.returned (.bool ((z : Int) % 2 == 1)) = _
      rw [HJ.out, ← tb_mod, ← HZ.out]
theorem in_any (k : C4) (hk : k.ok) (b : Nat) (hb : b < 256) (w : World) :
    Calls Tryd.prog 17 #[k.v, .int .i64 b] w fun e w' => e = .returned (.bool (k.has b)) ∧ Below w.heap.size w w' := by
  obtain ⟨m, hm, hl⟩ := okW_nat (C4.ok_w hk (b / 64))
  have e1 : ((b : Int) / 64).toNat = b / 64 := by omega
  have e2 : ((b : Int) % 64).toNat = b % 64 := by omega
  have h := in_walk k b (by omega) (by omega) m (by rw [e1]; exact hm) hl w
  rw [e2] at h
  have e3 : k.has b = m.testBit (b % 64) := by unfold C4.has; rw [hm, Int.toNat_natCast]
  rw [e3]
  exact h

/-! With: a byte more -/
theorem add_is_or (x j : Nat) (h : x.testBit j = false) : x + 2 ^ j = x ||| 2 ^ j := by
  have hb : x / 2 ^ j % 2 = 0 := by
    rw [tb_eq] at h
    have := of_decide_eq_false h
    omega
  have hp : 0 < 2 ^ j := Nat.two_pow_pos j
  have e1 : x = 2 ^ (j + 1) * (x / 2 ^ j / 2) + x % 2 ^ j := by
    have a1 := Nat.div_add_mod x (2 ^ j)
    have a2 : x / 2 ^ j = 2 * (x / 2 ^ j / 2) := by omega
    rw [Nat.pow_succ, Nat.mul_assoc]
    rw [a2] at a1
    omega
  have hlo : x % 2 ^ j < 2 ^ j := Nat.mod_lt _ hp
  generalize x % 2 ^ j = lo at *
  generalize x / 2 ^ j / 2 = A at *
  have j1 : 2 ^ (j + 1) * A ||| lo = 2 ^ (j + 1) * A + lo := nat_join j _ _ (by rw [Nat.pow_succ, Nat.mul_assoc, Nat.mul_mod_right]) hlo
  have j2 : 2 ^ (j + 1) * A ||| 2 ^ j = 2 ^ (j + 1) * A + 2 ^ j := nat_join (j + 1) _ _ (by rw [Nat.mul_mod_right]) (by rw [Nat.pow_succ]; omega)
  have j3 : (2 ^ (j + 1) * A + 2 ^ j) ||| lo = 2 ^ (j + 1) * A + 2 ^ j + lo := nat_join j _ _ (by rw [Nat.pow_succ, Nat.mul_assoc, ← Nat.mul_succ, Nat.mul_mod_right]) hlo
  rw [e1]
  rw [← j1, Nat.or_assoc, Nat.or_comm lo, ← Nat.or_assoc, j2, j3, j1]
  omega
theorem C4.put_add {k : C4} (hk : k.ok) (b : Nat) (hb : b < 256) (h : k.has b = false) : k.put ((b : Int) / 64).toNat (IntKind.u64.wrap (k.w ((b : Int) / 64).toNat + ((2 ^ ((b : Int) % 64).toNat : Nat) : Int))) = k.add (b : Int) := by
  have e1 : ((b : Int) / 64).toNat = b / 64 := by omega
  have e2 : ((b : Int) % 64).toNat = b % 64 := by omega
  unfold C4.add
  rw [e1, e2]
  obtain ⟨m, hm, hl⟩ := okW_nat (C4.ok_w hk (b / 64))
  have e3 : m.testBit (b % 64) = false := by
    unfold C4.has at h
    rwa [hm, Int.toNat_natCast] at h
  rw [hm]
  congr 1
  have h2 : 2 ^ (b % 64) < 2 ^ 64 := Nat.pow_lt_pow_right (by decide) (by omega)
  have ew : IntKind.u64.wrap (2 ^ (b % 64)) = ((2 ^ (b % 64) : Nat) : Int) := by
    have := u64_small (2 ^ (b % 64)) h2
    rw [Int.natCast_pow] at this
    rw [Int.natCast_pow]
    exact this
  have ho : m ||| 2 ^ (b % 64) < 2 ^ 64 := Nat.or_lt_two_pow hl h2
  rw [ew, u64_or_nat m _ hl h2, ← Int.natCast_add, add_is_or m _ e3]
  exact u64_small _ ho
theorem C4.add_same {k : C4} (hk : k.ok) (b : Nat) (hb : b < 256) (h : k.has b = true) : k.add (b : Int) = k := by
  apply C4.ext_has (C4.add_ok hk b) hk
  intro i hi
  rw [C4.has_add hk b i hb hi]
  by_cases e : b = i
  · subst e; rw [h]; rfl
  · simp [e]
end Go.Proofs.YthmiomgjeimblaaDoor
namespace Go.Proofs.YthmiomgjeimblaaDoor
set_option linter.unusedSimpArgs false
set_option linter.unusedVariables false
open Go.RowKit

set_option maxHeartbeats 1000000 in
theorem count_any (k : C4) (hk : k.ok) (w : World) :
    Calls Tryd.prog 12 #[k.v] w fun e w' => e = .returned (.int .i64 (cnt k.has 256)) ∧ Below w.heap.size w w' := by
  go_enter Tryd.func12, Tryd.ntmps12
  go_wp2
  go_loopw [3, 4] (fun u v wr => ∃ i c : Nat, i ≤ 256 ∧ c ≤ i ∧ Hid (c = cnt k.has i) ∧ v = .int .i64 i ∧ u = .int .i64 c ∧ Below w.heap.size w wr ∧ Hb wr w.heap.size k) (fun _ v _ => 256 - (intOf v).toNat)
  case atStart => exact ⟨0, 0, by omega, by omega, Eq.refl _, rfl, rfl, (Below.refl _ _).alloc (Nat.le_refl _) _, Hb.new _ k _ rfl⟩
  case round =>
    obtain ⟨i, c, hi, hc, HC, rfl, rfl, hB, hK⟩ := hrel
    obtain ⟨c0, c1, c2, c3, e0, e1, e2, e3⟩ := hK.all
    by_cases hlt : i < 256
    · have i1 : (i : Int) < 256 := by omega
      go_wp2_with fail
      refine (in_any k hk i hlt _).mono ?_
      rintro e w1 ⟨rfl, hb1⟩
      have hB1 := hB.trans (hb1.mono hB.size)
      have hK1 := hK.below hb1 hK.lt
      cases hn : k.has i
      · have HE : Hid (c = cnt k.has (i + 1)) := by show _ = _; rw [cnt, hn, HC.out]; rfl
        go_wp2
        exact ⟨⟨i + 1, c, by omega, by omega, HE, by go_num, by go_num, hB1, hK1⟩, by simp [intOf]; omega⟩
      · have HE : Hid (c + 1 = cnt k.has (i + 1)) := by show _ = _; rw [cnt, hn, HC.out]; rfl
        go_wp2
        exact ⟨⟨i + 1, c + 1, by omega, by omega, HE, by go_num, by go_num, hB1, hK1⟩, by simp [intOf]; omega⟩
    · have hi2 : i = 256 := by omega
      subst hi2
      go_wp2
      go_ret
      exact ⟨ret_int (by rw [HC.out]), hB⟩
end Go.Proofs.YthmiomgjeimblaaDoor
namespace Go.Proofs.YthmiomgjeimblaaDoor
set_option linter.unusedSimpArgs false
set_option linter.unusedVariables false
set_option maxRecDepth 100000
open Go.RowKit

theorem count_b (k : C4) (hk : k.ok) (w : World) :
    Calls Tryd.prog 12 #[k.v] w fun e w' => ∃ c : Nat, e = .returned (.int .i64 c) ∧ Hid (((0 : Int) < (c : Int)) ↔ ¬ k.eqb z4 = true) ∧ c ≤ 256 ∧ Below w.heap.size w w' := by
  refine (count_any k hk w).mono ?_
  rintro e w' ⟨rfl, hb⟩
  exact ⟨cnt k.has 256, rfl, cnt_zero_iff hk, cnt_le _ _, hb⟩
set_option maxHeartbeats 4000000 in
theorem fault_at (ns : List Nd) (ho : NdOk ns) (b off cap : Nat) (hm : ns.length ≤ maxLen) (w : World) (hlt : b < w.heap.size) (hN : NsAt w b off ns) (h0 : 0 < ns.length) :
    Calls Tryd.prog 10 #[.slice (some ⟨b, off, none⟩) ns.length cap] w fun e w' => e = .returned (.int .i64 (faultL ns)) ∧ Below w.heap.size w w' := by
  have HM := (show Hid _ from hm)
  unfold maxLen at hm
  by_cases h60 : 60 < ns.length
  · have g60 : (60 : Int) < (ns.length : Int) := by omega
    have HF : Hid (faultL ns = 3) := by show _ = _; rw [faultL, if_pos h60]
    go_enter Tryd.func10, Tryd.ntmps10
    go_wp2
    go_ret
    exact ⟨by rw [HF.out]; rfl, Below.refl _ _⟩
  · have g60 : ¬ (60 : Int) < (ns.length : Int) := by omega
    go_enter Tryd.func10, Tryd.ntmps10
    go_wp2
    go_loopw [3] (fun v wr => ∃ i : Nat, i ≤ ns.length ∧ v = .int .i64 i ∧ Hid (scanL ns = scanL (ns.drop i)) ∧ Below w.heap.size w wr) (fun v _ => ns.length - (intOf v).toNat)
    case atStart => exact ⟨0, by omega, rfl, Eq.refl _, Below.refl _ _⟩
    case round =>
      obtain ⟨i, hi, rfl, HS, hB⟩ := hrel
      have hNr := hN.below hB hlt
      by_cases hil : i < ns.length
      · obtain ⟨n, hn⟩ : ∃ n, ns[i]? = some n := ⟨ns[i], List.getElem?_eq_getElem hil⟩
        have hno : n.c.ok := ho n (List.mem_of_getElem? hn)
        obtain ⟨c0, c1, c2, c3, c4⟩ := hNr i n hn
        have HD : Hid _ := scan_drop ns i n hn
        have i0 : (0 : Int) ≤ (i : Int) := by omega
        have i1 : (i : Int) < (ns.length : Int) := by omega
        clear hn
        by_cases hr : n.op < 1 ∨ 9 < n.op
        · have HF : Hid (faultL ns = 1) := by
            show _ = _
            have e1 : scanL ns = 1 := by rw [HS.out, HD.out, if_pos hr]
            rw [faultL, if_neg h60, e1]; rfl
          rcases hr with hr | hr
          · go_wp2
            go_ret
            exact ⟨by rw [HF.out]; rfl, hB⟩
          · have hr2 : ¬ n.op < 1 := by omega
            go_wp2
            go_ret
            exact ⟨by rw [HF.out]; rfl, hB⟩
        · have hr1 : ¬ n.op < 1 := by omega
          have hr2 : ¬ 9 < n.op := by omega
          by_cases hb1 : n.op = 1
          · have hb2 : (n.op != 1) = false := by simp [hb1]
            have HS2 : Hid (scanL ns = scanL (ns.drop (i + 1))) := by
              show _ = _
              rw [HS.out, HD.out, if_neg hr, if_neg (by simp [hb1])]
            clear hb1
            go_wp2
            exact ⟨⟨i + 1, by omega, by go_num, HS2, hB⟩, by simp [intOf]; omega⟩
          · have hb2 : (n.op != 1) = true := by simp [hb1]
            go_wp2_with fail
            refine (count_b n.c hno _).mono ?_
            rintro e w1 ⟨c, rfl, HC, hc, hb3⟩
            have hB1 := hB.trans (hb3.mono hB.size)
            by_cases hz : n.c.eqb z4 = true
            · have gz : ¬ (0 : Int) < (c : Int) := fun h => (HC.out.1 h) hz
              have HS2 : Hid (scanL ns = scanL (ns.drop (i + 1))) := by
                show _ = _
                rw [HS.out, HD.out, if_neg hr, if_neg (by simp [hz])]
              clear hz
              go_wp2
              exact ⟨⟨i + 1, by omega, by go_num, HS2, hB1⟩, by simp [intOf]; omega⟩
            · have gz : (0 : Int) < (c : Int) := HC.out.2 hz
              have HF : Hid (faultL ns = 2) := by
                show _ = _
                have e1 : scanL ns = 2 := by rw [HS.out, HD.out, if_neg hr, if_pos ⟨hb1, hz⟩]
                rw [faultL, if_neg h60, e1]; rfl
              clear hz
              go_wp2
              go_ret
              exact ⟨by rw [HF.out]; rfl, hB1⟩
      · have hi2 : i = ns.length := by omega
        subst hi2
        have e0 : scanL ns = 0 := by rw [HS.out, List.drop_length]; rfl
        have z0 : ((ns.length : Int) == 0) = false := by rw [beq_eq_false_iff_ne]; omega
        have hne : ns ≠ [] := by intro e; rw [e] at h0; simp at h0
        have HF : Hid (faultL ns = if endE ns 0 ≠ some ns.length then 2 else 0) := by
          show _ = _
          rw [faultL, if_neg h60, e0]
          simp [hne]
        clear e0 hne
        go_wp2_with fail
        refine (endOf_any ns _ 0 _ ⟨_, cap, rfl, HM.out, Or.inr ⟨b, off, rfl, Nat.lt_of_lt_of_le hlt hB.size, hNr⟩⟩).mono ?_
        rintro e w1 ⟨rfl, rfl⟩
        cases he : endE ns 0 with
        | none =>
          have HF2 : Hid (faultL ns = 2) := by show _ = _; rw [HF.out, he]; simp
          have q : ((-1 : Int) != (ns.length : Int)) = true := by rw [bne_iff_ne]; omega
          simp only [endI]
          clear he
          go_wp2
          go_ret
          exact ⟨by rw [HF2.out]; rfl, hB⟩
        | some j =>
          by_cases hj : j = ns.length
          · have HF2 : Hid (faultL ns = 0) := by show _ = _; rw [HF.out, he, hj]; simp
            simp only [endI]
            have q : ((j : Int) != (ns.length : Int)) = false := by rw [hj]; simp
            clear he hj
            go_wp2
            go_ret
            exact ⟨by rw [HF2.out]; rfl, hB⟩
          · have HF2 : Hid (faultL ns = 2) := by show _ = _; rw [HF.out, he]; simp [hj]
            simp only [endI]
            have q : ((j : Int) != (ns.length : Int)) = true := by rw [bne_iff_ne]; omega
            clear he hj
            go_wp2
            go_ret
            exact ⟨by rw [HF2.out]; rfl, hB⟩
set_option maxHeartbeats 1000000 in
theorem fault_nil (a : Option Addr) (cap : Nat) (w : World) :
    Calls Tryd.prog 10 #[.slice a 0 cap] w fun e w' => e = .returned (.int .i64 2) ∧ Below w.heap.size w w' := by
  go_enter Tryd.func10, Tryd.ntmps10
  go_wp2
  go_loop [3] (fun v => v = .int .i64 0) (fun _ => 0)
  case atStart => rfl
  case round =>
    subst hrel
    go_wp2
    go_ret
    exact ⟨rfl, Below.refl _ _⟩
theorem fault_any (ns : List Nd) (ho : NdOk ns) (v : Value) (w : World) (hN : NsIn w v ns) :
    Calls Tryd.prog 10 #[v] w fun e w' => e = .returned (.int .i64 (faultL ns)) ∧ Below w.heap.size w w' := by
  obtain ⟨a, cap, rfl, hm, h | ⟨b, off, rfl, hlt, hn⟩⟩ := hN
  · subst h
    exact fault_nil a cap w
  · by_cases h0 : 0 < ns.length
    · exact fault_at ns ho b off cap hm w hlt hn h0
    · have : ns = [] := List.eq_nil_of_length_eq_zero (by omega)
      subst this
      exact fault_nil _ cap w
end Go.Proofs.YthmiomgjeimblaaDoor
namespace Go.Proofs.YthmiomgjeimblaaDoor
set_option linter.unusedSimpArgs false
set_option linter.unusedVariables false
set_option maxRecDepth 100000
open Go.RowKit

theorem cell_new7_0 (w : World) (a0 a1 a2 a3 a4 a5 a6 : Value) (t : TypeId) : (w.alloc (.cells #[a0, a1, a2, a3, a4, a5, a6] t)).cell? ⟨w.heap.size, 0, none⟩ = some a0 := by simp
theorem cell_new7_5 (w : World) (a0 a1 a2 a3 a4 a5 a6 : Value) (t : TypeId) : (w.alloc (.cells #[a0, a1, a2, a3, a4, a5, a6] t)).cell? ⟨w.heap.size, 5, none⟩ = some a5 := by simp
theorem cell_new7_6 (w : World) (a0 a1 a2 a3 a4 a5 a6 : Value) (t : TypeId) : (w.alloc (.cells #[a0, a1, a2, a3, a4, a5, a6] t)).cell? ⟨w.heap.size, 6, none⟩ = some a6 := by simp
theorem scan_at (ss : List St) (h200 : ¬ 200 < ss.length) (h0 : 0 < ss.length) (i : Nat) (n : St) (hn : ss[i]? = some n) (HS : stScan ss.length ss = stScan ss.length (ss.drop i)) :
    (stRange ss.length n → stepsF ss = 1) ∧ (¬ stRange ss.length n → stShape n → stepsF ss = 2) ∧ (¬ stRange ss.length n → ¬ stShape n → stScan ss.length ss = stScan ss.length (ss.drop (i + 1))) := by
  have hz : ¬ ss.length = 0 := by omega
  refine ⟨fun h => ?_, fun h h2 => ?_, fun h h2 => ?_⟩
  · rw [stepsF, if_neg h200, if_neg hz, HS, stScan_drop _ ss i n hn, stBad_range h]; rfl
  · rw [stepsF, if_neg h200, if_neg hz, HS, stScan_drop _ ss i n hn, stBad_shape h h2]; rfl
  · rw [HS, stScan_drop _ ss i n hn, stBad_ok h h2]; rfl
set_option maxHeartbeats 16000000 in
theorem stepsFault_at (ss : List St) (ho : SsOk ss) (b off cap : Nat) (hm : ss.length ≤ maxLen) (w : World) (hlt : b < w.heap.size) (hN : SsAt w b off ss) (h0 : 0 < ss.length) :
    Calls Tryd.prog 4 #[.slice (some ⟨b, off, none⟩) ss.length cap] w fun e w' => e = .returned (.int .i64 (stepsF ss)) ∧ Below w.heap.size w w' := by
  unfold maxLen at hm
  by_cases h200 : 200 < ss.length
  · have g200 : (200 : Int) < (ss.length : Int) := by omega
    have HF : Hid (stepsF ss = 3) := by show _ = _; rw [stepsF, if_pos h200]
    go_enter Tryd.func4, Tryd.ntmps4
    go_wp2
    go_ret
    exact ⟨by rw [HF.out]; rfl, Below.refl _ _⟩
  · have g200 : (ss.length : Int) ≤ 200 := by omega
    have z0 : ((ss.length : Int) == 0) = false := by rw [beq_eq_false_iff_ne]; omega
    go_enter Tryd.func4, Tryd.ntmps4
    go_wp2
    go_loopw [3] (fun v wr => ∃ i : Nat, i ≤ ss.length ∧ v = .int .i64 i ∧ Hid (stScan ss.length ss = stScan ss.length (ss.drop i)) ∧ Below w.heap.size w wr) (fun v _ => ss.length - (intOf v).toNat)
    case atStart => exact ⟨0, by omega, rfl, Eq.refl _, Below.refl _ _⟩
    case round =>
      obtain ⟨i, hi, rfl, HS, hB⟩ := hrel
      by_cases hil : i < ss.length
      · obtain ⟨n, hn⟩ : ∃ n, ss[i]? = some n := ⟨ss[i], List.getElem?_eq_getElem hil⟩
        have hno : n.c.ok := ho n (List.mem_of_getElem? hn)
        obtain ⟨c0, c1, c2, c3, c4, c5, c6⟩ := hN.below hB hlt i n hn
        obtain ⟨F1, F2, F3⟩ := scan_at ss h200 h0 i n hn HS.out
        replace F1 := hid F1
        replace F2 := hid F2
        replace F3 := hid F3
        have HB1 : Hid (∀ o, Below w.heap.size w (wr.alloc o)) := fun o => hB.alloc hB.size o
        have i0 : (0 : Int) ≤ (i : Int) := by omega
        have i1 : (i : Int) < (ss.length : Int) := by omega
        clear hn hN ho HS
        by_cases o1 : n.op < 1
        · skip
          have HF := hid (F1.out (by unfold stRange; omega))
          clear F1 F2 F3
          go_wp2
          go_ret
          exact ⟨by rw [HF.out]; rfl, HB1.out _⟩
        by_cases o5 : 5 < n.op
        · skip
          have HF := hid (F1.out (by unfold stRange; omega))
          clear F1 F2 F3
          go_wp2
          go_ret
          exact ⟨by rw [HF.out]; rfl, HB1.out _⟩
        have hop : n.op = 1 ∨ n.op = 2 ∨ n.op = 3 ∨ n.op = 4 ∨ n.op = 5 := by omega
        rcases hop with hop | hop | hop | hop | hop
        · rw [hop] at c0
          clear o1 o5
          by_cases x0 : n.x < 0
          · skip
            have HF := hid (F1.out (by unfold stRange; omega))
            clear F1 F2 F3
            go_wp2
            go_ret
            exact ⟨by rw [HF.out]; rfl, HB1.out _⟩
          by_cases x1 : (ss.length : Int) ≤ n.x
          · skip
            have x2 : ¬ n.x < (ss.length : Int) := by omega
            have HF := hid (F1.out (by unfold stRange; omega))
            clear F1 F2 F3
            go_wp2
            go_ret
            exact ⟨by rw [HF.out]; rfl, HB1.out _⟩
          have x2 : n.x < (ss.length : Int) := by omega
          have NR : ¬ stRange ss.length n := by unfold stRange; omega
          by_cases yz : n.y = 0
          · rw [yz] at c6
            have HS2 := hid (F3.out NR (by unfold stShape; omega))
            clear F1 F2 F3 NR
            go_wp2
            exact ⟨⟨i + 1, by omega, by go_num, HS2, HB1.out _⟩, by simp [intOf]; omega⟩
          · have yn : (n.y != 0) = true := by simp [yz]
            have HF := hid (F2.out NR (by unfold stShape; omega))
            clear F1 F2 F3 NR
            go_wp2
            go_ret
            exact ⟨by rw [HF.out]; rfl, HB1.out _⟩
        · rw [hop] at c0
          clear o1 o5
          by_cases x0 : n.x < 0
          · skip
            have HF := hid (F1.out (by unfold stRange; omega))
            clear F1 F2 F3
            go_wp2
            go_ret
            exact ⟨by rw [HF.out]; rfl, HB1.out _⟩
          by_cases x1 : (ss.length : Int) ≤ n.x
          · skip
            have x2 : ¬ n.x < (ss.length : Int) := by omega
            have HF := hid (F1.out (by unfold stRange; omega))
            clear F1 F2 F3
            go_wp2
            go_ret
            exact ⟨by rw [HF.out]; rfl, HB1.out _⟩
          have x2 : n.x < (ss.length : Int) := by omega
          by_cases y0 : n.y < 0
          · skip
            have HF := hid (F1.out (by unfold stRange; omega))
            clear F1 F2 F3
            go_wp2
            go_ret
            exact ⟨by rw [HF.out]; rfl, HB1.out _⟩
          by_cases y1 : (ss.length : Int) ≤ n.y
          · skip
            have HF := hid (F1.out (by unfold stRange; omega))
            clear F1 F2 F3
            go_wp2
            go_ret
            exact ⟨by rw [HF.out]; rfl, HB1.out _⟩
          have y2 : n.y < (ss.length : Int) := by omega
          have NR : ¬ stRange ss.length n := by unfold stRange; omega
          go_wp2_with fail
          refine (count_b n.c hno _).mono ?_
          rintro e w1 ⟨c, rfl, HC, hc, hb3⟩
          have HB2 := hid ((HB1.out _).trans (hb3.mono (HB1.out _).size))
          have k0 := hb3.cell (p := ⟨wr.heap.size, 0, none⟩) (by simp)
          have k5 := hb3.cell (p := ⟨wr.heap.size, 5, none⟩) (by simp)
          have k6 := hb3.cell (p := ⟨wr.heap.size, 6, none⟩) (by simp)
          simp only [cell_new7_0, cell_new7_5, cell_new7_6] at k0 k5 k6
          clear hb3
          by_cases hz : n.c.eqb z4 = true
          · have gz : ¬ (0 : Int) < (c : Int) := fun h => (HC.out.1 h) hz
            have NS : ¬ stShape n := fun h => by rcases h with ⟨h1, h2⟩ | ⟨h1, h2⟩ | ⟨h1, h2⟩ <;> first | exact h2 hz | omega
            clear hz
            have HS2 := hid (F3.out NR (NS))
            clear F1 F2 F3 NR
            go_wp2
            exact ⟨⟨i + 1, by omega, by go_num, HS2, HB2.out⟩, by simp [intOf]; omega⟩
          · have gz : (0 : Int) < (c : Int) := HC.out.2 hz
            have HF := hid (F2.out NR (Or.inl ⟨by omega, hz⟩))
            clear F1 F2 F3 NR
            go_wp2
            go_ret
            exact ⟨by rw [HF.out]; rfl, HB2.out⟩
        · rw [hop] at c0
          clear o1 o5
          by_cases x0 : n.x < 0
          · skip
            have HF := hid (F1.out (by unfold stRange; omega))
            clear F1 F2 F3
            go_wp2
            go_ret
            exact ⟨by rw [HF.out]; rfl, HB1.out _⟩
          by_cases x1 : (ss.length : Int) ≤ n.x
          · skip
            have x2 : ¬ n.x < (ss.length : Int) := by omega
            have HF := hid (F1.out (by unfold stRange; omega))
            clear F1 F2 F3
            go_wp2
            go_ret
            exact ⟨by rw [HF.out]; rfl, HB1.out _⟩
          have x2 : n.x < (ss.length : Int) := by omega
          have NR : ¬ stRange ss.length n := by unfold stRange; omega
          go_wp2_with fail
          refine (count_b n.c hno _).mono ?_
          rintro e w1 ⟨c, rfl, HC, hc, hb3⟩
          have HB2 := hid ((HB1.out _).trans (hb3.mono (HB1.out _).size))
          have k0 := hb3.cell (p := ⟨wr.heap.size, 0, none⟩) (by simp)
          have k5 := hb3.cell (p := ⟨wr.heap.size, 5, none⟩) (by simp)
          have k6 := hb3.cell (p := ⟨wr.heap.size, 6, none⟩) (by simp)
          simp only [cell_new7_0, cell_new7_5, cell_new7_6] at k0 k5 k6
          clear hb3
          by_cases hz : n.c.eqb z4 = true
          · have gz : ¬ (0 : Int) < (c : Int) := fun h => (HC.out.1 h) hz
            by_cases yz : n.y = 0
            · rw [yz] at k6
              have NS : ¬ stShape n := fun h => by rcases h with ⟨h1, h2⟩ | ⟨h1, h2⟩ | ⟨h1, h2⟩ <;> first | exact h2 hz | omega
              clear hz
              have HS2 := hid (F3.out NR (NS))
              clear F1 F2 F3 NR
              go_wp2
              exact ⟨⟨i + 1, by omega, by go_num, HS2, HB2.out⟩, by simp [intOf]; omega⟩
            · have yn : (n.y != 0) = true := by simp [yz]
              clear hz
              have HF := hid (F2.out NR (Or.inr (Or.inl ⟨by omega, yz⟩)))
              clear F1 F2 F3 NR
              go_wp2
              go_ret
              exact ⟨by rw [HF.out]; rfl, HB2.out⟩
          · have gz : (0 : Int) < (c : Int) := HC.out.2 hz
            have HF := hid (F2.out NR (Or.inl ⟨by omega, hz⟩))
            clear F1 F2 F3 NR
            go_wp2
            go_ret
            exact ⟨by rw [HF.out]; rfl, HB2.out⟩
        · rw [hop] at c0
          clear o1 o5
          by_cases x0 : n.x < 0
          · skip
            have HF := hid (F1.out (by unfold stRange; omega))
            clear F1 F2 F3
            go_wp2
            go_ret
            exact ⟨by rw [HF.out]; rfl, HB1.out _⟩
          by_cases x1 : (ss.length : Int) ≤ n.x
          · skip
            have x2 : ¬ n.x < (ss.length : Int) := by omega
            have HF := hid (F1.out (by unfold stRange; omega))
            clear F1 F2 F3
            go_wp2
            go_ret
            exact ⟨by rw [HF.out]; rfl, HB1.out _⟩
          have x2 : n.x < (ss.length : Int) := by omega
          have NR : ¬ stRange ss.length n := by unfold stRange; omega
          go_wp2_with fail
          refine (count_b n.c hno _).mono ?_
          rintro e w1 ⟨c, rfl, HC, hc, hb3⟩
          have HB2 := hid ((HB1.out _).trans (hb3.mono (HB1.out _).size))
          have k0 := hb3.cell (p := ⟨wr.heap.size, 0, none⟩) (by simp)
          have k5 := hb3.cell (p := ⟨wr.heap.size, 5, none⟩) (by simp)
          have k6 := hb3.cell (p := ⟨wr.heap.size, 6, none⟩) (by simp)
          simp only [cell_new7_0, cell_new7_5, cell_new7_6] at k0 k5 k6
          clear hb3
          by_cases hz : n.c.eqb z4 = true
          · have gz : ¬ (0 : Int) < (c : Int) := fun h => (HC.out.1 h) hz
            by_cases yz : n.y = 0
            · rw [yz] at k6
              have NS : ¬ stShape n := fun h => by rcases h with ⟨h1, h2⟩ | ⟨h1, h2⟩ | ⟨h1, h2⟩ <;> first | exact h2 hz | omega
              clear hz
              have HS2 := hid (F3.out NR (NS))
              clear F1 F2 F3 NR
              go_wp2
              exact ⟨⟨i + 1, by omega, by go_num, HS2, HB2.out⟩, by simp [intOf]; omega⟩
            · have yn : (n.y != 0) = true := by simp [yz]
              clear hz
              have HF := hid (F2.out NR (Or.inr (Or.inl ⟨by omega, yz⟩)))
              clear F1 F2 F3 NR
              go_wp2
              go_ret
              exact ⟨by rw [HF.out]; rfl, HB2.out⟩
          · have gz : (0 : Int) < (c : Int) := HC.out.2 hz
            have HF := hid (F2.out NR (Or.inl ⟨by omega, hz⟩))
            clear F1 F2 F3 NR
            go_wp2
            go_ret
            exact ⟨by rw [HF.out]; rfl, HB2.out⟩
        · rw [hop] at c0
          clear o1 o5
          have NR : ¬ stRange ss.length n := by unfold stRange; omega
          go_wp2_with fail
          refine (count_b n.c hno _).mono ?_
          rintro e w1 ⟨c, rfl, HC, hc, hb3⟩
          have HB2 := hid ((HB1.out _).trans (hb3.mono (HB1.out _).size))
          have k0 := hb3.cell (p := ⟨wr.heap.size, 0, none⟩) (by simp)
          have k5 := hb3.cell (p := ⟨wr.heap.size, 5, none⟩) (by simp)
          have k6 := hb3.cell (p := ⟨wr.heap.size, 6, none⟩) (by simp)
          simp only [cell_new7_0, cell_new7_5, cell_new7_6] at k0 k5 k6
          clear hb3
          by_cases hz : n.c.eqb z4 = true
          · have gz : ¬ (0 : Int) < (c : Int) := fun h => (HC.out.1 h) hz
            by_cases yz : n.y = 0
            · rw [yz] at k6
              by_cases xz : n.x = 0
              · rw [xz] at k5
                have NS : ¬ stShape n := fun h => by rcases h with ⟨h1, h2⟩ | ⟨h1, h2⟩ | ⟨h1, h2⟩ <;> first | exact h2 hz | omega
                clear hz
                have HS2 := hid (F3.out NR (NS))
                clear F1 F2 F3 NR
                go_wp2
                exact ⟨⟨i + 1, by omega, by go_num, HS2, HB2.out⟩, by simp [intOf]; omega⟩
              · have xn : (n.x != 0) = true := by simp [xz]
                clear hz
                have HF := hid (F2.out NR (Or.inr (Or.inr ⟨hop, xz⟩)))
                clear F1 F2 F3 NR
                go_wp2
                go_ret
                exact ⟨by rw [HF.out]; rfl, HB2.out⟩
            · have yn : (n.y != 0) = true := by simp [yz]
              clear hz
              have HF := hid (F2.out NR (Or.inr (Or.inl ⟨by omega, yz⟩)))
              clear F1 F2 F3 NR
              go_wp2
              go_ret
              exact ⟨by rw [HF.out]; rfl, HB2.out⟩
          · have gz : (0 : Int) < (c : Int) := HC.out.2 hz
            have HF := hid (F2.out NR (Or.inl ⟨by omega, hz⟩))
            clear F1 F2 F3 NR
            go_wp2
            go_ret
            exact ⟨by rw [HF.out]; rfl, HB2.out⟩
      · have hi2 : i = ss.length := by omega
        subst hi2
        have e0 : stScan ss.length ss = 0 := by rw [HS.out, List.drop_length]; rfl
        have HF : Hid (stepsF ss = 0) := by
          show _ = _
          rw [stepsF, if_neg h200, if_neg (by omega), e0]
        go_wp2
        go_ret
        exact ⟨by rw [HF.out]; rfl, hB⟩
set_option maxHeartbeats 1000000 in
theorem stepsFault_nil (a : Option Addr) (cap : Nat) (w : World) :
    Calls Tryd.prog 4 #[.slice a 0 cap] w fun e w' => e = .returned (.int .i64 4) ∧ Below w.heap.size w w' := by
  go_enter Tryd.func4, Tryd.ntmps4
  go_wp2
  go_ret
  exact ⟨rfl, Below.refl _ _⟩
theorem stepsFault_any (ss : List St) (ho : SsOk ss) (v : Value) (w : World) (hN : SsIn w v ss) :
    Calls Tryd.prog 4 #[v] w fun e w' => e = .returned (.int .i64 (stepsF ss)) ∧ Below w.heap.size w w' := by
  obtain ⟨a, cap, rfl, hm, h | ⟨b, off, rfl, hlt, hn⟩⟩ := hN
  · subst h
    exact stepsFault_nil a cap w
  · by_cases h0 : 0 < ss.length
    · exact stepsFault_at ss ho b off cap hm w hlt hn h0
    · have : ss = [] := List.eq_nil_of_length_eq_zero (by omega)
      subst this
      exact stepsFault_nil _ cap w
end Go.Proofs.YthmiomgjeimblaaDoor
namespace Go.Proofs.YthmiomgjeimblaaDoor
set_option linter.unusedSimpArgs false
set_option linter.unusedVariables false
open Go.RowKit

def hexv (c : UInt8) : Nat := if c.toNat < 58 then c.toNat - 48 else c.toNat - 87
theorem hexv_hexd (k : Nat) (h : k < 16) : hexv (hexd k) = k := by
  have key : ∀ k : Fin 16, hexv (hexd k.val) = k.val := by decide +kernel
  exact key ⟨k, h⟩
/-- The first byte that a text tells, and what follows. -/
def one : List UInt8 → Option (Nat × List UInt8)
  | [] => none
  | c :: l =>
    if c = 92 then
      match l with
      | [] => none
      | d :: l2 =>
        if d = 120 then
          match l2 with
          | x :: y :: r => some (hexv x * 16 + hexv y, r)
          | _ => none
        else some (d.toNat, l2)
    else some (c.toNat, l)
theorem toU8_toNat (n : Nat) (h : n < 256) : n.toUInt8.toNat = n := by
  simp [Nat.toUInt8, UInt8.toNat_ofNat, Nat.mod_eq_of_lt h]
theorem one_bt (n : Nat) (h : n < 256) (l : List UInt8) : one (bt n ++ l) = some (n, l) := by
  have ht := toU8_toNat n h
  unfold bt
  split
  · show some (hexv (hexd (n / 16)) * 16 + hexv (hexd (n % 16)), l) = _
    rw [hexv_hexd _ (by omega), hexv_hexd _ (by omega), show n / 16 * 16 + n % 16 = n from by omega]
  · split
    · rename_i hs
      have : ¬ n.toUInt8 = 120 := by
        intro e
        rw [e] at hs
        exact absurd hs (by decide)
      simp only [List.cons_append, List.nil_append, one]
      rw [if_pos trivial, if_neg this, ht]
    · rename_i hs
      have : ¬ n.toUInt8 = 92 := by
        intro e
        rw [e] at hs
        exact hs (by decide)
      simp only [List.cons_append, List.nil_append, one]
      rw [if_neg this, ht]
/-- A sign other than the backslash opens no byte's text. -/
theorem bt_head (n : Nat) (l : List UInt8) (c : UInt8) (hc : c ∈ signL) (hn : c ≠ 92) : (bt n ++ l).head? ≠ some c := by
  unfold bt
  split
  · simp only [List.cons_append, List.head?_cons]
    intro e
    exact hn (Option.some.inj e).symm
  · split
    · simp only [List.cons_append, List.head?_cons]
      intro e
      exact hn (Option.some.inj e).symm
    · rename_i hs
      simp only [List.cons_append, List.head?_cons]
      intro e
      exact hs (by rw [Option.some.inj e]; exact hc)
theorem rt_head (i j : Nat) (l : List UInt8) (c : UInt8) (hc : c ∈ signL) (hn : c ≠ 92) : (rt i j ++ l).head? ≠ some c := by
  unfold rt
  split
  · exact bt_head i l c hc hn
  · split
    · rw [List.append_assoc]; exact bt_head i _ c hc hn
    · rw [List.append_assoc]; exact bt_head i _ c hc hn
theorem runsL_head (p : Nat → Bool) (c : UInt8) (hc : c ∈ signL) (hn : c ≠ 92) : ∀ (f i : Nat), (runsL p f i).head? ≠ some c
  | 0, i => by simp [runsL]
  | f + 1, i => by
    rw [runsL]
    split
    · split
      · exact rt_head _ _ _ c hc hn
      · rw [List.nil_append]; exact runsL_head p c hc hn f _
    · simp
theorem rEnd_spec (p : Nat → Bool) : ∀ (f i : Nat), (∀ j, i ≤ j → j < rEnd p f i → p j = true) ∧ (rEnd p f i < i + f → p (rEnd p f i) = false)
  | 0, i => ⟨fun j h1 h2 => by simp [rEnd] at h2; omega, fun h => by simp [rEnd] at h⟩
  | f + 1, i => by
    have ih := rEnd_spec p f (i + 1)
    rw [rEnd]
    split
    · rename_i hp
      refine ⟨fun j h1 h2 => ?_, fun h => ih.2 (by omega)⟩
      by_cases e : j = i
      · rw [e]; exact hp
      · exact ih.1 j (by omega) h2
    · rename_i hp
      exact ⟨fun j h1 h2 => by omega, fun _ => by simpa using hp⟩

/-- Which bytes a text of runs tells. -/
def dec (n : Nat) : Nat → List UInt8 → Bool
  | 0, _ => false
  | f + 1, l =>
    match one l with
    | none => false
    | some (a, r) =>
      if r.head? = some 45 then
        match one r.tail with
        | none => false
        | some (b, r3) => decide (a ≤ n ∧ n ≤ b) || dec n f r3
      else decide (a = n) || dec n f r
theorem dec_nil (n f : Nat) : dec n f [] = false := by
  cases f <;> rfl
theorem dec_one (n f a : Nat) (ha : a < 256) (r : List UInt8) (hr : r.head? ≠ some 45) : dec n (f + 1) (bt a ++ r) = (decide (a = n) || dec n f r) := by
  rw [dec, one_bt a ha r]
  simp only
  rw [if_neg hr]
theorem dec_two (n f a b : Nat) (ha : a < 256) (hb : b < 256) (r : List UInt8) : dec n (f + 1) (bt a ++ 45 :: (bt b ++ r)) = (decide (a ≤ n ∧ n ≤ b) || dec n f r) := by
  rw [dec, one_bt a ha]
  simp only [List.head?_cons, List.tail_cons, if_true]
  rw [one_bt b hb]
theorem dec_runs (p : Nat → Bool) (n : Nat) : ∀ (f i F : Nat), 256 ≤ f + i → 2 * f ≤ F → dec n F (runsL p f i) = (decide (i ≤ n ∧ n < 256) && p n)
  | 0, i, F, h, _ => by
    rw [runsL, dec_nil]
    have : ¬ (i ≤ n ∧ n < 256) := by omega
    simp [this]
  | f + 1, i, F, h, hF => by
    rw [runsL]
    by_cases hi : i < 256
    · rw [if_pos hi]
      have hle := rEnd_le p (256 - i) i
      have hsp := rEnd_spec p (256 - i) i
      generalize rEnd p (256 - i) i = e at *
      have ih := fun F' hF' => dec_runs p n f (e + 1) F' (by omega) hF'
      have hd := runsL_head p 45 (by decide) (by decide) f (e + 1)
      generalize runsL p f (e + 1) = R at *
      have tail : ∀ F', 2 * f ≤ F' → (decide (i ≤ n ∧ n < e) || dec n F' R) = (decide (i ≤ n ∧ n < 256) && p n) := by
        intro F' hF'
        rw [ih F' hF']
        by_cases c1 : i ≤ n ∧ n < e
        · have := hsp.1 n c1.1 c1.2
          have c2 : i ≤ n ∧ n < 256 := by omega
          simp [c1, c2, this]
        · by_cases c3 : n = e
          · subst c3
            by_cases c4 : n < 256
            · have := hsp.2 (by omega)
              simp [this]
            · have : ¬ (n + 1 ≤ n) := by omega
              simp [c4]
          · have : (e + 1 ≤ n ∧ n < 256) ↔ (i ≤ n ∧ n < 256) := by omega
            simp only [this, c1, decide_false, Bool.false_or]
      by_cases hg : i < e
      · rw [if_pos hg]
        unfold rt
        by_cases e1 : e - 1 = i
        · rw [if_pos e1]
          obtain ⟨F, rfl⟩ : ∃ g, F = g + 1 := ⟨F - 1, by omega⟩
          rw [dec_one n F i hi R hd, ← tail F (by omega)]
          have : (i ≤ n ∧ n < e) ↔ i = n := by omega
          simp only [this]
        · rw [if_neg e1]
          by_cases e2 : e - 1 = i + 1
          · rw [if_pos e2]
            obtain ⟨F, rfl⟩ : ∃ g, F = g + 1 + 1 := ⟨F - 2, by omega⟩
            rw [List.append_assoc, dec_one n (F + 1) i hi _ (bt_head _ _ 45 (by decide) (by decide)), dec_one n F (e - 1) (by omega) R hd, ← tail F (by omega), ← Bool.or_assoc]
            congr 1
            have : (i ≤ n ∧ n < e) ↔ (i = n ∨ e - 1 = n) := by omega
            simp only [this, Bool.decide_or]
          · rw [if_neg e2]
            obtain ⟨F, rfl⟩ : ∃ g, F = g + 1 := ⟨F - 1, by omega⟩
            rw [List.append_assoc, List.cons_append, dec_two n F i (e - 1) hi (by omega) R, ← tail F (by omega)]
            have : (i ≤ n ∧ n ≤ e - 1) ↔ (i ≤ n ∧ n < e) := by omega
            simp only [this]
      · rw [if_neg hg, List.nil_append, ← tail F (by omega)]
        have : ¬ (i ≤ n ∧ n < e) := by omega
        simp [this]
    · rw [if_neg hi, dec_nil]
      have : ¬ (i ≤ n ∧ n < 256) := by omega
      simp [this]
theorem runs_inj (p q : Nat → Bool) (h : runsL p 256 0 = runsL q 256 0) (n : Nat) (hn : n < 256) : p n = q n := by
  have h1 := dec_runs p n 256 0 512 (by omega) (by omega)
  have h2 := dec_runs q n 256 0 512 (by omega) (by omega)
  rw [h] at h1
  have h3 := h1.symm.trans h2
  have : (0 ≤ n ∧ n < 256) := by omega
  simpa [this] using h3

theorem runs256_inj {a b : C4} (ha : a.ok) (hb : b.ok) (h : runs256 a = runs256 b) : a = b := by
  apply C4.ext_has ha hb
  intro i hi
  have := runs_inj a.p b.p h i hi
  rwa [C4.p_eq a ha, C4.p_eq b hb] at this
theorem runs256_head (k : C4) (c : UInt8) (hc : c ∈ signL) (hn : c ≠ 92) : (runs256 k).head? ≠ some c := runsL_head k.p c hc hn 256 0
theorem textL_cases (k : C4) : (k = dotC ∧ textL k = [46]) ∨ textL k = runs256 k ∨ textL k = 91 :: (runs256 k ++ [93]) := by
  unfold textL
  split
  · rename_i h
    exact Or.inl ⟨(C4.eqb_iff _ _).1 h, rfl⟩
  · split
    · exact Or.inr (Or.inl rfl)
    · exact Or.inr (Or.inr rfl)
theorem textL_inj {a b : C4} (ha : a.ok) (hb : b.ok) (h : textL a = textL b) : a = b := by
  have hda := runs256_head a 46 (by decide) (by decide)
  have hdb := runs256_head b 46 (by decide) (by decide)
  have hba := runs256_head a 91 (by decide) (by decide)
  have hbb := runs256_head b 91 (by decide) (by decide)
  rcases textL_cases a with ⟨ea, ta⟩ | ta | ta <;> rcases textL_cases b with ⟨eb, tb⟩ | tb | tb <;> rw [ta, tb] at h
  · rw [ea, eb]
  · rw [← h] at hdb; exact absurd rfl hdb
  · simp at h
  · rw [h] at hda; exact absurd rfl hda
  · exact runs256_inj ha hb h
  · rw [h] at hba; exact absurd rfl hba
  · simp at h
  · rw [← h] at hbb; exact absurd rfl hbb
  · exact runs256_inj ha hb (List.append_cancel_right (List.cons.inj h).2)
theorem textL_eqb {a b : C4} (ha : a.ok) (hb : b.ok) : (textL a == textL b) = a.eqb b := by
  rw [Bool.eq_iff_iff, beq_iff_eq, C4.eqb_iff]
  exact ⟨textL_inj ha hb, fun h => by rw [h]⟩
end Go.Proofs.YthmiomgjeimblaaDoor
