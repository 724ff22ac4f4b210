/- What the document's own functions answer: ClassText. What the document's own functions answer: Signed, ByteText. What the document's own functions answer: With, OfText, Others, Count. What the document's own functions answer: ClassText, walked. -/
import Derived.Test.YthmiomgjeimblaaDoorY04
import Derived.Test.YthmiomgjeimblaaDoorY01
import Derived.Test.YthmiomgjeimblaaDoorY02
import Derived.Laws.BytesArg
namespace Go.Proofs.YthmiomgjeimblaaDoor
set_option linter.unusedSimpArgs false
set_option linter.unusedVariables false
open Go.RowKit

theorem cnt_two (p : Nat → Bool) : ∀ (n i j : Nat), i < n → j < n → i ≠ j → p i = true → p j = true → 2 ≤ cnt p n
  | 0, i, j, hi, _, _, _, _ => by omega
  | n + 1, i, j, hi, hj, hij, pi, pj => by
    have pos : ∀ m t, t < m → p t = true → 1 ≤ cnt p m := by
      intro m t ht pt
      rcases Nat.eq_zero_or_pos (cnt p m) with h0 | h0
      · have := cnt_pos p m h0 t ht
        rw [this] at pt
        cases pt
      · exact h0
    rw [cnt]
    by_cases e1 : i = n
    · subst e1
      rw [pi]
      have := pos i j (by omega) pj
      simp
      omega
    · by_cases e2 : j = n
      · subst e2
        rw [pj]
        have := pos j i (by omega) pi
        simp
        omega
      · have := cnt_two p n i j (by omega) (by omega) hij pi pj
        omega
theorem cnt_one (p : Nat → Bool) (n i j : Nat) (h : cnt p n = 1) (hi : i < n) (hj : j < n) (pi : p i = true) (pj : p j = true) : i = j := by
  by_cases e : i = j
  · exact e
  · have := cnt_two p n i j hi hj e pi pj
    omega
theorem cnt_single (p : Nat → Bool) (n t : Nat) (ht : t < n) (h : ∀ i, i < n → p i = decide (i = t)) : cnt p n = 1 := by
  have key : ∀ m, m ≤ n → cnt p m = if t < m then 1 else 0 := by
    intro m
    induction m with
    | zero => intro _; simp [cnt]
    | succ m ih =>
      intro hm
      rw [cnt, ih (by omega), h m (by omega)]
      by_cases e : m = t
      · subst e; simp
      · by_cases c : t < m
        · have : t < m + 1 := by omega
          simp [c, e, this]
        · have : ¬ t < m + 1 := by omega
          simp [c, e, this]
  rw [key n (Nat.le_refl _), if_pos ht]
theorem dotC_ok : dotC.ok := C4.not_ok (ofL_ok _)
theorem dotC_has (n : Nat) (hn : n < 256) : dotC.has n = !decide (n = 10) := by
  unfold dotC
  rw [C4.has_not (ofL_ok _), ofL_has _ n hn]
  congr 1
  simp only [List.mem_singleton, exists_eq_left]
  have : (UInt8.toNat 10 = n) ↔ (n = 10) := by
    have : UInt8.toNat 10 = 10 := rfl
    rw [this]; omega
  simp only [this]
theorem dot_iff {k : C4} (hk : k.ok) : ((((cnt k.not.has 256 : Nat) : Int) == 1) && !k.has 10) = k.eqb dotC := by
  rw [Bool.eq_iff_iff, C4.eqb_iff, Bool.and_eq_true, Bool.not_eq_true', beq_iff_eq]
  constructor
  · rintro ⟨h1, h2⟩
    have h1' : cnt k.not.has 256 = 1 := by omega
    have h3 : k.not.has 10 = true := by rw [C4.has_not hk, h2]; rfl
    apply C4.ext_has hk dotC_ok
    intro i hi
    rw [dotC_has i hi]
    by_cases e : i = 10
    · subst e; rw [h2]; rfl
    · have : k.not.has i = false := by
        cases h : k.not.has i
        · rfl
        · exact absurd (cnt_one _ 256 i 10 h1' hi (by decide) h h3) e
      rw [C4.has_not hk] at this
      simp only [e, decide_false, Bool.not_false]
      simpa using this
  · intro h
    subst h
    refine ⟨?_, by rw [dotC_has 10 (by decide)]; rfl⟩
    have := cnt_single dotC.not.has 256 10 (by decide) (fun i hi => by rw [C4.has_not dotC_ok, dotC_has i hi, Bool.not_not])
    rw [this]
    rfl
theorem runsL_none (p : Nat → Bool) : ∀ (f i : Nat), (∀ n, i ≤ n → n < 256 → p n = false) → runsL p f i = []
  | 0, i, _ => rfl
  | f + 1, i, h => by
    rw [runsL]
    by_cases hi : i < 256
    · have e := rEnd_no p i hi (h i (Nat.le_refl _) hi)
      rw [if_pos hi, e, if_neg (Nat.lt_irrefl _), List.nil_append]
      exact runsL_none p f (i + 1) (fun n h1 h2 => h n (by omega) h2)
    · rw [if_neg hi]
theorem one_run (p : Nat → Bool) (f i : Nat) (hi : i < 256) (h : cnt p 256 = 1) (pi : p i = true) : runsL p (f + 1) i = bt i := by
  have e1 := rEnd_yes p i hi pi
  have e2 : rEnd p (256 - (i + 1)) (i + 1) = i + 1 := by
    by_cases h2 : i + 1 < 256
    · apply rEnd_no p (i + 1) h2
      cases hp : p (i + 1)
      · rfl
      · exact absurd (cnt_one p 256 i (i + 1) h hi h2 pi hp) (by omega)
    · rw [show 256 - (i + 1) = 0 from by omega, rEnd]
  rw [runsL, if_pos hi, e1, e2, if_pos (Nat.lt_succ_self i), runsL_none p f (i + 1 + 1), List.append_nil]
  · simp [rt]
  · intro n h1 h2
    cases hp : p n
    · rfl
    · exact absurd (cnt_one p 256 i n h hi h2 pi hp) (by omega)
/-- What is left to be told, at a place that is in no run. -/
theorem runsL_no (p : Nat → Bool) (f i : Nat) (hi : i < 256) (h : p i = false) : runsL p (f + 1) i = runsL p f (i + 1) := by
  rw [runsL, if_pos hi, rEnd_no p i hi h, if_neg (Nat.lt_irrefl _), List.nil_append]
theorem runsL_yes (p : Nat → Bool) (f i en : Nat) (hi : i < 256) (he : rEnd p (256 - i) i = en) (hlt : i < en) : runsL p (f + 1) i = rt i (en - 1) ++ runsL p (f + 1) en := by
  have h0 : runsL p (f + 1) en = runsL p f (en + 1) := by
    have hle := rEnd_le p (256 - i) i
    have hsp := rEnd_spec p (256 - i) i
    rw [he] at hle hsp
    by_cases h : en < 256
    · exact runsL_no p f en h (hsp.2 (by omega))
    · rw [runsL, if_neg h]
      cases f with
      | zero => rfl
      | succ f => rw [runsL, if_neg (by omega)]
  rw [h0, runsL, if_pos hi, he, if_pos hlt]
theorem many_one {k : C4} (hk : k.ok) : (k.many 4 == 1) = (((cnt k.has 256 : Nat) : Int) == 1) := by rw [many_cnt hk]
end Go.Proofs.YthmiomgjeimblaaDoor
namespace Go.Proofs.YthmiomgjeimblaaDoor
set_option linter.unusedSimpArgs false
set_option linter.unusedVariables false
open Go.RowKit

def sgn (j : Nat) : Int := ([92, 46, 91, 93, 40, 41, 124, 42, 43, 63, 94, 36, 45] : List Int).getD j 0
def signedB (x : Int) : Bool := ([92, 46, 91, 93, 40, 41, 124, 42, 43, 63, 94, 36, 45] : List Int).any (· == x)
theorem sgn_index (j : Nat) (h : j < 13) (w : World) : (Instr.index 9 (.string ⟨#[92, 46, 91, 93, 40, 41, 124, 42, 43, 63, 94, 36, 45]⟩) (.int .i64 j)).run Tryd.prog w = .ok (.int .u8 (sgn j)) w := by
  match j, h with
  | 0, _ | 1, _ | 2, _ | 3, _ | 4, _ | 5, _ | 6, _ | 7, _ | 8, _ | 9, _ | 10, _ | 11, _ | 12, _ => go_simp; rfl
theorem signed_of (x : Int) (h : ∃ j, j < 13 ∧ sgn j = x) : signedB x = true := by
  obtain ⟨j, hj, rfl⟩ := h
  have key : ∀ j : Fin 13, signedB (sgn j.val) = true := by decide
  exact key ⟨j, hj⟩
theorem signed_not (x : Int) (h : ∀ j, j < 13 → sgn j ≠ x) : signedB x = false := by
  have k0 := h 0 (by decide); have k1 := h 1 (by decide); have k2 := h 2 (by decide); have k3 := h 3 (by decide)
  have k4 := h 4 (by decide); have k5 := h 5 (by decide); have k6 := h 6 (by decide); have k7 := h 7 (by decide)
  have k8 := h 8 (by decide); have k9 := h 9 (by decide); have k10 := h 10 (by decide); have k11 := h 11 (by decide); have k12 := h 12 (by decide)
  simp [sgn] at k0 k1 k2 k3 k4 k5 k6 k7 k8 k9 k10 k11 k12
  simp [signedB, *]
set_option maxHeartbeats 1000000 in
theorem signed_any (x : Int) (w : World) :
    Calls Tryd.prog 30 #[.int .u8 x] w fun e w' => e = .returned (.bool (signedB x)) ∧ w' = w := by
  go_enter Tryd.func30, Tryd.ntmps30
  go_wp2
  go_loop [3] (fun v => ∃ j : Nat, j ≤ 13 ∧ v = .int .i64 j ∧ Hid (∀ i, i < j → sgn i ≠ x)) (fun v => 13 - (intOf v).toNat)
  case atStart => exact ⟨0, by omega, rfl, fun i hi => by omega⟩
  case round =>
    obtain ⟨j, hj, rfl, HN⟩ := hrel
    by_cases hlt : j < 13
    · have hi := sgn_index j hlt
      have i1 : (j : Int) < 13 := by omega
      by_cases he : sgn j = x
      · have he2 : (sgn j == x) = true := by simp [he]
        have HX : Hid (signedB x = true) := signed_of x ⟨j, hlt, he⟩
        clear he
        go_wp2
        go_ret
        exact ⟨by rw [HX.out]; rfl, rfl⟩
      · have he2 : (sgn j == x) = false := by simp [he]
        have HX : Hid (∀ i, i < j + 1 → sgn i ≠ x) := fun i hi => by
          by_cases e : i = j
          · rw [e]; exact he
          · exact HN.out i (by omega)
        clear he
        go_wp2
        exact ⟨⟨j + 1, by omega, by go_num, HX⟩, by simp [intOf]; omega⟩
    · have hj2 : j = 13 := by omega
      subst hj2
      have HX : Hid (signedB x = false) := signed_not x HN.out
      go_wp2
      go_ret
      exact ⟨by rw [HX.out]; rfl, rfl⟩

theorem bt_hexN (n : Nat) (h : n < 256) (h2 : n < 32 ∨ 126 < n) :
    (({ data := #[92, 120] } : ByteArray) ++ ({ data := #[48, 49, 50, 51, 52, 53, 54, 55, 56, 57, 97, 98, 99, 100, 101, 102] } : ByteArray).extract ((n : Int) / 16).toNat ((n : Int) / 16 + 1).toNat ++
      ({ data := #[48, 49, 50, 51, 52, 53, 54, 55, 56, 57, 97, 98, 99, 100, 101, 102] } : ByteArray).extract ((n : Int) % 16).toNat ((n : Int) % 16 + 1).toNat) = ⟨(bt n).toArray⟩ := bt_hex n h h2
set_option maxHeartbeats 1000000 in
theorem byteTextR_hex (n : Nat) (h : n < 256) (h3 : n < 32 ∨ 126 < n) (w : World) :
    Calls Tryd.prog 18 #[.int .i64 n] w fun e w' => e = .returned (.string ⟨(bt n).toArray⟩) ∧ Below w.heap.size w w' := by
  have HB : Hid _ := bt_hexN n h h3
  have q1 : (0:Int) ≤ (n : Int) / 16 := by omega
  have q2 : (n : Int) / 16 < 16 := by omega
  have q3 : (0:Int) ≤ (n : Int) % 16 := by omega
  have q4 : (n : Int) % 16 < 16 := by omega
  rcases h3 with h3 | h3
  · have h5 : (n : Int) < 32 := by omega
    go_enter Tryd.func18, Tryd.ntmps18
    go_wp2
    go_quiet (fail)
    go_wp2
    go_ret
    exact ⟨ret_str HB.out, below_drewN' _ _⟩
  · have h4 : ¬ (n : Int) < 32 := by omega
    have h5 : 126 < (n : Int) := by omega
    go_enter Tryd.func18, Tryd.ntmps18
    go_wp2
    go_quiet (fail)
    go_wp2
    go_ret
    exact ⟨ret_str HB.out, below_drewN' _ _⟩
theorem signs_inR (n : Nat) (h : n < 256) (hm : signedB (n : Int) = true) (h1 : 32 ≤ n) (h2 : n ≤ 126) : bt n = [92, UInt8.ofNat n] := by
  have key : ∀ n : Fin 256, signedB (n.val : Int) = true → 32 ≤ n.val → n.val ≤ 126 → bt n.val = [92, UInt8.ofNat n.val] := by decide +kernel
  exact key ⟨n, h⟩ hm h1 h2
theorem signs_outR (n : Nat) (h : n < 256) (hm : signedB (n : Int) = false) (h1 : 32 ≤ n) (h2 : n ≤ 126) : bt n = [UInt8.ofNat n] := by
  have key : ∀ n : Fin 256, signedB (n.val : Int) = false → 32 ≤ n.val → n.val ≤ 126 → bt n.val = [UInt8.ofNat n.val] := by decide +kernel
  exact key ⟨n, h⟩ hm h1 h2
theorem conv_one (n : Nat) (w : World) : (convert 50 9 (.slice (some ⟨w.heap.size, 0, none⟩) 1 1)).run Tryd.prog (w.alloc (.cells #[.int .u8 (n : Int)] 5)) = .ok (.string ⟨#[UInt8.ofNat n]⟩) (w.alloc (.cells #[.int .u8 (n : Int)] 5)) := by
  have h := run_convert_bytes_arg (P := Tryd.prog) (w.alloc (.cells #[.int .u8 (n : Int)] 5)) 50 5 Tryd.underlying50 Tryd.underlying5 w.heap.size 0 1 1 [(n : Int)] rfl (by
    intro i hi
    have : i = 0 := by omega
    subst this
    simp) 9 Tryd.underlying9
  rw [h]
  rfl
set_option maxHeartbeats 1000000 in
set_option maxRecDepth 100000 in
theorem byteTextR_in (n : Nat) (h1 : 32 ≤ n) (h2 : n ≤ 126) (hm : signedB (n : Int) = true) (w : World) :
    Calls Tryd.prog 18 #[.int .i64 n] w fun e w' => e = .returned (.string ⟨(bt n).toArray⟩) ∧ Below w.heap.size w w' := by
  have HB : Hid _ := signs_inR n (by omega) hm h1 h2
  have h4 : ¬ (n : Int) < 32 := by omega
  have h5 : ¬ 126 < (n : Int) := by omega
  have hcv := conv_one n w
  go_enter Tryd.func18, Tryd.ntmps18
  go_wp2_with fail
  refine (signed_any n _).mono ?_
  rintro e w1 ⟨rfl, rfl⟩
  go_wp2
  go_ret
  refine ⟨ret_str ?_, (Below.refl _ _).alloc (Nat.le_refl _) _⟩
  rw [HB.out]
  rfl
set_option maxHeartbeats 1000000 in
set_option maxRecDepth 100000 in
theorem byteTextR_out (n : Nat) (h1 : 32 ≤ n) (h2 : n ≤ 126) (hm : signedB (n : Int) = false) (w : World) :
    Calls Tryd.prog 18 #[.int .i64 n] w fun e w' => e = .returned (.string ⟨(bt n).toArray⟩) ∧ Below w.heap.size w w' := by
  have HB : Hid _ := signs_outR n (by omega) hm h1 h2
  have h4 : ¬ (n : Int) < 32 := by omega
  have h5 : ¬ 126 < (n : Int) := by omega
  have hcv := conv_one n w
  go_enter Tryd.func18, Tryd.ntmps18
  go_wp2_with fail
  refine (signed_any n _).mono ?_
  rintro e w1 ⟨rfl, rfl⟩
  go_wp2
  go_ret
  refine ⟨ret_str ?_, (Below.refl _ _).alloc (Nat.le_refl _) _⟩
  rw [HB.out]
theorem byteTextR_any (n : Nat) (h : n < 256) (w : World) :
    Calls Tryd.prog 18 #[.int .i64 n] w fun e w' => e = .returned (.string ⟨(bt n).toArray⟩) ∧ Below w.heap.size w w' := by
  by_cases h3 : n < 32 ∨ 126 < n
  · exact byteTextR_hex n h h3 w
  · cases hm : signedB (n : Int)
    · exact byteTextR_out n (by omega) (by omega) hm w
    · exact byteTextR_in n (by omega) (by omega) hm w
end Go.Proofs.YthmiomgjeimblaaDoor
namespace Go.Proofs.YthmiomgjeimblaaDoor
set_option linter.unusedSimpArgs false
set_option linter.unusedVariables false
open Go.RowKit

set_option maxHeartbeats 1000000 in
theorem withR_not (k : C4) (hk : k.ok) (b : Nat) (hb : b < 256) (hn : k.has b = false) (w : World) :
    Calls Tryd.prog 29 #[k.v, .int .i64 b] w fun e w' => e = .returned (k.add b).v ∧ Below w.heap.size w w' := by
  have HA : Hid _ := C4.put_add hk b hb hn
  have hx0 : (0 : Int) ≤ (b : Int) := by omega
  have hx1 : (b : Int) < 256 := by omega
  go_enter Tryd.func29, Tryd.ntmps29
  go_wp2_with fail
  refine (in_any k hk b hb _).mono ?_
  rintro e w1 ⟨rfl, hb1⟩
  have hK : Hb w1 w.heap.size k := ((Hb.new w k _ rfl).alloc _).below hb1 (by simp; omega)
  have hZ : Hb w1 (w.heap.size + 1) z4 := (Hb.new _ z4 _ (by simp)).below hb1 (by simp)
  have hB : Below w.heap.size w w1 := (((Below.refl _ _).alloc (Nat.le_refl _) _).alloc (by simp) _).trans (hb1.mono (by simp; omega))
  generalize hx : (b : Int) = x at *
  go_wp2
  go_loop [6, 7] (fun n i => ∃ j z : Nat, (j : Int) ≤ x % 64 ∧ Hid (z = 2 ^ j) ∧ i = .int .i64 j ∧ n = .int .u64 (z : Int)) (fun _ i => (x % 64).toNat - (intOf i).toNat)
  case atStart => exact ⟨0, 1, by omega, by show 1 = 2 ^ 0; rfl, rfl, rfl⟩
  case round =>
    obtain ⟨j, z, hj, HZ, rfl, rfl⟩ := hrel
    by_cases hlt : (j : Int) < x % 64
    · go_wp2
      go_round
      case rel =>
        have hz : z * 2 < 18446744073709551616 := by
          rw [HZ.out, ← Nat.pow_succ]
          exact Nat.pow_lt_pow_right (n := 64) (by decide) (by omega)
        exact ⟨j + 1, z * 2, by omega, by show _ = _; rw [HZ.out, Nat.pow_succ], by go_num, wrap_twice z hz⟩
      case measure => simp [intOf]; omega
    · have hj2 : (x % 64).toNat = j := by omega
      have HJ := (show Hid _ from hj2)
      clear hj2
      have cx := hK.cell (x / 64).toNat (by omega)
      have fx := hK.frozen (x / 64).toNat
      have hS := fun v => hK.store (x / 64).toNat (by omega) v
      have hT := fun v => hZ.other ⟨w.heap.size, (x / 64).toNat, none⟩ (.int .u64 v) (by simp only; omega)
      have s0 := fun v => (hS v).c0
      have s1 := fun v => (hS v).c1
      have s2 := fun v => (hS v).c2
      have s3 := fun v => (hS v).c3
      have t0 := fun v => (hT v).c0
      have t1 := fun v => (hT v).c1
      have t2 := fun v => (hT v).c2
      have t3 := fun v => (hT v).c3
      have u0 := fun v => (hT v).frozen 0
      have u1 := fun v => (hT v).frozen 1
      have u2 := fun v => (hT v).frozen 2
      have u3 := fun v => (hT v).frozen 3
      go_wp2
      have ez : k.put (x / 64).toNat (IntKind.u64.wrap (k.w (x / 64).toNat + (z : Int))) = k.add x := by rw [HZ.out, ← HJ.out]; exact HA.out
      have hq := (hT (IntKind.u64.wrap (k.w (x / 64).toNat + (z : Int)))).put4 (k.add x)
      rw [← ez] at hq
      refine bodyPost_ret (v := (k.add x).v) (by rw [← ez]; simp [results, Tryd.results29, go_sem, hq.c0, hq.c1, hq.c2, hq.c3]) rfl ⟨rfl, ?_⟩
      exact below_put4 (hB.setCell (by simp) _) (by omega) _
set_option maxHeartbeats 1000000 in
theorem withR_has (k : C4) (hk : k.ok) (b : Nat) (hb : b < 256) (hn : k.has b = true) (w : World) :
    Calls Tryd.prog 29 #[k.v, .int .i64 b] w fun e w' => e = .returned (k.add b).v ∧ Below w.heap.size w w' := by
  rw [C4.add_same hk b hb hn]
  go_enter Tryd.func29, Tryd.ntmps29
  go_wp2_with fail
  refine (in_any k hk b hb _).mono ?_
  rintro e w1 ⟨rfl, hb1⟩
  have hK : Hb w1 w.heap.size k := ((Hb.new w k _ rfl).alloc _).below hb1 (by simp; omega)
  have hZ : Hb w1 (w.heap.size + 1) z4 := (Hb.new _ z4 _ (by simp)).below hb1 (by simp)
  have hB : Below w.heap.size w w1 := (((Below.refl _ _).alloc (Nat.le_refl _) _).alloc (by simp) _).trans (hb1.mono (by simp; omega))
  obtain ⟨c0, c1, c2, c3, e0, e1, e2, e3⟩ := hK.all
  obtain ⟨d0, d1, d2, d3, f0, f1, f2, f3⟩ := hZ.all
  go_wp2
  have hq := hZ.put4 k
  refine bodyPost_ret (v := k.v) (by simp [results, Tryd.results29, go_sem, hq.c0, hq.c1, hq.c2, hq.c3]) rfl ⟨rfl, ?_⟩
  exact below_put4 hB (by omega) _
theorem withR_z (k : C4) (hk : k.ok) (x : Int) (h0 : 0 ≤ x) (h1 : x < 256) (w : World) :
    Calls Tryd.prog 29 #[k.v, .int .i64 x] w fun e w' => e = .returned (k.add x).v ∧ Below w.heap.size w w' := by
  obtain ⟨b, rfl⟩ := Int.eq_ofNat_of_zero_le h0
  cases hn : k.has b
  · exact withR_not k hk b (by omega) hn w
  · exact withR_has k hk b (by omega) hn w
theorem withR_any (k : C4) (hk : k.ok) (b : Nat) (hb : b < 256) (w : World) :
    Calls Tryd.prog 29 #[k.v, .int .i64 b] w fun e w' => e = .returned (k.add b).v ∧ Below w.heap.size w w' := by
  cases hn : k.has b
  · exact withR_not k hk b hb hn w
  · exact withR_has k hk b hb hn w

def oth (k : C4) : Nat → C4
  | 0 => z4
  | i + 1 => if k.has i then oth k i else (oth k i).add (i : Int)
theorem oth_ok (k : C4) : ∀ i, (oth k i).ok
  | 0 => z4_ok
  | i + 1 => by
    rw [oth]
    split
    · exact oth_ok k i
    · exact C4.add_ok (oth_ok k i) i
theorem oth_has (k : C4) (n : Nat) (hn : n < 256) : ∀ i, i ≤ 256 → (oth k i).has n = (decide (n < i) && !k.has n)
  | 0, _ => by rw [oth, z4_has]; simp
  | i + 1, hi => by
    have ih := oth_has k n hn i (by omega)
    rw [oth]
    by_cases hk : k.has i = true
    · rw [if_pos hk, ih]
      by_cases e : n = i
      · subst e; simp [hk]
      · have : (n < i + 1) ↔ (n < i) := by omega
        simp only [this]
    · rw [if_neg hk, C4.has_add (oth_ok k i) i n (by omega) hn, ih]
      by_cases e : i = n
      · subst e; simp [hk]
      · have : (n < i + 1) ↔ (n < i) := by omega
        simp only [this, e, decide_false, Bool.or_false]
theorem oth_not {k : C4} (hk : k.ok) : oth k 256 = k.not := by
  apply C4.ext_has (oth_ok k 256) (C4.not_ok hk)
  intro i hi
  rw [oth_has k i hi 256 (Nat.le_refl _), C4.has_not hk]
  simp [hi]
set_option maxHeartbeats 1000000 in
theorem others_any (k : C4) (hk : k.ok) (w : World) :
    Calls Tryd.prog 16 #[k.v] w fun e w' => e = .returned k.not.v ∧ Below w.heap.size w w' := by
  rw [← oth_not hk]
  go_enter Tryd.func16, Tryd.ntmps16
  go_wp2
  go_loopw [4] (fun v wr => ∃ i : Nat, i ≤ 256 ∧ v = .int .i64 i ∧ Below w.heap.size w wr ∧ Hb wr w.heap.size k ∧ Hb wr (w.heap.size + 1) z4 ∧ Hb wr (w.heap.size + 1 + 1) (oth k i)) (fun v _ => 256 - (intOf v).toNat)
  case atStart =>
    refine ⟨0, by omega, rfl, ?_, ?_, ?_, ?_⟩
    · exact (((Below.refl _ _).alloc (Nat.le_refl _) _).alloc (by simp) _).alloc (by simp; omega) _
    · exact ((Hb.new _ k _ rfl).alloc _).alloc _
    · exact (Hb.new _ z4 _ (by simp)).alloc _
    · exact Hb.new _ z4 _ (by simp)
  case round =>
    obtain ⟨i, hi, rfl, hB, hK, hZ, hO⟩ := hrel
    obtain ⟨c0, c1, c2, c3, e0, e1, e2, e3⟩ := hK.all
    by_cases hlt : i < 256
    · have i1 : (i : Int) < 256 := by omega
      go_wp2_with fail
      refine (in_any k hk i hlt _).mono ?_
      rintro e w1 ⟨rfl, hb1⟩
      have hB1 := hB.trans (hb1.mono hB.size)
      have hK1 := hK.below hb1 hK.lt
      have hZ1 := hZ.below hb1 hZ.lt
      have hO1 := hO.below hb1 hO.lt
      cases hn : k.has i
      · have HE : Hid (oth k (i + 1) = (oth k i).add (i : Int)) := by show _ = _; rw [oth, hn]; rfl
        obtain ⟨o0, o1, o2, o3, p0, p1, p2, p3⟩ := hO1.all
        go_wp2_with fail
        refine (withR_any (oth k i) (oth_ok k i) i hlt _).mono ?_
        rintro e w2 ⟨rfl, hb2⟩
        have hO2 := hO1.below hb2 hO1.lt
        obtain ⟨r0, r1, r2, r3, t0, t1, t2, t3⟩ := hO2.all
        go_wp2
        refine ⟨⟨i + 1, by omega, by go_num, ?_, ?_, ?_, ?_⟩, by simp [intOf]; omega⟩
        · exact below_put4 (hB1.trans (hb2.mono hB1.size)) (by omega) _
        · exact Hb.other4 (hK1.below hb2 hK1.lt) _ (by omega)
        · exact Hb.other4 (hZ1.below hb2 hZ1.lt) _ (by omega)
        · rw [HE.out]; exact hO2.put4 _
      · have HE : Hid (oth k (i + 1) = oth k i) := by show _ = _; rw [oth, hn]; rfl
        go_wp2
        refine ⟨⟨i + 1, by omega, by go_num, hB1, hK1, hZ1, ?_⟩, by simp [intOf]; omega⟩
        rw [HE.out]; exact hO1
    · have hi2 : i = 256 := by omega
      subst hi2
      obtain ⟨o0, o1, o2, o3, p0, p1, p2, p3⟩ := hO.all
      obtain ⟨d0, d1, d2, d3, f0, f1, f2, f3⟩ := hZ.all
      go_wp2
      have hq := hZ.put4 (oth k 256)
      refine bodyPost_ret (v := (oth k 256).v) (by simp [results, Tryd.results16, go_sem, hq.c0, hq.c1, hq.c2, hq.c3]) rfl ⟨rfl, ?_⟩
      exact below_put4 hB (by omega) _
end Go.Proofs.YthmiomgjeimblaaDoor
namespace Go.Proofs.YthmiomgjeimblaaDoor
set_option linter.unusedSimpArgs false
set_option linter.unusedVariables false
open Go.RowKit

theorem textL_dotR {k : C4} (hk : k.ok) (h1 : (((cnt k.not.has 256 : Nat) : Int) == 1) = true) (h2 : k.has 10 = false) : textL k = [46] := by
  apply textL_dot
  rw [← dot_iff hk, h1, h2]; rfl
theorem not_dotR {k : C4} (hk : k.ok) (h : (((cnt k.not.has 256 : Nat) : Int) == 1) = false ∨ k.has 10 = true) : k.eqb dotC = false := by
  rw [← dot_iff hk]
  rcases h with h | h <;> rw [h] <;> simp
theorem textL_oneR {k : C4} (hk : k.ok) (h : k.eqb dotC = false) (h2 : (((cnt k.has 256 : Nat) : Int) == 1) = true) : textL k = runsL k.has 256 0 := by
  rw [textL_one k h (by rw [many_one hk]; exact h2), runs256, C4.p_eq k hk]
theorem textL_moreR {k : C4} (hk : k.ok) (h : k.eqb dotC = false) (h2 : (((cnt k.has 256 : Nat) : Int) == 1) = false) : textL k = 91 :: (runsL k.has 256 0 ++ [93]) := by
  rw [textL_more k h (by rw [many_one hk]; exact h2), runs256, C4.p_eq k hk]

theorem runsL_succ (p : Nat → Bool) (f i : Nat) : runsL p (f + 1) i = if i < 256 then (if i < rEnd p (256 - i) i then rt i (rEnd p (256 - i) i - 1) else []) ++ runsL p f (rEnd p (256 - i) i + 1) else [] := rfl
theorem runsL_fuel (p : Nat → Bool) : ∀ (f i : Nat), 256 ≤ f + i → runsL p (f + 1) i = runsL p f i
  | 0, i, h => by rw [runsL_succ, if_neg (by omega)]; rfl
  | f + 1, i, h => by
    have hle := rEnd_le p (256 - i) i
    rw [runsL_succ p (f + 1) i, runsL_succ p f i]
    split
    · rw [runsL_fuel p f _ (by omega)]
    · rfl
theorem count_ex (k : C4) (hk : k.ok) (w : World) :
    Calls Tryd.prog 12 #[k.v] w fun e w' => ∃ c : Nat, e = .returned (.int .i64 c) ∧ Hid (c = cnt k.has 256) ∧ c ≤ 256 ∧ Below w.heap.size w w' := by
  refine (count_any k hk w).mono ?_
  rintro e w' ⟨rfl, hb⟩
  exact ⟨cnt k.has 256, rfl, Eq.refl _, cnt_le _ _, hb⟩
theorem byteTextR_sub (j : Nat) (h0 : 0 < j) (h : j ≤ 256) (w : World) :
    Calls Tryd.prog 18 #[.int .i64 ((j : Int) - 1)] w fun e w' => e = .returned (.string ⟨(bt (j - 1)).toArray⟩) ∧ Below w.heap.size w w' := by
  have h1 := byteTextR_any (j - 1) (by omega) w
  have e : ((j - 1 : Nat) : Int) = (j : Int) - 1 := by omega
  rw [e] at h1
  exact h1
/-- What stands at the loop's head: the text so far, and what is left. -/
def CtInv (k : C4) (w : World) (i : Nat) (acc : List UInt8) (wr : World) : Prop :=
  i ≤ 256 ∧ acc.length ≤ 9 * i ∧ (∃ f, 256 ≤ f + i ∧ acc ++ runsL k.has (f + 1) i = runsL k.has 256 0) ∧ (cnt k.has 256 = 1 → acc = []) ∧ Below w.heap.size w wr ∧ Hb wr w.heap.size k
theorem CtInv.start (k : C4) (w wr : World) (h5 : Below w.heap.size w wr) (h6 : Hb wr w.heap.size k) : CtInv k w 0 [] wr :=
  ⟨by omega, by simp, ⟨256, by omega, by rw [List.nil_append]; exact runsL_fuel k.has 256 0 (by omega)⟩, fun _ => rfl, h5, h6⟩
theorem CtInv.no {k : C4} {w wr w1 : World} {i : Nat} {acc : List UInt8} (h : CtInv k w i acc wr) (hi : i < 256) (hn : k.has i = false) (hb : Below wr.heap.size wr w1) : CtInv k w (i + 1) acc w1 := by
  obtain ⟨h1, h2, ⟨f, hf, ht⟩, h4, h5, h6⟩ := h
  obtain ⟨f, rfl⟩ : ∃ g, f = g + 1 := ⟨f - 1, by omega⟩
  refine ⟨by omega, by omega, ⟨f, by omega, ?_⟩, h4, h5.trans (hb.mono h5.size), h6.below hb h6.lt⟩
  rw [← runsL_no k.has (f + 1) i hi hn]
  exact ht
theorem CtInv.yes {k : C4} {w wr w1 : World} {i en : Nat} {acc : List UInt8} (h : CtInv k w i acc wr) (hi : i < 256) (he : rEnd k.has (256 - i) i = en) (hlt : i < en) (hen : en ≤ 256) (hc : ¬ cnt k.has 256 = 1) (hb : Below w.heap.size w w1) (hK : Hb w1 w.heap.size k) : CtInv k w en (acc ++ rt i (en - 1)) w1 := by
  obtain ⟨h1, h2, ⟨f, hf, ht⟩, h4, h5, h6⟩ := h
  have hl := rt_len i (en - 1)
  refine ⟨hen, by simp; omega, ⟨f, by omega, ?_⟩, fun h => absurd h hc, hb, hK⟩
  rw [List.append_assoc, ← runsL_yes k.has f i en hi he hlt]
  exact ht
theorem CtInv.single {k : C4} {w wr : World} {i : Nat} {acc : List UInt8} (h : CtInv k w i acc wr) (hi : i < 256) (hc : cnt k.has 256 = 1) (hp : k.has i = true) : runsL k.has 256 0 = bt i := by
  obtain ⟨h1, h2, ⟨f, hf, ht⟩, h4, h5, h6⟩ := h
  rw [← ht, h4 hc, List.nil_append, one_run k.has f i hi hc hp]
theorem CtInv.fin {k : C4} {w wr : World} {acc : List UInt8} (h : CtInv k w 256 acc wr) : runsL k.has 256 0 = acc := by
  obtain ⟨h1, h2, ⟨f, hf, ht⟩, h4, h5, h6⟩ := h
  rw [← ht, runsL, if_neg (by omega), List.append_nil]
theorem CtInv.noSingle {k : C4} {w wr : World} {acc : List UInt8} (h : CtInv k w 256 acc wr) : ¬ cnt k.has 256 = 1 := by
  intro hc
  have h1 := h.fin
  have h2 : acc = [] := h.2.2.2.1 hc
  rw [h2] at h1
  have ⟨i, hi, hp⟩ : ∃ i, i < 256 ∧ k.has i = true := by
    by_cases e : ∃ i, i < 256 ∧ k.has i = true
    · exact e
    · exfalso
      have : cnt k.has 256 = cnt (fun _ => false) 256 := by
        apply cnt_congr
        intro i hi
        cases hp : k.has i
        · rfl
        · exact absurd ⟨i, hi, hp⟩ e
      have h0 : ∀ n, cnt (fun _ => false) n = 0 := by
        intro n
        induction n with
        | zero => rfl
        | succ n ih => rw [cnt, ih]; rfl
      rw [this, h0] at hc
      omega
  have := dec_runs k.has i 256 0 512 (by omega) (by omega)
  rw [h1, dec_nil, hp] at this
  simp [hi] at this

set_option maxHeartbeats 1000000 in
set_option maxRecDepth 100000 in
theorem classText_dot (k : C4) (hk : k.ok) (h1 : (((cnt k.not.has 256 : Nat) : Int) == 1) = true) (h2 : k.has 10 = false) (w : World) :
    Calls Tryd.prog 8 #[k.v] w fun e w' => e = .returned (.string ⟨(textL k).toArray⟩) ∧ Below w.heap.size w w' := by
  have HT : Hid _ := textL_dotR hk h1 h2
  go_enter Tryd.func8, Tryd.ntmps8
  go_wp2_with fail
  refine (count_any k hk _).mono ?_
  rintro e w1 ⟨rfl, hb1⟩
  have hK1 := (Hb.new w k _ rfl).below hb1 (Hb.new w k _ rfl).lt
  have hB1 : Below w.heap.size w w1 := ((Below.refl _ _).alloc (Nat.le_refl _) _).trans (hb1.mono (by simp))
  obtain ⟨c0, c1, c2, c3, e0, e1, e2, e3⟩ := hK1.all
  go_wp2_with fail
  refine (others_any k hk _).mono ?_
  rintro e w2 ⟨rfl, hb2⟩
  have hK2 := hK1.below hb2 hK1.lt
  have hB2 := hB1.trans (hb2.mono hB1.size)
  go_wp2_with fail
  refine (count_any k.not (C4.not_ok hk) _).mono ?_
  rintro e w3 ⟨rfl, hb3⟩
  have hK3 := hK2.below hb3 hK2.lt
  have hB3 := hB2.trans (hb3.mono hB2.size)
  clear c0 c1 c2 c3 e0 e1 e2 e3
  obtain ⟨c0, c1, c2, c3, e0, e1, e2, e3⟩ := hK3.all
  go_wp2_with fail
  refine (in_any k hk 10 (by decide) _).mono ?_
  rintro e w4 ⟨rfl, hb4⟩
  have hB4 := hB3.trans (hb4.mono hB3.size)
  go_wp2
  go_ret
  exact ⟨ret_str (by rw [HT.out]), hB4⟩
set_option maxHeartbeats 4000000 in
set_option maxRecDepth 100000 in
theorem classText_loop (k : C4) (hk : k.ok) (h1 : k.eqb dotC = false) (w : World) (hq : ((((cnt k.not.has 256 : Nat) : Int) == 1) = true ∧ k.has 10 = true) ∨ (((cnt k.not.has 256 : Nat) : Int) == 1) = false) :
    Calls Tryd.prog 8 #[k.v] w fun e w' => e = .returned (.string ⟨(textL k).toArray⟩) ∧ Below w.heap.size w w' := by
  have H1 := (show Hid _ from h1)
  have HQ := (show Hid _ from hq)
  clear h1 hq
  go_enter Tryd.func8, Tryd.ntmps8
  go_wp2_with fail
  refine (count_ex k hk _).mono ?_
  rintro e w1 ⟨cc, rfl, HC, hcc, hb1⟩
  have hK1 := (Hb.new w k _ rfl).below hb1 (Hb.new w k _ rfl).lt
  have hB1 : Below w.heap.size w w1 := ((Below.refl _ _).alloc (Nat.le_refl _) _).trans (hb1.mono (by simp))
  obtain ⟨c0, c1, c2, c3, e0, e1, e2, e3⟩ := hK1.all
  go_wp2_with fail
  refine (others_any k hk _).mono ?_
  rintro e w2 ⟨rfl, hb2⟩
  have hK2 := hK1.below hb2 hK1.lt
  have hB2 := hB1.trans (hb2.mono hB1.size)
  go_wp2_with fail
  refine (count_ex k.not (C4.not_ok hk) _).mono ?_
  rintro e w3 ⟨cd, rfl, HD, hcd, hb3⟩
  have hK3 := hK2.below hb3 hK2.lt
  have hB3 := hB2.trans (hb3.mono hB2.size)
  clear c0 c1 c2 c3 e0 e1 e2 e3
  obtain ⟨c0, c1, c2, c3, e0, e1, e2, e3⟩ := hK3.all
  go_wp2_with fail
  refine (in_any k hk 10 (by decide) _).mono ?_
  rintro e w4 ⟨rfl, hb4⟩
  have hK4 := hK3.below hb4 hK3.lt
  have hB4 := hB3.trans (hb4.mono hB3.size)
  clear c0 c1 c2 c3 e0 e1 e2 e3 hK1 hK2 hK3 hB1 hB2 hB3 hb1 hb2 hb3 hb4
  have HI : Hid (CtInv k w 0 [] w4) := CtInv.start k w w4 hB4 hK4
  clear hB4 hK4
  have hq : (((cd : Int) == 1) = true ∧ k.has 10 = true) ∨ ((cd : Int) == 1) = false := by rw [HD.out]; exact HQ.out
  clear HQ HD
  rcases hq with ⟨hq1, hq2⟩ | hq1
  all_goals
    go_wp2_with fail
    go_loopw [6, 7] (fun s v wr => ∃ (i : Nat) (acc : List UInt8), i ≤ 256 ∧ acc.length ≤ 2304 ∧ v = .int .i64 i ∧ s = .string ⟨acc.toArray⟩ ∧ Hid (CtInv k w i acc wr)) (fun _ v _ => 256 - (intOf v).toNat)
    case atStart => exact ⟨0, [], by omega, by simp, rfl, rfl, HI⟩
    case round =>
      obtain ⟨i, acc, hi, hal, rfl, rfl, HV⟩ := hrel
      have hK := HV.out.2.2.2.2.2
      have hB := HV.out.2.2.2.2.1
      obtain ⟨c0, c1, c2, c3, e0, e1, e2, e3⟩ := hK.all
      by_cases hlt : i < 256
      · have i1 : (i : Int) < 256 := by omega
        go_wp2_with fail
        refine (in_any k hk i hlt _).mono ?_
        rintro e w5 ⟨rfl, hb5⟩
        cases hn : k.has i
        · have HV2 : Hid _ := CtInv.no HV.out hlt hn hb5
          go_wp2
          exact ⟨⟨i + 1, acc, by omega, by omega, by go_num, rfl, HV2⟩, by simp [intOf]; omega⟩
        · have hK5 := hK.below hb5 hK.lt
          have hB5 := hB.trans (hb5.mono hB.size)
          clear c0 c1 c2 c3 e0 e1 e2 e3
          go_wp2_with fail
          go_loopw [7] (fun v wr => ∃ j : Nat, i ≤ j ∧ j ≤ 256 ∧ (j = i ∨ i < j) ∧ v = .int .i64 j ∧ Hid (rEnd k.has (256 - j) j = rEnd k.has (256 - i) i) ∧ Hid (Below w.heap.size w wr) ∧ Hid (Hb wr w.heap.size k)) (fun v _ => 256 - (intOf v).toNat)
          case atStart => exact ⟨i, by omega, by omega, Or.inl rfl, rfl, Eq.refl _, hB5, hK5⟩
          case round =>
            obtain ⟨j, hij, hj, hor, rfl, HE, HBr, HKr⟩ := hrel
            have hlb := bt_len i
            have hlb2 := bt_len (j - 1)
            obtain ⟨c0, c1, c2, c3, e0, e1, e2, e3⟩ := HKr.out.all
            by_cases hjl : j < 256
            · have j1 : (j : Int) < 256 := by omega
              go_wp2_with fail
              refine (in_any k hk j hjl _).mono ?_
              rintro e w6 ⟨rfl, hb6⟩
              have hB6 := HBr.out.trans (hb6.mono HBr.out.size)
              have hK6 := HKr.out.below hb6 HKr.out.lt
              cases hn2 : k.has j
              · have HEJ : Hid (rEnd k.has (256 - i) i = j) := by
                  show _ = _
                  rw [← HE.out, rEnd_no k.has j hjl hn2]
                have hij2 : i < j := by
                  rcases hor with h | h
                  · rw [h, hn] at hn2; cases hn2
                  · exact h
                have HEn : Hid (rEnd k.has (256 - i) i = j) := HEJ
                by_cases hc1 : cc = 1
                · have hc1b : ((cc : Int) == 1) = true := by simp [hc1]
                  have HX : Hid (textL k = bt i) := by
                    show _ = _
                    rw [textL_oneR hk H1.out (by rw [← HC.out]; exact hc1b)]
                    exact CtInv.single HV.out hlt (by rw [← HC.out]; exact hc1) hn
                  clear hc1
                  go_wp2_with fail
                  refine (byteTextR_any i hlt _).mono ?_
                  rintro e w7 ⟨rfl, hb7⟩
                  go_wp2
                  go_ret
                  exact ⟨ret_str (by rw [HX.out]), (hB6).trans (hb7.mono (hB6).size)⟩
                · have hc1b : ((cc : Int) == 1) = false := by simp; omega
                  have HV3 : Hid (∀ w' : World, Below w.heap.size w w' → Hb w' w.heap.size k → CtInv k w j (acc ++ rt i (j - 1)) w') := fun w' hb' hK' => CtInv.yes HV.out hlt HEn.out (by omega) (by omega) (by rw [← HC.out]; exact hc1) hb' hK'
                  have hacc : (acc ++ rt i (j - 1)).length ≤ 2304 := by
                    have h1 := (HV3.out _ (hB6) (hK6)).2.1
                    omega
                  clear hc1
                  go_wp2_with fail
                  refine (byteTextR_any i hlt _).mono ?_
                  rintro e w7 ⟨rfl, hb7⟩
                  have hB7 : Hid (Below w.heap.size w w7) := (hB6).trans (hb7.mono (hB6).size)
                  have hK7 : Hid (Hb w7 w.heap.size k) := (hK6).below hb7 (hK6).lt
                  by_cases d1 : j = i + 1
                  · have t1 : ¬ (2 : Int) < (j : Int) - (i : Int) := by omega
                    have t2 : ¬ (1 : Int) < (j : Int) - (i : Int) := by omega
                    have D1 := (show Hid _ from d1)
                    clear d1
                    go_wp2
                    refine ⟨⟨j, acc ++ rt i (j - 1), by omega, hacc, rfl, ?_, HV3.out _ hB7.out hK7.out⟩, by simp [intOf]; omega⟩
                    rw [cat_str, rt, if_pos (by have := D1.out; omega)]
                  · by_cases d2 : j = i + 2
                    · have t1 : ¬ (2 : Int) < (j : Int) - (i : Int) := by omega
                      have t2 : (1 : Int) < (j : Int) - (i : Int) := by omega
                      have D2 := (show Hid _ from d2)
                      clear d1 d2
                      go_wp2_with fail
                      refine (byteTextR_sub j (by omega) (by omega) _).mono ?_
                      rintro e w8 ⟨rfl, hb8⟩
                      have hB8 := hB7.out.trans (hb8.mono hB7.out.size)
                      have hK8 := hK7.out.below hb8 hK7.out.lt
                      go_wp2
                      refine ⟨⟨j, acc ++ rt i (j - 1), by omega, hacc, rfl, ?_, HV3.out _ hB8 hK8⟩, by simp [intOf]; omega⟩
                      rw [cat_str, cat_str, rt, if_neg (by have := D2.out; omega), if_pos (by have := D2.out; omega), List.append_assoc]
                    · have t1 : (2 : Int) < (j : Int) - (i : Int) := by omega
                      have t2 : (1 : Int) < (j : Int) - (i : Int) := by omega
                      go_wp2_with fail
                      refine (byteTextR_sub j (by omega) (by omega) _).mono ?_
                      rintro e w8 ⟨rfl, hb8⟩
                      have hB8 := hB7.out.trans (hb8.mono hB7.out.size)
                      have hK8 := hK7.out.below hb8 hK7.out.lt
                      go_wp2
                      refine ⟨⟨j, acc ++ rt i (j - 1), by omega, hacc, rfl, ?_, HV3.out _ hB8 hK8⟩, by simp [intOf]; omega⟩
                      have q1 : ({ data := #[45] } : ByteArray) = ⟨([45] : List UInt8).toArray⟩ := rfl
                      rw [q1, cat_str, cat_str, cat_str, rt, if_neg (by omega), if_neg (by omega)]
                      simp
              · have HE2 : Hid (rEnd k.has (256 - (j + 1)) (j + 1) = rEnd k.has (256 - i) i) := by
                  show _ = _
                  rw [← HE.out, rEnd_yes k.has j hjl hn2]
                go_wp2
                exact ⟨⟨j + 1, by omega, by omega, by omega, by go_num, HE2, hB6, hK6⟩, by simp [intOf]; omega⟩
            · have j1 : ¬ (j : Int) < 256 := by omega
              have HEJ : Hid (rEnd k.has (256 - i) i = j) := by
                show _ = _
                rw [← HE.out, show 256 - j = 0 from by omega, rEnd]
              have hij2 : i < j := by omega
              have HEn : Hid (rEnd k.has (256 - i) i = j) := HEJ
              by_cases hc1 : cc = 1
              · have hc1b : ((cc : Int) == 1) = true := by simp [hc1]
                have HX : Hid (textL k = bt i) := by
                  show _ = _
                  rw [textL_oneR hk H1.out (by rw [← HC.out]; exact hc1b)]
                  exact CtInv.single HV.out hlt (by rw [← HC.out]; exact hc1) hn
                clear hc1
                go_wp2_with fail
                refine (byteTextR_any i hlt _).mono ?_
                rintro e w7 ⟨rfl, hb7⟩
                go_wp2
                go_ret
                exact ⟨ret_str (by rw [HX.out]), (HBr.out).trans (hb7.mono (HBr.out).size)⟩
              · have hc1b : ((cc : Int) == 1) = false := by simp; omega
                have HV3 : Hid (∀ w' : World, Below w.heap.size w w' → Hb w' w.heap.size k → CtInv k w j (acc ++ rt i (j - 1)) w') := fun w' hb' hK' => CtInv.yes HV.out hlt HEn.out (by omega) (by omega) (by rw [← HC.out]; exact hc1) hb' hK'
                have hacc : (acc ++ rt i (j - 1)).length ≤ 2304 := by
                  have h1 := (HV3.out _ (HBr.out) (HKr.out)).2.1
                  omega
                clear hc1
                go_wp2_with fail
                refine (byteTextR_any i hlt _).mono ?_
                rintro e w7 ⟨rfl, hb7⟩
                have hB7 : Hid (Below w.heap.size w w7) := (HBr.out).trans (hb7.mono (HBr.out).size)
                have hK7 : Hid (Hb w7 w.heap.size k) := (HKr.out).below hb7 (HKr.out).lt
                by_cases d1 : j = i + 1
                · have t1 : ¬ (2 : Int) < (j : Int) - (i : Int) := by omega
                  have t2 : ¬ (1 : Int) < (j : Int) - (i : Int) := by omega
                  have D1 := (show Hid _ from d1)
                  clear d1
                  go_wp2
                  refine ⟨⟨j, acc ++ rt i (j - 1), by omega, hacc, rfl, ?_, HV3.out _ hB7.out hK7.out⟩, by simp [intOf]; omega⟩
                  rw [cat_str, rt, if_pos (by have := D1.out; omega)]
                · by_cases d2 : j = i + 2
                  · have t1 : ¬ (2 : Int) < (j : Int) - (i : Int) := by omega
                    have t2 : (1 : Int) < (j : Int) - (i : Int) := by omega
                    have D2 := (show Hid _ from d2)
                    clear d1 d2
                    go_wp2_with fail
                    refine (byteTextR_sub j (by omega) (by omega) _).mono ?_
                    rintro e w8 ⟨rfl, hb8⟩
                    have hB8 := hB7.out.trans (hb8.mono hB7.out.size)
                    have hK8 := hK7.out.below hb8 hK7.out.lt
                    go_wp2
                    refine ⟨⟨j, acc ++ rt i (j - 1), by omega, hacc, rfl, ?_, HV3.out _ hB8 hK8⟩, by simp [intOf]; omega⟩
                    rw [cat_str, cat_str, rt, if_neg (by have := D2.out; omega), if_pos (by have := D2.out; omega), List.append_assoc]
                  · have t1 : (2 : Int) < (j : Int) - (i : Int) := by omega
                    have t2 : (1 : Int) < (j : Int) - (i : Int) := by omega
                    go_wp2_with fail
                    refine (byteTextR_sub j (by omega) (by omega) _).mono ?_
                    rintro e w8 ⟨rfl, hb8⟩
                    have hB8 := hB7.out.trans (hb8.mono hB7.out.size)
                    have hK8 := hK7.out.below hb8 hK7.out.lt
                    go_wp2
                    refine ⟨⟨j, acc ++ rt i (j - 1), by omega, hacc, rfl, ?_, HV3.out _ hB8 hK8⟩, by simp [intOf]; omega⟩
                    have q1 : ({ data := #[45] } : ByteArray) = ⟨([45] : List UInt8).toArray⟩ := rfl
                    rw [q1, cat_str, cat_str, cat_str, rt, if_neg (by omega), if_neg (by omega)]
                    simp
      · have hi2 : i = 256 := by omega
        subst hi2
        have HX : Hid (textL k = 91 :: (acc ++ [93])) := by
          show _ = _
          rw [textL_moreR hk H1.out (by simp; have := CtInv.noSingle HV.out; omega), CtInv.fin HV.out]
        go_wp2
        go_ret
        refine ⟨ret_str ?_, hB⟩
        rw [HX.out]
        have q1 : ({ data := #[91] } : ByteArray) = ⟨([91] : List UInt8).toArray⟩ := rfl
        have q2 : ({ data := #[93] } : ByteArray) = ⟨([93] : List UInt8).toArray⟩ := rfl
        rw [q1, q2, cat_str, cat_str]
        simp
theorem classText_any (k : C4) (hk : k.ok) (w : World) :
    Calls Tryd.prog 8 #[k.v] w fun e w' => e = .returned (.string ⟨(textL k).toArray⟩) ∧ Below w.heap.size w w' := by
  cases h1 : (((cnt k.not.has 256 : Nat) : Int) == 1)
  · exact classText_loop k hk (not_dotR hk (Or.inl h1)) w (Or.inr h1)
  · cases h2 : k.has 10
    · exact classText_dot k hk h1 h2 w
    · exact classText_loop k hk (not_dotR hk (Or.inr h2)) w (Or.inl ⟨h1, h2⟩)
end Go.Proofs.YthmiomgjeimblaaDoor
