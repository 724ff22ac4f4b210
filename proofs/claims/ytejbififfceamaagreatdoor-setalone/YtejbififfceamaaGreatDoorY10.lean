/- The landed reader: digit. The text of a class of one byte; how a byte is held against its text. No function of the program. What each call of package class does: Many. class.Of. What each call of package class does: second part: Not, Many, Of. What each call of package class does: third part: byteText, runText, runEnd, runs. What each call of package class does: fourth part: runEnd, runs. What each call of package class does: fifth part: Text. -/
import Derived.Test.YtejbififfceamaaGreatDoorY09
import Derived.Test.YtejbififfceamaaGreatDoorY05
import Derived.Test.YtejbififfceamaaGreatDoorY01
namespace Go.Proofs.YtejbififfceamaaGreatDoor
set_option linter.unusedSimpArgs false
set_option linter.unusedVariables false
set_option maxRecDepth 100000
open Go.RowKit
def hexS : ByteArray := ⟨#[48, 49, 50, 51, 52, 53, 54, 55, 56, 57, 97, 98, 99, 100, 101, 102]⟩
def hxI (c : UInt8) : Int := match hx c with | some k => (k : Int) | none => -1
theorem hxI_idx_n : ∀ n : Nat, n < 256 → Lib.indexByte hexS.data.toList n.toUInt8 = hxI n.toUInt8 := by decide
theorem hxI_idx (c : UInt8) : Lib.indexByte hexS.data.toList (c.toNat : Int).toNat.toUInt8 = hxI c := by
  have h := hxI_idx_n c.toNat c.toNat_lt
  simpa using h
set_option maxHeartbeats 1000000 in
theorem digit_end (g : Nat) (s : ByteArray) (a : Nat) (v : Value) (f : Int) (w : World) (h : PA w g s a v []) :
    Calls Tryz.prog 148 #[.pointer (some ⟨g, 0, none⟩), .int .i64 f] w fun e w' => e = .panicked (mis s.size) ∧ Stk w' g ∧ w.grownBy w' (some g) := by
  have HM := hid (take_none g s a v w h)
  clear h
  go_enter Tryz.func148, Tryz.ntmps148
  go_wp2_with fail
  refine Calls.mono HM.out ?_
  rintro e w1 ⟨rfl, hs, hg⟩
  exact ⟨rfl, rfl, hs, hg⟩
set_option maxHeartbeats 1000000 in
theorem digit_ok (g : Nat) (s : ByteArray) (a : Nat) (v : Value) (c : UInt8) (r : List UInt8) (f : Int) (k : Nat) (hk : hx c = some k) (w : World) (h : PA w g s a v (c :: r)) :
    Calls Tryz.prog 148 #[.pointer (some ⟨g, 0, none⟩), .int .i64 f] w fun e w' => e = .returned (.int .u8 (k : Int)) ∧ PA w' g s (a + 1) v r ∧ w.grownBy w' (some g) := by
  have HM := hid (take_some g s a v c r w h)
  have hI : Hid (Lib.indexByte hexS.data.toList (c.toNat : Int).toNat.toUInt8 = (k : Int)) := by
    show _ = _
    rw [hxI_idx, hxI, hk]
  have hlt := hx_lt _ _ hk
  clear h hk
  go_enter Tryz.func148, Tryz.ntmps148
  go_wp2_with fail
  refine Calls.mono HM.out ?_
  rintro e w1 ⟨rfl, hp, hg⟩
  go_wp2_with fail
  refine Calls.mono (indexByte_any hexS _ _) ?_
  rintro e w2 ⟨rfl, rfl⟩
  rw [hI.out]
  have hn : ¬ (k : Int) < 0 := by omega
  have hw : IntKind.u8.wrap (k : Int) = (k : Int) := by rw [IntKind.wrap_u8]; omega
  go_wp2
  go_ret
  exact ⟨rfl, hp, hg⟩
set_option maxHeartbeats 1000000 in
theorem digit_bad (g : Nat) (s : ByteArray) (a : Nat) (v : Value) (c : UInt8) (r : List UInt8) (f : Int) (hk : hx c = none) (w : World) (h : PA w g s a v (c :: r)) :
    Calls Tryz.prog 148 #[.pointer (some ⟨g, 0, none⟩), .int .i64 f] w fun e w' => e = .panicked (mis f) ∧ Stk w' g ∧ w.grownBy w' (some g) := by
  have HM := hid (take_some g s a v c r w h)
  have hI : Hid (Lib.indexByte hexS.data.toList (c.toNat : Int).toNat.toUInt8 = -1) := by
    show _ = _
    rw [hxI_idx, hxI, hk]
  clear h hk
  go_enter Tryz.func148, Tryz.ntmps148
  go_wp2_with fail
  refine Calls.mono HM.out ?_
  rintro e w1 ⟨rfl, hp, hg⟩
  go_wp2_with fail
  refine Calls.mono (indexByte_any hexS _ _) ?_
  rintro e w2 ⟨rfl, rfl⟩
  rw [hI.out]
  go_wp2_with fail
  refine Calls.mono (misfitAt_any g s _ v false f _ hp.rd) ?_
  rintro e w2 ⟨rfl, hs, hg2⟩
  go_wp2
  exact ⟨rfl, rfl, hs, grown_trans hg hg2⟩
end Go.Proofs.YtejbififfceamaaGreatDoor
namespace Go.Proofs.YtejbififfceamaaGreatDoor
set_option linter.unusedSimpArgs false
set_option linter.unusedVariables false
set_option maxRecDepth 100000
open Go.RowKit
theorem cnt_at (i : Nat) : ∀ n, cnt (fun j => decide (j = i)) n = if i < n then 1 else 0
  | 0 => by simp [cnt]
  | n + 1 => by
    rw [cnt, cnt_at i n]
    by_cases h : n = i
    · subst h; simp
    · have : i < n + 1 ↔ i < n := by omega
      simp [h, this]
theorem single_has (i j : Nat) (hi : i < 256) (hj : j < 256) : (z4.add (i : Int)).has j = decide (j = i) := by
  rw [C4.has_add z4_ok i j hi hj, z4_has, Bool.false_or]
  exact decide_eq_decide.2 eq_comm
theorem text_single (c : UInt8) : textL (C4.ofL [c]) = bt c.toNat := by
  have hc : c.toNat < 256 := c.toNat_lt
  have e : C4.ofL [c] = z4.add (c.toNat : Int) := rfl
  rw [e]
  have hk : (z4.add (c.toNat : Int)).ok := C4.add_ok z4_ok _
  have hm : ((z4.add (c.toNat : Int)).many 4 == 1) = true := by
    rw [many_cnt hk, cnt_congr _ (fun j => decide (j = c.toNat)) 256 (fun j hj => single_has _ _ hc hj), cnt_at, if_pos hc]
    rfl
  have hd : (z4.add (c.toNat : Int)).eqb dotC = false := by
    cases h : (z4.add (c.toNat : Int)).eqb dotC
    · rfl
    · have h2 := (C4.eqb_iff _ _).1 h
      have h0 := single_has c.toNat 0 hc (by omega)
      have h1 := single_has c.toNat 1 hc (by omega)
      rw [h2] at h0 h1
      have d0 : dotC.has 0 = true := by decide
      have d1 : dotC.has 1 = true := by decide
      rw [d0] at h0
      rw [d1] at h1
      have a0 := of_decide_eq_true h0.symm
      have a1 := of_decide_eq_true h1.symm
      omega
  rw [textL_one _ hd hm]
  obtain ⟨b, hb, hr, hu⟩ := single_class hk hm
  rw [hr]
  have h1 := single_has c.toNat c.toNat hc hc
  rw [hu, single_has b c.toNat hb hc] at h1
  have : c.toNat = b := by simpa using h1
  rw [this]
/-- A byte is written as itself. -/
theorem bt_bare (c : UInt8) : (bt c.toNat = [c]) ↔ ¬ (c.toNat < 32 ∨ 126 < c.toNat ∨ c ∈ signL) := by
  have e : c.toNat.toUInt8 = c := by simp
  unfold bt
  rw [e]
  by_cases h : c.toNat < 32 ∨ 126 < c.toNat
  · rw [if_pos h]
    constructor
    · intro h2; simp at h2
    · intro h2; omega
  · rw [if_neg h]
    by_cases h2 : c ∈ signL
    · rw [if_pos h2]; simp [h2]
    · rw [if_neg h2]; simp only [true_iff]; rintro (h3 | h3 | h3) <;> first | omega | exact h2 h3
/-- A byte is written with a backslash. -/
theorem bt_esc (c : UInt8) : (bt c.toNat = [92, c]) ↔ c ∈ signL := by
  have e : c.toNat.toUInt8 = c := by simp
  unfold bt
  rw [e]
  by_cases h : c.toNat < 32 ∨ 126 < c.toNat
  · rw [if_pos h]
    constructor
    · intro h2; simp at h2
    · intro h2
      exfalso
      revert h h2
      have key : ∀ x ∈ signL, ¬ (x.toNat < 32 ∨ 126 < x.toNat) := by decide
      intro h h2
      exact key c h2 h
  · rw [if_neg h]
    by_cases h2 : c ∈ signL
    · rw [if_pos h2]; simp [h2]
    · rw [if_neg h2]; simp [h2]
end Go.Proofs.YtejbififfceamaaGreatDoor
namespace Go.Proofs.YtejbififfceamaaGreatDoor
set_option linter.unusedSimpArgs false
set_option linter.unusedVariables false
set_option maxRecDepth 100000
open Go.RowKit
set_option maxHeartbeats 400000 in
theorem ones_any (x : Int) (w : World) :
    Calls Tryz.prog 159 #[.int .u64 x] w fun e w' => e = .returned (.int .i64 (ones x)) ∧ w' = w := by
  go_enter Tryz.func159, Tryz.ntmps159
  go_wp2
  go_ret
  exact ⟨rfl, rfl⟩
theorem index4_0 (k : C4) (w : World) : (Instr.index 104 k.v (.int .i64 0)).run Tryz.prog w = .ok (.int .u64 k.a) w := by kernel_rfl
theorem index4_1 (k : C4) (w : World) : (Instr.index 104 k.v (.int .i64 1)).run Tryz.prog w = .ok (.int .u64 k.b) w := by kernel_rfl
theorem index4_2 (k : C4) (w : World) : (Instr.index 104 k.v (.int .i64 2)).run Tryz.prog w = .ok (.int .u64 k.c) w := by kernel_rfl
theorem index4_3 (k : C4) (w : World) : (Instr.index 104 k.v (.int .i64 3)).run Tryz.prog w = .ok (.int .u64 k.d) w := by kernel_rfl
theorem index4 (k : C4) (i : Nat) (h : i < 4) (w : World) : (Instr.index 104 k.v (.int .i64 i)).run Tryz.prog w = .ok (.int .u64 (k.w i)) w := by
  match i, h with
  | 0, _ => exact index4_0 k w
  | 1, _ => exact index4_1 k w
  | 2, _ => exact index4_2 k w
  | 3, _ => exact index4_3 k w

set_option maxHeartbeats 400000 in
theorem many_any (k : C4) (w : World) :
    Calls Tryz.prog 157 #[k.v] w fun e w' => e = .returned (.int .i64 (k.many 4)) ∧ Below w.heap.size w w' := by
  go_enter Tryz.func157, Tryz.ntmps157
  go_wp2
  go_loop [3, 7] (fun n i => ∃ j : Nat, j ≤ 4 ∧ i = .int .i64 j ∧ n = .int .i64 (k.many j)) (fun _ i => 4 - (intOf i).toNat)
  case atStart => exact ⟨0, by omega, rfl, rfl⟩
  case round =>
    obtain ⟨j, hj, rfl, rfl⟩ := hrel
    by_cases hlt : j < 4
    · have hi := index4 k j hlt
      go_wp2_with (first | (go_at_call 159; refine (ones_any _ _).mono ?_; rintro e w' ⟨rfl, rfl⟩))
      go_round
      case rel => exact ⟨j + 1, by omega, by go_num, rfl⟩
      case measure => simp [intOf]; omega
    · have hj4 : j = 4 := by omega
      subst hj4
      go_wp2
      go_ret
      exact ⟨rfl, (Below.refl _ _).alloc (Nat.le_refl _) _⟩
end Go.Proofs.YtejbififfceamaaGreatDoor
namespace Go.Proofs.YtejbififfceamaaGreatDoor
set_option linter.unusedSimpArgs false
set_option linter.unusedVariables false
set_option maxRecDepth 100000
open Go.RowKit
set_option maxHeartbeats 1000000 in
theorem of_any (s : ByteArray) (w : World) (hs : s.size ≤ maxLen) :
    Calls Tryz.prog 110 #[.string s] w fun e w' => e = .returned (C4.ofL s.data.toList).v ∧ Below w.heap.size w w' := by
  unfold maxLen at hs
  go_enter Tryz.func110, Tryz.ntmps110
  go_wp2
  go_loopw [7] (fun i wr => ∃ k : Nat, k ≤ s.size ∧ i = .int .i64 k ∧ Below w.heap.size w wr ∧ Hb wr w.heap.size z4 ∧ Hb wr (w.heap.size + 1) (C4.ofL (s.data.toList.take k))) (fun i _ => s.size - (intOf i).toNat)
  case atStart =>
    refine ⟨0, by omega, rfl, ?_, ?_, ?_⟩
    · exact ((Below.refl _ _).alloc (Nat.le_refl _) _).alloc (by simp) _
    · exact (Hb.new _ z4 _ rfl).alloc _
    · exact Hb.new _ z4 _ (by simp)
  case round =>
    obtain ⟨k, hk, rfl, hB, hZ, hC⟩ := hrel
    by_cases hlt : k < s.size
    · obtain ⟨c0, c1, c2, c3, e0, e1, e2, e3⟩ := hC.all
      have i0 : (0 : Int) ≤ (k : Int) := by omega
      have i1 : (k : Int) < (s.size : Int) := by omega
      have hg : s.data.toList[k]? = some s[k] := by
        rw [List.getElem?_eq_getElem (by simpa using hlt)]; rfl
      have hts : s.data.toList.take (k + 1) = s.data.toList.take k ++ [s[k]] := by
        rw [List.take_succ_eq_append_getElem (by simpa using hlt)]; rfl
      have HT : Hid (C4.ofL (s.data.toList.take (k + 1)) = (C4.ofL (s.data.toList.take k)).add (s[k].toNat : Int)) := by rw [hts, C4.ofL_snoc]; exact rfl
      clear hts hg
      have hlb : (s[k].toNat : Int) < 256 := by have := s[k].toNat_lt; omega
      have hl0 : (0 : Int) ≤ (s[k].toNat : Int) := by omega
      go_wp2_with fail
      go_region_with (first | (go_at_call 128; refine (with_any (C4.ofL (s.data.toList.take k)) _ _ hl0 hlb).mono ?_; rintro e w' ⟨rfl, hb⟩; have hC1 := Hb.below hC.drew hb hC.lt; obtain ⟨g0, g1, g2, g3, q0, q1, q2, q3⟩ := hC1.all))
      all_goals
        go_wp2
        refine ⟨⟨k + 1, by omega, by go_num, ?_, ?_, ?_⟩, by simp [intOf]; omega⟩
        · exact below_put4 (hB.drew.trans (hb.mono hB.size)) (by omega) _
        · exact Hb.other4 (Hb.below hZ.drew hb hZ.lt) _ (by omega)
        · rw [HT.out]; exact hC1.put4 _
    · have hk4 : k = s.size := by omega
      subst hk4
      have ht : s.data.toList.take s.size = s.data.toList := List.take_of_length_le (by simp)
      rw [ht] at hC
      clear ht
      obtain ⟨c0, c1, c2, c3, e0, e1, e2, e3⟩ := hC.all
      obtain ⟨d0, d1, d2, d3, f0, f1, f2, f3⟩ := hZ.all
      go_wp2
      have hq := hZ.put4 (C4.ofL s.data.toList)
      refine bodyPost_ret (v := (C4.ofL s.data.toList).v) (by simp [results, Tryz.results110, go_sem, hq.c0, hq.c1, hq.c2, hq.c3]) rfl ⟨rfl, ?_⟩
      exact below_put4 hB (by omega) _
end Go.Proofs.YtejbififfceamaaGreatDoor
namespace Go.Proofs.YtejbififfceamaaGreatDoor
set_option linter.unusedSimpArgs false
set_option linter.unusedVariables false
set_option maxRecDepth 100000
open Go.RowKit

set_option maxHeartbeats 400000 in
theorem not_any (x : C4) (w : World) :
    Calls Tryz.prog 131 #[x.v] w fun e w' => e = .returned (x.not).v ∧ Below w.heap.size w w' := by
  go_enter Tryz.func131, Tryz.ntmps131
  go_wp2_with fail
  refine (join_any 143 (fun p _ => not64 p) not1_any enters_not1 x x _).mono ?_
  rintro e w1 ⟨rfl, hb⟩
  have hB : Below w.heap.size w w1 := (((Below.refl _ _).alloc (Nat.le_refl _) _).alloc (by simp) _).trans (hb.mono (by simp; omega))
  have hZ : Hb w1 (w.heap.size + 1) z4 := (Hb.new _ z4 _ (by simp)).below hb (by simp)
  obtain ⟨d0, d1, d2, d3, f0, f1, f2, f3⟩ := hZ.all
  go_wp2
  have hq := hZ.put4 (x.not)
  refine bodyPost_ret (v := (x.not).v) (by have g0 := hq.c0; have g1 := hq.c1; have g2 := hq.c2; have g3 := hq.c3; simp [jn, C4.not] at g0 g1 g2 g3 ⊢; simp [results, Tryz.results131, go_sem, C4.not, g0, g1, g2, g3]) rfl ⟨rfl, ?_⟩
  exact below_put4 hB (by omega) _
end Go.Proofs.YtejbififfceamaaGreatDoor
namespace Go.Proofs.YtejbififfceamaaGreatDoor
set_option linter.unusedSimpArgs false
set_option linter.unusedVariables false
set_option maxRecDepth 100000
open Go.RowKit

set_option maxHeartbeats 400000 in
theorem byteText_hex (x : Int) (w : World) (h : 0 ≤ x) (h2 : x < 256) (h3 : x < 32 ∨ 126 < x) :
    Calls Tryz.prog 165 #[.int .u8 x] w fun e w' => e = .returned (.string ⟨(bt x.toNat).toArray⟩) ∧ Below w.heap.size w w' := by
  obtain ⟨n, rfl⟩ := Int.eq_ofNat_of_zero_le h
  have q1 : (0:Int) ≤ (n : Int) / 16 := by omega
  have q2 : (n : Int) / 16 < 16 := by omega
  have q3 : (0:Int) ≤ (n : Int) % 16 := by omega
  have q4 : (n : Int) % 16 < 16 := by omega
  have hb := bt_hex n (by omega) (by omega)
  have HB := (show Hid _ from hb)
  clear hb
  rcases h3 with h3 | h3
  · go_enter Tryz.func165, Tryz.ntmps165
    go_wp2
    go_quiet (fail)
    go_wp2
    go_ret
    exact ⟨ret_str HB.out, below_drewN' _ _⟩
  · have h4 : ¬ (n : Int) < 32 := by omega
    go_enter Tryz.func165, Tryz.ntmps165
    go_wp2
    go_quiet (fail)
    go_wp2
    go_ret
    exact ⟨ret_str HB.out, below_drewN' _ _⟩

set_option maxHeartbeats 400000 in
theorem byteText_plain (x : Int) (w : World) (h : 32 ≤ x) (h2 : x ≤ 126) :
    Calls Tryz.prog 165 #[.int .u8 x] w fun e w' => e = .returned (.string ⟨(bt x.toNat).toArray⟩) ∧ Below w.heap.size w w' := by
  obtain ⟨n, rfl⟩ := Int.eq_ofNat_of_zero_le (show 0 ≤ x by omega)
  have h4 : ¬ (n : Int) < 32 := by omega
  have h5 : ¬ 126 < (n : Int) := by omega
  have hu := enc_ascii n (by omega)
  by_cases hm : (0 : Int) ≤ Lib.indexByte [92, 46, 91, 93, 40, 41, 124, 42, 43, 63, 94, 36, 45] (UInt8.ofNat n)
  · have hb := signs_in n (by omega) hm (by omega) (by omega)
    have HB := (show Hid _ from hb)
    clear hb
    go_enter Tryz.func165, Tryz.ntmps165
    go_wp2_with (go_at_call 156; refine (indexByte_any _ _ _).mono ?_; rintro e w' ⟨rfl, rfl⟩)
    go_ret
    refine ⟨ret_str ?_, Below.refl _ _⟩
    rw [Int.toNat_natCast, HB.out]
    rfl
  · have hb := signs_out n (by omega) hm (by omega) (by omega)
    have HB := (show Hid _ from hb)
    have hm2 : decide ((0 : Int) ≤ Lib.indexByte [92, 46, 91, 93, 40, 41, 124, 42, 43, 63, 94, 36, 45] (UInt8.ofNat n)) = false := by simpa using hm
    clear hb hm
    go_enter Tryz.func165, Tryz.ntmps165
    go_wp2_with fail
    refine (indexByte_any _ _ _).mono ?_
    rintro e w' ⟨rfl, rfl⟩
    go_wp2
    go_ret
    refine ⟨ret_str ?_, Below.refl _ _⟩
    rw [Int.toNat_natCast, HB.out]
theorem byteText_any (x : Int) (w : World) (h : 0 ≤ x) (h2 : x < 256) :
    Calls Tryz.prog 165 #[.int .u8 x] w fun e w' => e = .returned (.string ⟨(bt x.toNat).toArray⟩) ∧ Below w.heap.size w w' := by
  by_cases h3 : x < 32 ∨ 126 < x
  · exact byteText_hex x w h h2 h3
  · exact byteText_plain x w (by omega) (by omega)

set_option maxHeartbeats 400000 in
theorem runText_any (i j : Int) (w : World) (h : 0 ≤ i) (h1 : i ≤ j) (h2 : j < 256) :
    Calls Tryz.prog 162 #[.int .i64 i, .int .i64 j] w fun e w' => e = .returned (.string ⟨(rt i.toNat j.toNat).toArray⟩) ∧ Below w.heap.size w w' := by
  have hl1 : (⟨(bt i.toNat).toArray⟩ : ByteArray).size ≤ 4 := by rw [size_str]; exact bt_len _
  have hl2 : (⟨(bt j.toNat).toArray⟩ : ByteArray).size ≤ 4 := by rw [size_str]; exact bt_len _
  have hl3 : (bt i.toNat).length ≤ 4 := bt_len _
  have hl4 : (bt j.toNat).length ≤ 4 := bt_len _
  by_cases e0 : j = i
  · subst e0
    have e1 : (j - j == 0) = true := by simp
    go_enter Tryz.func162, Tryz.ntmps162
    go_wp2_with fail
    refine (byteText_any _ _ (by omega) (by omega)).mono ?_
    rintro e w1 ⟨rfl, hb⟩
    go_wp2
    go_ret
    exact ⟨ret_str (by simp [rt]), hb⟩
  · have e1 : (j - i == 0) = false := by simp; omega
    by_cases e2 : j = i + 1
    · have e3 : (j - i == 1) = true := by simp; omega
      have E2 := (show Hid _ from e2)
      clear e2
      go_enter Tryz.func162, Tryz.ntmps162
      go_wp2_with fail
      refine (byteText_any _ _ (by omega) (by omega)).mono ?_
      rintro e w1 ⟨rfl, hb⟩
      go_wp2_with fail
      refine (byteText_any _ _ (by omega) (by omega)).mono ?_
      rintro e w2 ⟨rfl, hb2⟩
      go_wp2
      go_ret
      refine ⟨ret_str ?_, hb.trans (hb2.mono hb.size)⟩
      have := E2.out
      rw [cat_str, rt, if_neg (by omega), if_pos (by omega)]
    · have e3 : (j - i == 1) = false := by simp; omega
      go_enter Tryz.func162, Tryz.ntmps162
      go_wp2_with fail
      refine (byteText_any _ _ (by omega) (by omega)).mono ?_
      rintro e w1 ⟨rfl, hb⟩
      go_wp2_with fail
      refine (byteText_any _ _ (by omega) (by omega)).mono ?_
      rintro e w2 ⟨rfl, hb2⟩
      go_wp2
      go_ret
      refine ⟨ret_str ?_, hb.trans (hb2.mono hb.size)⟩
      rw [rt, if_neg (by omega), if_neg (by omega)]
      have e5 : ({ data := #[45] } : ByteArray) = ⟨([45] : List UInt8).toArray⟩ := rfl
      rw [e5, cat_str, cat_str]
      simp
end Go.Proofs.YtejbififfceamaaGreatDoor
namespace Go.Proofs.YtejbififfceamaaGreatDoor
set_option linter.unusedSimpArgs false
set_option linter.unusedVariables false
set_option maxRecDepth 100000
open Go.RowKit

set_option maxHeartbeats 400000 in
theorem runEnd_any (k : C4) (i : Int) (w : World) (h0 : 0 ≤ i) (h1 : i ≤ 256) :
    Calls Tryz.prog 160 #[k.v, .int .i64 i] w fun e w' => e = .returned (.int .i64 (rEnd k.p (256 - i.toNat) i.toNat)) ∧ Below w.heap.size w w' := by
  obtain ⟨n, rfl⟩ := Int.eq_ofNat_of_zero_le h0
  rw [Int.toNat_natCast]
  go_enter Tryz.func160, Tryz.ntmps160
  go_wp2
  go_loopw [1] (fun v wr => ∃ j : Nat, j ≤ 256 ∧ v = .int .i64 j ∧ Hid (rEnd k.p (256 - j) j = rEnd k.p (256 - n) n) ∧ Below w.heap.size w wr ∧ Hb wr w.heap.size k) (fun v _ => 256 - (intOf v).toNat)
  case atStart => exact ⟨n, by omega, rfl, rfl, (Below.refl _ _).alloc (Nat.le_refl _) _, Hb.new _ k _ rfl⟩
  case round =>
    obtain ⟨j, hj, rfl, HE, hB, hK⟩ := hrel
    obtain ⟨c0, c1, c2, c3, e0, e1, e2, e3⟩ := hK.all
    by_cases hlt : j < 256
    · have i1 : (j : Int) < 256 := by omega
      by_cases hp : k.hasI j = true
      · go_wp2_with (first | (go_at_call 141; refine (has_any k _ _ (by omega) (by omega)).mono ?_; rintro e w' ⟨rfl, hb⟩))
        refine ⟨⟨j + 1, by omega, by go_num, ?_, ?_, ?_⟩, by simp [intOf]; omega⟩
        · show _ = _
          rw [← HE.out, rEnd_yes k.p j hlt hp]
        · exact hB.trans (hb.mono hB.size)
        · exact hK.below hb hK.lt
      · have hp2 : k.hasI j = false := by simpa using hp
        clear hp
        go_wp2_with (first | (go_at_call 141; refine (has_any k _ _ (by omega) (by omega)).mono ?_; rintro e w' ⟨rfl, hb⟩))
        go_ret
        exact ⟨ret_int (by rw [← HE.out, rEnd_no k.p j hlt hp2]), hB.trans (hb.mono hB.size)⟩
    · have hj2 : j = 256 := by omega
      subst hj2
      go_wp2
      go_ret
      exact ⟨ret_int (by rw [← HE.out]; rfl), hB⟩

/-- A builder is what it was, where nothing that was there has turned. -/
theorem isBuilder_below {T e : TypeId} {B b : Nat} {bs : List Value} {w w' : World} (h : Lib.IsBuilder T e B b bs w) (hb : Below w.heap.size w w') : Lib.IsBuilder T e B b bs w' := by
  have key : ∀ p, Lib.BuilderAt T e B b p bs w → Lib.BuilderAt T e B b p bs w' := by
    intro p h
    have hlt := h.lt
    obtain ⟨hB, v, hbk, hown, hne⟩ := h
    refine ⟨hB, v, (hb.block b hlt).trans hbk, ?_, hne⟩
    refine hown.kept (row := none) ⟨hb.os, hb.tape, hb.output, hb.size, fun k hk _ => hb.block k hk⟩ ?_
    cases hv : v.ownBlock with
    | none => exact Or.inl rfl
    | some x => exact Or.inr (by simp)
  rcases h with h | h
  · exact Or.inl (key _ h)
  · exact Or.inr (key _ h)
theorem runEnd_ex (k : C4) (i : Nat) (w : World) (h : i ≤ 256) :
    Calls Tryz.prog 160 #[k.v, .int .i64 i] w fun e w' => ∃ en : Nat, e = .returned (.int .i64 en) ∧ Hid (rEnd k.p (256 - i) i = en) ∧ i ≤ en ∧ en ≤ 256 ∧ Below w.heap.size w w' := by
  refine (runEnd_any k i w (by omega) (by omega)).mono ?_
  rintro e w' ⟨rfl, hb⟩
  have hle := rEnd_le k.p (256 - i) i
  exact ⟨rEnd k.p (256 - i) i, rfl, Eq.refl _, by omega, by omega, hb⟩
theorem runText_n (i en : Nat) (w : World) (h : i < en) (h2 : en ≤ 256) :
    Calls Tryz.prog 162 #[.int .i64 i, .int .i64 ((en : Int) - 1)] w fun e w' => e = .returned (.string ⟨(rt i (en - 1)).toArray⟩) ∧ Below w.heap.size w w' := by
  refine (runText_any i ((en : Int) - 1) w (by omega) (by omega) (by omega)).mono ?_
  rintro e w' ⟨rfl, hb⟩
  have ht : ((en : Int) - 1).toNat = en - 1 := by omega
  rw [ht]
  exact ⟨rfl, hb⟩
theorem writeString_l (B b : Nat) (acc l : List UInt8) (w : World) (h : Lib.IsBuilder 253 5 B b (Lib.byteCells acc) w) (hlen : acc.length + l.length ≤ 140737488355328) (hBw : B ≤ w.heap.size) :
    Calls Tryz.prog 161 #[.pointer (some ⟨b, 0, none⟩), .string ⟨l.toArray⟩] w fun e w' => (∃ v, e = .returned v) ∧ Lib.IsBuilder 253 5 B b (Lib.byteCells (acc ++ l)) w' ∧ Below B w w' := by
  refine (writeString_any B b _ ⟨l.toArray⟩ w h (by rw [Lib.byteCells_length, size_str]; exact hlen) hBw).mono ?_
  rintro e w' ⟨rfl, h1, hb⟩
  refine ⟨⟨_, rfl⟩, Or.inr ?_, hb⟩
  rw [Lib.byteCells_append]
  exact h1
theorem runsL_step (p : Nat → Bool) (f i en : Nat) (acc R : List UInt8) (hi : i < 256) (hE : rEnd p (256 - i) i = en) (h : acc ++ runsL p (f + 1) i = R) :
    (if i < en then acc ++ rt i (en - 1) else acc) ++ runsL p f (en + 1) = R := by
  rw [runsL, if_pos hi, hE] at h
  rw [← h]
  split <;> simp
theorem runsL_end (p : Nat → Bool) (f i : Nat) (acc R : List UInt8) (hi : ¬ i < 256) (h : acc ++ runsL p f i = R) : acc = R := by
  rw [← h]
  cases f <;> simp [runsL, hi]

set_option maxHeartbeats 1000000 in
theorem runs_any (k : C4) (w : World) :
    Calls Tryz.prog 158 #[k.v] w fun e w' => e = .returned (.string ⟨(runsL k.p 256 0).toArray⟩) ∧ Below w.heap.size w w' := by
  go_enter Tryz.func158, Tryz.ntmps158
  go_wp2
  go_loopw [4, 5] (fun v _ wr => ∃ (i f : Nat) (acc : List UInt8), i ≤ 257 ∧ 256 ≤ f + i ∧ v = .int .i64 i ∧ acc.length ≤ 9 * i ∧ Hid (acc ++ runsL k.p f i = runsL k.p 256 0) ∧ Below w.heap.size w wr ∧ Hb wr w.heap.size k ∧ Lib.IsBuilder 253 5 (w.heap.size + 1) (w.heap.size + 1) (Lib.byteCells acc) wr) (fun v _ _ => 257 - (intOf v).toNat)
  case atStart =>
    refine ⟨0, 256, [], by omega, by omega, rfl, by simp, List.nil_append _, ?_, ?_, ?_⟩
    · exact ((Below.refl _ _).alloc (Nat.le_refl _) _).alloc (by simp) _
    · exact (Hb.new _ k _ rfl).alloc _
    · have := Lib.fresh_isBuilder 253 5 (w.alloc (.cells k.cells 104))
      simp only [World.size_alloc] at this
      exact this
  case round =>
    obtain ⟨i, f, acc, hi, hf, rfl, hl, HE, hB, hK, hS⟩ := hrel
    obtain ⟨c0, c1, c2, c3, e0, e1, e2, e3⟩ := hK.all
    have hz := hK.lt
    by_cases hlt : i < 256
    · have i1 : (i : Int) < 256 := by omega
      obtain ⟨f, rfl⟩ : ∃ g, f = g + 1 := ⟨f - 1, by omega⟩
      go_wp2_with fail
      refine (runEnd_ex k i _ (by omega)).mono ?_
      rintro e w1 ⟨en, rfl, HG, hle, hen, hb⟩
      have hS1 := isBuilder_below hS hb
      have hK1 := hK.below hb hz
      have hB1 := hB.trans (hb.mono hB.size)
      have HR : Hid _ := runsL_step k.p f i en acc _ hlt HG.out HE.out
      by_cases hgt : i < en
      · have g1 : (i : Int) < (en : Int) := by omega
        go_wp2_with fail
        refine (runText_n i en _ (by omega) (by omega)).mono ?_
        rintro e w2 ⟨rfl, hb2⟩
        have hS2 := isBuilder_below hS1 hb2
        have hK2 := hK1.below hb2 hK1.lt
        have hB2 := hB1.trans (hb2.mono hB1.size)
        have hlr := rt_len i (en - 1)
        go_wp2_with fail
        refine (writeString_l (w.heap.size + 1) (w.heap.size + 1) acc (rt i (en - 1)) _ hS2 (by omega) (by have := hK2.lt; omega)).mono ?_
        rintro e w3 ⟨⟨v3, rfl⟩, hS3, hb3⟩
        go_wp2
        refine ⟨⟨en + 1, f, acc ++ rt i (en - 1), by omega, by omega, by go_num, by simp; omega, ?_, ?_, ?_, ?_⟩, by simp [intOf]; omega⟩
        · have := HR.out
          rw [if_pos hgt] at this
          exact this
        · exact hB2.trans (hb3.mono (by omega))
        · exact hK2.below hb3 (by omega)
        · exact hS3
      · have g1 : ¬ (i : Int) < (en : Int) := by omega
        go_wp2
        refine ⟨⟨en + 1, f, acc, by omega, by omega, by go_num, by omega, ?_, ?_, ?_, ?_⟩, by simp [intOf]; omega⟩
        · have := HR.out
          rw [if_neg hgt] at this
          exact this
        · exact hB1
        · exact hK1
        · exact hS1
    · have i1 : ¬ (i : Int) < 256 := by omega
      have HA : Hid _ := runsL_end k.p f i acc _ hlt HE.out
      go_wp2_with fail
      refine (string_any (w.heap.size + 1) (w.heap.size + 1) acc _ hS (by omega)).mono ?_
      rintro e w1 ⟨rfl, hb⟩
      go_wp2
      go_ret
      exact ⟨by rw [HA.out]; rfl, hB.trans (hb.mono (by omega))⟩
end Go.Proofs.YtejbififfceamaaGreatDoor
namespace Go.Proofs.YtejbififfceamaaGreatDoor
set_option linter.unusedSimpArgs false
set_option linter.unusedVariables false
set_option maxRecDepth 100000
open Go.RowKit

theorem runs256_any (k : C4) (w : World) :
    Calls Tryz.prog 158 #[k.v] w fun e w' => e = .returned (.string ⟨(runs256 k).toArray⟩) ∧ Below w.heap.size w w' := runs_any k w

set_option maxHeartbeats 1000000 in
theorem text_dot (k : C4) (w : World) (hd : k.eqb (C4.ofL [10]).not = true) :
    Calls Tryz.prog 149 #[k.v] w fun e w' => e = .returned (.string ⟨(textL k).toArray⟩) ∧ Below w.heap.size w w' := by
  have HT : Hid _ := textL_dot k hd
  have he := eq4
  have hten : (⟨#[10]⟩ : ByteArray).size ≤ maxLen := by unfold maxLen; decide
  have hrl := runs256_len k
  have hrs : (⟨(runs256 k).toArray⟩ : ByteArray).size ≤ 2304 := by rw [size_str]; exact hrl
  go_enter Tryz.func149, Tryz.ntmps149
  go_wp2_with fail
  have hn := Hb.new w k _ rfl
  have k0 := cell_regrown hn.c0
  have k1 := cell_regrown hn.c1
  have k2 := cell_regrown hn.c2
  have k3 := cell_regrown hn.c3
  refine wp_region_quiet_below (by kernel_rfl) (by kernel_rfl) ?_
  repeat (quiet_step (first
    | (go_at_call 110; exact Calls.regrown_of (of_any _ _ hten))
    | (go_at_call 131; exact Calls.regrown_of (not_any _ _))))
  refine wpQuiet_nil ?_
  intro _ hw'
  obtain ⟨⟨dq, osq⟩, hw''⟩ := hw'
  have hb1 := below_regrown (w.alloc (.cells k.cells 104)) dq osq
  have hw1 : Below w.heap.size w _ := ((Below.refl w.heap.size w).alloc (Nat.le_refl _) (.cells k.cells 104)).trans (hb1.mono (by simp))
  have hK := hn.below hb1 hn.lt
  subst hw''
  clear k0 k1 k2 k3
  generalize hgw : Go.Sort.grow (redrawn (w.alloc (.cells k.cells 104)) dq) osq = w1 at *
  clear hgw
  obtain ⟨c0, c1, c2, c3, e0, e1, e2, e3⟩ := hK.all
  go_wp2
  go_ret
  exact ⟨ret_str (by rw [HT.out]), hw1⟩
set_option maxHeartbeats 1000000 in
theorem text_one (k : C4) (w : World) (hd : k.eqb (C4.ofL [10]).not = false) (hm : (k.many 4 == 1) = true) :
    Calls Tryz.prog 149 #[k.v] w fun e w' => e = .returned (.string ⟨(textL k).toArray⟩) ∧ Below w.heap.size w w' := by
  have HT : Hid _ := textL_one k hd hm
  have he := eq4
  have hten : (⟨#[10]⟩ : ByteArray).size ≤ maxLen := by unfold maxLen; decide
  have hrl := runs256_len k
  have hrs : (⟨(runs256 k).toArray⟩ : ByteArray).size ≤ 2304 := by rw [size_str]; exact hrl
  go_enter Tryz.func149, Tryz.ntmps149
  go_wp2_with fail
  have hn := Hb.new w k _ rfl
  have k0 := cell_regrown hn.c0
  have k1 := cell_regrown hn.c1
  have k2 := cell_regrown hn.c2
  have k3 := cell_regrown hn.c3
  refine wp_region_quiet_below (by kernel_rfl) (by kernel_rfl) ?_
  repeat (quiet_step (first
    | (go_at_call 110; exact Calls.regrown_of (of_any _ _ hten))
    | (go_at_call 131; exact Calls.regrown_of (not_any _ _))))
  refine wpQuiet_nil ?_
  intro _ hw'
  obtain ⟨⟨dq, osq⟩, hw''⟩ := hw'
  have hb1 := below_regrown (w.alloc (.cells k.cells 104)) dq osq
  have hw1 : Below w.heap.size w _ := ((Below.refl w.heap.size w).alloc (Nat.le_refl _) (.cells k.cells 104)).trans (hb1.mono (by simp))
  have hK := hn.below hb1 hn.lt
  subst hw''
  clear k0 k1 k2 k3
  generalize hgw : Go.Sort.grow (redrawn (w.alloc (.cells k.cells 104)) dq) osq = w1 at *
  clear hgw
  obtain ⟨c0, c1, c2, c3, e0, e1, e2, e3⟩ := hK.all
  go_wp2_with fail
  refine (many_any k _).mono ?_
  rintro e w2 ⟨rfl, hb2⟩
  have hK2 := hK.below hb2 hK.lt
  obtain ⟨d0, d1, d2, d3, f0, f1, f2, f3⟩ := hK2.all
  go_wp2_with fail
  refine (runs256_any k _).mono ?_
  rintro e w3 ⟨rfl, hb3⟩
  go_wp2
  go_ret
  have h2 := hw1.trans (hb2.mono hw1.size)
  refine ⟨ret_str ?_, h2.trans (hb3.mono h2.size)⟩
  rw [HT.out]
set_option maxHeartbeats 1000000 in
theorem text_more (k : C4) (w : World) (hd : k.eqb (C4.ofL [10]).not = false) (hm : (k.many 4 == 1) = false) :
    Calls Tryz.prog 149 #[k.v] w fun e w' => e = .returned (.string ⟨(textL k).toArray⟩) ∧ Below w.heap.size w w' := by
  have HT : Hid _ := textL_more k hd hm
  have he := eq4
  have hten : (⟨#[10]⟩ : ByteArray).size ≤ maxLen := by unfold maxLen; decide
  have hrl := runs256_len k
  have hrs : (⟨(runs256 k).toArray⟩ : ByteArray).size ≤ 2304 := by rw [size_str]; exact hrl
  go_enter Tryz.func149, Tryz.ntmps149
  go_wp2_with fail
  have hn := Hb.new w k _ rfl
  have k0 := cell_regrown hn.c0
  have k1 := cell_regrown hn.c1
  have k2 := cell_regrown hn.c2
  have k3 := cell_regrown hn.c3
  refine wp_region_quiet_below (by kernel_rfl) (by kernel_rfl) ?_
  repeat (quiet_step (first
    | (go_at_call 110; exact Calls.regrown_of (of_any _ _ hten))
    | (go_at_call 131; exact Calls.regrown_of (not_any _ _))))
  refine wpQuiet_nil ?_
  intro _ hw'
  obtain ⟨⟨dq, osq⟩, hw''⟩ := hw'
  have hb1 := below_regrown (w.alloc (.cells k.cells 104)) dq osq
  have hw1 : Below w.heap.size w _ := ((Below.refl w.heap.size w).alloc (Nat.le_refl _) (.cells k.cells 104)).trans (hb1.mono (by simp))
  have hK := hn.below hb1 hn.lt
  subst hw''
  clear k0 k1 k2 k3
  generalize hgw : Go.Sort.grow (redrawn (w.alloc (.cells k.cells 104)) dq) osq = w1 at *
  clear hgw
  obtain ⟨c0, c1, c2, c3, e0, e1, e2, e3⟩ := hK.all
  go_wp2_with fail
  refine (many_any k _).mono ?_
  rintro e w2 ⟨rfl, hb2⟩
  have hK2 := hK.below hb2 hK.lt
  obtain ⟨d0, d1, d2, d3, f0, f1, f2, f3⟩ := hK2.all
  go_wp2_with fail
  refine (runs256_any k _).mono ?_
  rintro e w3 ⟨rfl, hb3⟩
  go_wp2
  go_ret
  have h2 := hw1.trans (hb2.mono hw1.size)
  refine ⟨ret_str ?_, h2.trans (hb3.mono h2.size)⟩
  have q1 : ({ data := #[91] } : ByteArray) = ⟨([91] : List UInt8).toArray⟩ := rfl
  have q2 : ({ data := #[93] } : ByteArray) = ⟨([93] : List UInt8).toArray⟩ := rfl
  rw [HT.out, q1, q2, cat_str, cat_str]
  simp
theorem text_any (k : C4) (w : World) :
    Calls Tryz.prog 149 #[k.v] w fun e w' => e = .returned (.string ⟨(textL k).toArray⟩) ∧ Below w.heap.size w w' := by
  cases hd : k.eqb dotC
  · cases hm : (k.many 4 == 1)
    · exact text_more k w hd hm
    · exact text_one k w hd hm
  · exact text_dot k w hd
end Go.Proofs.YtejbififfceamaaGreatDoor
