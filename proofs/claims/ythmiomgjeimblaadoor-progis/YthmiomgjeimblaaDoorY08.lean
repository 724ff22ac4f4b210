/- Library functions that the program calls (strings.Builder, strings.IndexByte), as the shelf's contracts say them of this program. What each call of package class does: third part: byteText, runText, runEnd, runs. What each call of package class does: fourth part: runEnd, runs. What each call of package class does: fifth part: Text. The landed prog: a step's line. (*strings.Builder).WriteByte of this program. -/
import Derived.Shelf.Strings.Builder1
import Derived.Shelf.Small.Strs
import Derived.WalkKit
import Derived.WalkSpells
import Derived.WalkLawsBesides
import Derived.Test.YthmiomgjeimblaaDoorProg
import Derived.Test.YthmiomgjeimblaaDoorY07
import Derived.Test.YthmiomgjeimblaaDoorY03
import Derived.Test.YthmiomgjeimblaaDoorY06
import Derived.Deep.AppendLies
namespace Go.Proofs.YthmiomgjeimblaaDoor
set_option linter.unusedSimpArgs false
set_option linter.unusedVariables false
open Go.Shelf Go.RowKit

def strRen : Go.Shelf.Ren := ⟨fun | 169 => 22 | n => n, fun | 70 => 49 | 9 => 9 | 0 => 0 | 72 => 52 | 37 => 50 | 127 => 71 | 3 => 3 | 5 => 5 | n => n, fun | n => n⟩
theorem strLays : Go.Proofs.Lays.n169 Tryd.prog strRen := {
  mixed := by kernel_rfl
  f169 := Tryd.func22.trans (congrArg some (by kernel_rfl))
  t0 := Tryd.underlying0
  a0 := Tryd.isAgg0
  z0 := Tryd.sizeOf0
  v0 := Tryd.zeroValue0
  t3 := Tryd.underlying3
  a3 := Tryd.isAgg3
  z3 := Tryd.sizeOf3
  v3 := Tryd.zeroValue3
  t9 := Tryd.underlying9
  a9 := Tryd.isAgg9
  z9 := Tryd.sizeOf9
  v9 := Tryd.zeroValue9
  t37 := Tryd.underlying50
  a37 := Tryd.isAgg50
  z37 := Tryd.sizeOf50
  v37 := Tryd.zeroValue50
  t70 := Tryd.underlying49
  a70 := Tryd.isAgg49
  z70 := Tryd.sizeOf49
  v70 := Tryd.zeroValue49
  t72 := Tryd.underlying52
  a72 := Tryd.isAgg52
  z72 := Tryd.sizeOf52
  v72 := Tryd.zeroValue52
  t127 := Tryd.underlying71
  a127 := Tryd.isAgg71
  z127 := Tryd.sizeOf71
  v127 := Tryd.zeroValue71 }
theorem strExtra : Builder.Extra Tryd.prog strRen := {
  sizeBuilder := by kernel_rfl
  liesBuilder := by kernel_rfl
  t5 := Tryd.underlying5
  a5 := Tryd.isAgg5
  z5 := Tryd.sizeOf5
  v5 := Tryd.zeroValue5
  infoByte := by kernel_rfl
  cellsByte := by kernel_rfl
  sizeByte := by kernel_rfl
  neB5 := by decide }
theorem string_any (B b : Nat) (l : List UInt8) (w : World) (h : Lib.IsBuilder 52 5 B b (Lib.byteCells l) w) (hBw : B ≤ w.heap.size) :
    Calls Tryd.prog 22 #[.pointer (some ⟨b, 0, none⟩)] w fun e w' => e = .returned (.string ⟨l.toArray⟩) ∧ Below B w w' := Any.Builder_String_any strLays strExtra B b l w h hBw

def ixRen : Go.Shelf.Ren := ⟨fun | 137 => 75 | 217 => 78 | 266 => 79 | n => n, fun | 9 => 9 | 5 => 5 | 3 => 3 | n => n, fun | n => n⟩
theorem ixLays : Go.Proofs.Lays.n137 Tryd.prog ixRen := {
  mixed := by kernel_rfl
  f137 := Tryd.func75.trans (congrArg some (by kernel_rfl))
  f217 := Tryd.func78.trans (congrArg some (by kernel_rfl))
  f266 := Tryd.func79.trans (congrArg some (by kernel_rfl))
  t3 := Tryd.underlying3
  a3 := Tryd.isAgg3
  z3 := Tryd.sizeOf3
  v3 := Tryd.zeroValue3
  t5 := Tryd.underlying5
  a5 := Tryd.isAgg5
  z5 := Tryd.sizeOf5
  v5 := Tryd.zeroValue5
  t9 := Tryd.underlying9
  a9 := Tryd.isAgg9
  z9 := Tryd.sizeOf9
  v9 := Tryd.zeroValue9 }
theorem indexByte_any (s : ByteArray) (c : Int) (w : World) :
    Calls Tryd.prog 75 #[.string s, .int .u8 c] w fun e w' => e = .returned (.int .i64 (Lib.indexByte s.data.toList c.toNat.toUInt8)) ∧ w' = w := Any.strings_IndexByte ixLays s c w

/-! strings.Builder's writing: copyCheck, WriteString -/
set_option maxHeartbeats 1000000 in
set_option maxRecDepth 100000 in
theorem copyCheck_used (b : Nat) (w : World) (h0 : w.cell? ⟨b, 0, none⟩ = some (.pointer (some ⟨b, 0, none⟩))) :
    Calls Tryd.prog 31 #[.pointer (some ⟨b, 0, none⟩)] w fun e w' => e = .returned (.tuple #[]) ∧ w' = w := by
  obtain ⟨j, hj, _⟩ := Option.map_eq_some_iff.1 strExtra.sizeBuilder
  go_enter Tryd.func31, Tryd.ntmps31
  go_wp2
  rw [Lib.run_neq_ptr_same w _ Tryd.underlying49 hj]
  go_wp2
  go_end0
  exact ⟨rfl, rfl⟩
set_option maxHeartbeats 1000000 in
set_option maxRecDepth 100000 in
theorem copyCheck_fresh (b : Nat) (w : World) (h0 : w.cell? ⟨b, 0, none⟩ = some (.pointer none)) (hsh : w.shape? b = some (52, 2)) (hfz : w.frozen? ⟨b, 0, none⟩ = false) :
    Calls Tryd.prog 31 #[.pointer (some ⟨b, 0, none⟩)] w fun e w' => e = .returned (.tuple #[]) ∧ w' = w.setCell ⟨b, 0, none⟩ (.pointer (some ⟨b, 0, none⟩)) := by
  obtain ⟨j, hj, hjs⟩ := Option.map_eq_some_iff.1 strExtra.sizeBuilder
  go_enter Tryd.func31, Tryd.ntmps31
  go_wp2
  rw [Lib.run_to_unsafe w ⟨b, 0, none⟩ Tryd.underlying49 Tryd.underlying76 hj (by rw [hjs]; decide) hsh (Nat.zero_lt_succ 1)]
  simp only [Result.andThen]
  rw [Oper.upon_value]
  go_wp2
  rw [run_callFunc_extern Tryd.func45 (by kernel_rfl) (by kernel_rfl) (by kernel_rfl) (e := Extern.AbiNoEscape.same) (by kernel_rfl)]
  rw [Lib.run_noEscape]
  simp only [Result.andThen]
  rw [Oper.upon_value]
  go_wp2
  rw [Lib.run_from_unsafe w ⟨b, 0, none⟩ Tryd.underlying76 Tryd.underlying49 hj hsh strExtra.liesBuilder]
  simp only [Result.andThen]
  rw [Oper.upon_value]
  go_wp2
  go_end0
  exact ⟨rfl, rfl⟩
theorem copyCheck_any (B b : Nat) (bs : List Value) (w : World) (h : Lib.IsBuilder 52 5 B b bs w) :
    Calls Tryd.prog 31 #[.pointer (some ⟨b, 0, none⟩)] w fun e w' => e = .returned (.tuple #[]) ∧ (Lib.BuilderAt 52 5 B b (.pointer (some ⟨b, 0, none⟩)) bs w' ∧ Below B w w') := by
  rcases h with h | h
  · refine (copyCheck_fresh b w h.cell0 h.shape h.frozen0).mono ?_
    rintro e w' ⟨rfl, rfl⟩
    exact ⟨rfl, h.used _, (Below.refl B w).setCell (p := ⟨b, 0, none⟩) h.1 _⟩
  · refine (copyCheck_used b w h.cell0).mono ?_
    rintro e w' ⟨rfl, rfl⟩
    exact ⟨rfl, h, Below.refl B _⟩
set_option maxHeartbeats 1000000 in
set_option maxRecDepth 100000 in
theorem writeString_any (B b : Nat) (bs : List Value) (s : ByteArray) (w : World) (h : Lib.IsBuilder 52 5 B b bs w) (hlen : bs.length + s.size ≤ 140737488355328) (hBw : B ≤ w.heap.size) :
    Calls Tryd.prog 19 #[.pointer (some ⟨b, 0, none⟩), .string s] w fun e w' => e = .returned (.tuple #[.int .i64 s.size, .nilIface]) ∧ (Lib.BuilderAt 52 5 B b (.pointer (some ⟨b, 0, none⟩)) (bs ++ Lib.strCells s) w' ∧ Below B w w') := by
  obtain ⟨i0, hi, hz0, hz1, hz2⟩ := info_parts strExtra.infoByte
  go_enter Tryd.func19, Tryd.ntmps19
  go_wp2_with (go_at_call 31; refine (copyCheck_any B b bs _ h).mono ?_)
  rintro e w1 ⟨rfl, h1, hb1⟩
  obtain ⟨hB, v, hbk, hown, hne⟩ := h1
  have c0 : w1.cell? ⟨b, 0, none⟩ = some (.pointer (some ⟨b, 0, none⟩)) := by rw [Lib.cell_of_heap hbk]; rfl
  have c1 : w1.cell? ⟨b, 1, none⟩ = some v := by rw [Lib.cell_of_heap hbk]; rfl
  go_wp2_with (at_builtin; refine Lib.wpList_append_own_string _ rfl _ _ 50 9 rfl B 5 i0 Tryd.underlying50 Tryd.underlying9 hi hz0 hz1 hz2 _ _ _ rfl hown s rfl ?c3 ?c4 ?c5 ?_)
  case c3 => unfold maxLen; omega
  case c4 => omega
  case c5 => have := hb1.size; omega
  intro v' w2 hown' hgrow _
  have hlt : b < w1.heap.size := by
    rcases Nat.lt_or_ge b w1.heap.size with h' | h'
    · exact h'
    · simp [Array.getElem?_eq_none h'] at hbk
  have hb2 : w2.heap[b]? = some (.cells #[.pointer (some ⟨b, 0, none⟩), v] 52 (0, 0)) := by
    rw [hgrow.block b hlt (fun e => hne e.symm)]
    exact hbk
  have d0 : w2.cell? ⟨b, 0, none⟩ = some (.pointer (some ⟨b, 0, none⟩)) := by rw [Lib.cell_of_heap hb2]; rfl
  have d1 : w2.cell? ⟨b, 1, none⟩ = some v := by rw [Lib.cell_of_heap hb2]; rfl
  have f1 : w2.frozen? ⟨b, 1, none⟩ = false := Lib.frozen_of_heap hb2 1
  obtain ⟨ao, n', cap, rfl⟩ : ∃ ao n' cap, v' = .slice ao n' cap := by
    rcases hown'.2 with ⟨hv, _⟩ | ⟨g, cap, cur, hv, _⟩
    · exact ⟨_, _, _, hv⟩
    · exact ⟨_, _, _, hv⟩
  go_wp2
  go_ret2
  refine ⟨rfl, ?_, ?_⟩
  · exact Lib.BuilderAt.put (T := 52) (e := 5) hB hb2 (bs' := bs ++ Lib.strCells s) (by simpa [Lib.strCells_length] using hown') strExtra.neB5
  · exact (hb1.grown hgrow (by have := hb1.size; omega) (fun k hk => (hown.lt k hk).1)).setCell (p := ⟨b, 1, none⟩) hB _
end Go.Proofs.YthmiomgjeimblaaDoor
namespace Go.Proofs.YthmiomgjeimblaaDoor
set_option linter.unusedSimpArgs false
set_option linter.unusedVariables false
set_option maxRecDepth 100000
open Go.RowKit

set_option maxHeartbeats 400000 in
theorem byteText_hex (x : Int) (w : World) (h : 0 ≤ x) (h2 : x < 256) (h3 : x < 32 ∨ 126 < x) :
    Calls Tryd.prog 69 #[.int .u8 x] w fun e w' => e = .returned (.string ⟨(bt x.toNat).toArray⟩) ∧ Below w.heap.size w w' := by
  obtain ⟨n, rfl⟩ := Int.eq_ofNat_of_zero_le h
  have q1 : (0:Int) ≤ (n : Int) / 16 := by omega
  have q2 : (n : Int) / 16 < 16 := by omega
  have q3 : (0:Int) ≤ (n : Int) % 16 := by omega
  have q4 : (n : Int) % 16 < 16 := by omega
  have hb := bt_hex n (by omega) (by omega)
  have HB := (show Hid _ from hb)
  clear hb
  rcases h3 with h3 | h3
  · go_enter Tryd.func69, Tryd.ntmps69
    go_wp2
    go_quiet (fail)
    go_wp2
    go_ret
    exact ⟨ret_str HB.out, below_drewN' _ _⟩
  · have h4 : ¬ (n : Int) < 32 := by omega
    go_enter Tryd.func69, Tryd.ntmps69
    go_wp2
    go_quiet (fail)
    go_wp2
    go_ret
    exact ⟨ret_str HB.out, below_drewN' _ _⟩

set_option maxHeartbeats 400000 in
theorem byteText_plain (x : Int) (w : World) (h : 32 ≤ x) (h2 : x ≤ 126) :
    Calls Tryd.prog 69 #[.int .u8 x] w fun e w' => e = .returned (.string ⟨(bt x.toNat).toArray⟩) ∧ Below w.heap.size w w' := by
  obtain ⟨n, rfl⟩ := Int.eq_ofNat_of_zero_le (show 0 ≤ x by omega)
  have h4 : ¬ (n : Int) < 32 := by omega
  have h5 : ¬ 126 < (n : Int) := by omega
  have hu := enc_ascii n (by omega)
  by_cases hm : (0 : Int) ≤ Lib.indexByte [92, 46, 91, 93, 40, 41, 124, 42, 43, 63, 94, 36, 45] (UInt8.ofNat n)
  · have hb := signs_in n (by omega) hm (by omega) (by omega)
    have HB := (show Hid _ from hb)
    clear hb
    go_enter Tryd.func69, Tryd.ntmps69
    go_wp2_with (go_at_call 75; refine (indexByte_any _ _ _).mono ?_; rintro e w' ⟨rfl, rfl⟩)
    go_ret
    refine ⟨ret_str ?_, Below.refl _ _⟩
    rw [Int.toNat_natCast, HB.out]
    rfl
  · have hb := signs_out n (by omega) hm (by omega) (by omega)
    have HB := (show Hid _ from hb)
    have hm2 : decide ((0 : Int) ≤ Lib.indexByte [92, 46, 91, 93, 40, 41, 124, 42, 43, 63, 94, 36, 45] (UInt8.ofNat n)) = false := by simpa using hm
    clear hb hm
    go_enter Tryd.func69, Tryd.ntmps69
    go_wp2_with fail
    refine (indexByte_any _ _ _).mono ?_
    rintro e w' ⟨rfl, rfl⟩
    go_wp2
    go_ret
    refine ⟨ret_str ?_, Below.refl _ _⟩
    rw [Int.toNat_natCast, HB.out]
theorem byteText_any (x : Int) (w : World) (h : 0 ≤ x) (h2 : x < 256) :
    Calls Tryd.prog 69 #[.int .u8 x] w fun e w' => e = .returned (.string ⟨(bt x.toNat).toArray⟩) ∧ Below w.heap.size w w' := by
  by_cases h3 : x < 32 ∨ 126 < x
  · exact byteText_hex x w h h2 h3
  · exact byteText_plain x w (by omega) (by omega)

set_option maxHeartbeats 400000 in
theorem runText_any (i j : Int) (w : World) (h : 0 ≤ i) (h1 : i ≤ j) (h2 : j < 256) :
    Calls Tryd.prog 63 #[.int .i64 i, .int .i64 j] w fun e w' => e = .returned (.string ⟨(rt i.toNat j.toNat).toArray⟩) ∧ Below w.heap.size w w' := by
  have hl1 : (⟨(bt i.toNat).toArray⟩ : ByteArray).size ≤ 4 := by rw [size_str]; exact bt_len _
  have hl2 : (⟨(bt j.toNat).toArray⟩ : ByteArray).size ≤ 4 := by rw [size_str]; exact bt_len _
  have hl3 : (bt i.toNat).length ≤ 4 := bt_len _
  have hl4 : (bt j.toNat).length ≤ 4 := bt_len _
  by_cases e0 : j = i
  · subst e0
    have e1 : (j - j == 0) = true := by simp
    go_enter Tryd.func63, Tryd.ntmps63
    go_wp2_with fail
    refine (byteText_any _ _ (by omega) (by omega)).mono ?_
    rintro e w1 ⟨rfl, hb⟩
    go_wp2
    go_ret
    exact ⟨ret_str (by simp [rt]), hb⟩
  · have e1 : (j - i == 0) = false := by simp; omega
    by_cases e2 : j = i + 1
    · have e3 : (j - i == 1) = true := by simp; omega
      have E2 := (show Hid _ from e2)
      clear e2
      go_enter Tryd.func63, Tryd.ntmps63
      go_wp2_with fail
      refine (byteText_any _ _ (by omega) (by omega)).mono ?_
      rintro e w1 ⟨rfl, hb⟩
      go_wp2_with fail
      refine (byteText_any _ _ (by omega) (by omega)).mono ?_
      rintro e w2 ⟨rfl, hb2⟩
      go_wp2
      go_ret
      refine ⟨ret_str ?_, hb.trans (hb2.mono hb.size)⟩
      have := E2.out
      rw [cat_str, rt, if_neg (by omega), if_pos (by omega)]
    · have e3 : (j - i == 1) = false := by simp; omega
      go_enter Tryd.func63, Tryd.ntmps63
      go_wp2_with fail
      refine (byteText_any _ _ (by omega) (by omega)).mono ?_
      rintro e w1 ⟨rfl, hb⟩
      go_wp2_with fail
      refine (byteText_any _ _ (by omega) (by omega)).mono ?_
      rintro e w2 ⟨rfl, hb2⟩
      go_wp2
      go_ret
      refine ⟨ret_str ?_, hb.trans (hb2.mono hb.size)⟩
      rw [rt, if_neg (by omega), if_neg (by omega)]
      have e5 : ({ data := #[45] } : ByteArray) = ⟨([45] : List UInt8).toArray⟩ := rfl
      rw [e5, cat_str, cat_str]
      simp
end Go.Proofs.YthmiomgjeimblaaDoor
namespace Go.Proofs.YthmiomgjeimblaaDoor
set_option linter.unusedSimpArgs false
set_option linter.unusedVariables false
set_option maxRecDepth 100000
open Go.RowKit

set_option maxHeartbeats 400000 in
theorem runEnd_any (k : C4) (i : Int) (w : World) (h0 : 0 ≤ i) (h1 : i ≤ 256) :
    Calls Tryd.prog 62 #[k.v, .int .i64 i] w fun e w' => e = .returned (.int .i64 (rEnd k.p (256 - i.toNat) i.toNat)) ∧ Below w.heap.size w w' := by
  obtain ⟨n, rfl⟩ := Int.eq_ofNat_of_zero_le h0
  rw [Int.toNat_natCast]
  go_enter Tryd.func62, Tryd.ntmps62
  go_wp2
  go_loopw [1] (fun v wr => ∃ j : Nat, j ≤ 256 ∧ v = .int .i64 j ∧ Hid (rEnd k.p (256 - j) j = rEnd k.p (256 - n) n) ∧ Below w.heap.size w wr ∧ Hb wr w.heap.size k) (fun v _ => 256 - (intOf v).toNat)
  case atStart => exact ⟨n, by omega, rfl, rfl, (Below.refl _ _).alloc (Nat.le_refl _) _, Hb.new _ k _ rfl⟩
  case round =>
    obtain ⟨j, hj, rfl, HE, hB, hK⟩ := hrel
    obtain ⟨c0, c1, c2, c3, e0, e1, e2, e3⟩ := hK.all
    by_cases hlt : j < 256
    · have i1 : (j : Int) < 256 := by omega
      by_cases hp : k.hasI j = true
      · go_wp2_with (first | (go_at_call 68; refine (has_any k _ _ (by omega) (by omega)).mono ?_; rintro e w' ⟨rfl, hb⟩))
        refine ⟨⟨j + 1, by omega, by go_num, ?_, ?_, ?_⟩, by simp [intOf]; omega⟩
        · show _ = _
          rw [← HE.out, rEnd_yes k.p j hlt hp]
        · exact hB.trans (hb.mono hB.size)
        · exact hK.below hb hK.lt
      · have hp2 : k.hasI j = false := by simpa using hp
        clear hp
        go_wp2_with (first | (go_at_call 68; refine (has_any k _ _ (by omega) (by omega)).mono ?_; rintro e w' ⟨rfl, hb⟩))
        go_ret
        exact ⟨ret_int (by rw [← HE.out, rEnd_no k.p j hlt hp2]), hB.trans (hb.mono hB.size)⟩
    · have hj2 : j = 256 := by omega
      subst hj2
      go_wp2
      go_ret
      exact ⟨ret_int (by rw [← HE.out]; rfl), hB⟩

/-- A builder is what it was, where nothing that was there has turned. -/
theorem isBuilder_below {T e : TypeId} {B b : Nat} {bs : List Value} {w w' : World} (h : Lib.IsBuilder T e B b bs w) (hb : Below w.heap.size w w') : Lib.IsBuilder T e B b bs w' := by
  have key : ∀ p, Lib.BuilderAt T e B b p bs w → Lib.BuilderAt T e B b p bs w' := by
    intro p h
    have hlt := h.lt
    obtain ⟨hB, v, hbk, hown, hne⟩ := h
    refine ⟨hB, v, (hb.block b hlt).trans hbk, ?_, hne⟩
    refine hown.kept (row := none) ⟨hb.os, hb.tape, hb.output, hb.size, fun k hk _ => hb.block k hk⟩ ?_
    cases hv : v.ownBlock with
    | none => exact Or.inl rfl
    | some x => exact Or.inr (by simp)
  rcases h with h | h
  · exact Or.inl (key _ h)
  · exact Or.inr (key _ h)
theorem runEnd_ex (k : C4) (i : Nat) (w : World) (h : i ≤ 256) :
    Calls Tryd.prog 62 #[k.v, .int .i64 i] w fun e w' => ∃ en : Nat, e = .returned (.int .i64 en) ∧ Hid (rEnd k.p (256 - i) i = en) ∧ i ≤ en ∧ en ≤ 256 ∧ Below w.heap.size w w' := by
  refine (runEnd_any k i w (by omega) (by omega)).mono ?_
  rintro e w' ⟨rfl, hb⟩
  have hle := rEnd_le k.p (256 - i) i
  exact ⟨rEnd k.p (256 - i) i, rfl, Eq.refl _, by omega, by omega, hb⟩
theorem runText_n (i en : Nat) (w : World) (h : i < en) (h2 : en ≤ 256) :
    Calls Tryd.prog 63 #[.int .i64 i, .int .i64 ((en : Int) - 1)] w fun e w' => e = .returned (.string ⟨(rt i (en - 1)).toArray⟩) ∧ Below w.heap.size w w' := by
  refine (runText_any i ((en : Int) - 1) w (by omega) (by omega) (by omega)).mono ?_
  rintro e w' ⟨rfl, hb⟩
  have ht : ((en : Int) - 1).toNat = en - 1 := by omega
  rw [ht]
  exact ⟨rfl, hb⟩
theorem writeString_l (B b : Nat) (acc l : List UInt8) (w : World) (h : Lib.IsBuilder 52 5 B b (Lib.byteCells acc) w) (hlen : acc.length + l.length ≤ 140737488355328) (hBw : B ≤ w.heap.size) :
    Calls Tryd.prog 19 #[.pointer (some ⟨b, 0, none⟩), .string ⟨l.toArray⟩] w fun e w' => (∃ v, e = .returned v) ∧ Lib.IsBuilder 52 5 B b (Lib.byteCells (acc ++ l)) w' ∧ Below B w w' := by
  refine (writeString_any B b _ ⟨l.toArray⟩ w h (by rw [Lib.byteCells_length, size_str]; exact hlen) hBw).mono ?_
  rintro e w' ⟨rfl, h1, hb⟩
  refine ⟨⟨_, rfl⟩, Or.inr ?_, hb⟩
  rw [Lib.byteCells_append]
  exact h1
theorem runsL_step (p : Nat → Bool) (f i en : Nat) (acc R : List UInt8) (hi : i < 256) (hE : rEnd p (256 - i) i = en) (h : acc ++ runsL p (f + 1) i = R) :
    (if i < en then acc ++ rt i (en - 1) else acc) ++ runsL p f (en + 1) = R := by
  rw [runsL, if_pos hi, hE] at h
  rw [← h]
  split <;> simp
theorem runsL_end (p : Nat → Bool) (f i : Nat) (acc R : List UInt8) (hi : ¬ i < 256) (h : acc ++ runsL p f i = R) : acc = R := by
  rw [← h]
  cases f <;> simp [runsL, hi]

set_option maxHeartbeats 1000000 in
theorem runs_any (k : C4) (w : World) :
    Calls Tryd.prog 50 #[k.v] w fun e w' => e = .returned (.string ⟨(runsL k.p 256 0).toArray⟩) ∧ Below w.heap.size w w' := by
  go_enter Tryd.func50, Tryd.ntmps50
  go_wp2
  go_loopw [4, 5] (fun v _ wr => ∃ (i f : Nat) (acc : List UInt8), i ≤ 257 ∧ 256 ≤ f + i ∧ v = .int .i64 i ∧ acc.length ≤ 9 * i ∧ Hid (acc ++ runsL k.p f i = runsL k.p 256 0) ∧ Below w.heap.size w wr ∧ Hb wr w.heap.size k ∧ Lib.IsBuilder 52 5 (w.heap.size + 1) (w.heap.size + 1) (Lib.byteCells acc) wr) (fun v _ _ => 257 - (intOf v).toNat)
  case atStart =>
    refine ⟨0, 256, [], by omega, by omega, rfl, by simp, List.nil_append _, ?_, ?_, ?_⟩
    · exact ((Below.refl _ _).alloc (Nat.le_refl _) _).alloc (by simp) _
    · exact (Hb.new _ k _ rfl).alloc _
    · have := Lib.fresh_isBuilder 52 5 (w.alloc (.cells k.cells 33))
      simp only [World.size_alloc] at this
      exact this
  case round =>
    obtain ⟨i, f, acc, hi, hf, rfl, hl, HE, hB, hK, hS⟩ := hrel
    obtain ⟨c0, c1, c2, c3, e0, e1, e2, e3⟩ := hK.all
    have hz := hK.lt
    by_cases hlt : i < 256
    · have i1 : (i : Int) < 256 := by omega
      obtain ⟨f, rfl⟩ : ∃ g, f = g + 1 := ⟨f - 1, by omega⟩
      go_wp2_with fail
      refine (runEnd_ex k i _ (by omega)).mono ?_
      rintro e w1 ⟨en, rfl, HG, hle, hen, hb⟩
      have hS1 := isBuilder_below hS hb
      have hK1 := hK.below hb hz
      have hB1 := hB.trans (hb.mono hB.size)
      have HR : Hid _ := runsL_step k.p f i en acc _ hlt HG.out HE.out
      by_cases hgt : i < en
      · have g1 : (i : Int) < (en : Int) := by omega
        go_wp2_with fail
        refine (runText_n i en _ (by omega) (by omega)).mono ?_
        rintro e w2 ⟨rfl, hb2⟩
        have hS2 := isBuilder_below hS1 hb2
        have hK2 := hK1.below hb2 hK1.lt
        have hB2 := hB1.trans (hb2.mono hB1.size)
        have hlr := rt_len i (en - 1)
        go_wp2_with fail
        refine (writeString_l (w.heap.size + 1) (w.heap.size + 1) acc (rt i (en - 1)) _ hS2 (by omega) (by have := hK2.lt; omega)).mono ?_
        rintro e w3 ⟨⟨v3, rfl⟩, hS3, hb3⟩
        go_wp2
        refine ⟨⟨en + 1, f, acc ++ rt i (en - 1), by omega, by omega, by go_num, by simp; omega, ?_, ?_, ?_, ?_⟩, by simp [intOf]; omega⟩
        · have := HR.out
          rw [if_pos hgt] at this
          exact this
        · exact hB2.trans (hb3.mono (by omega))
        · exact hK2.below hb3 (by omega)
        · exact hS3
      · have g1 : ¬ (i : Int) < (en : Int) := by omega
        go_wp2
        refine ⟨⟨en + 1, f, acc, by omega, by omega, by go_num, by omega, ?_, ?_, ?_, ?_⟩, by simp [intOf]; omega⟩
        · have := HR.out
          rw [if_neg hgt] at this
          exact this
        · exact hB1
        · exact hK1
        · exact hS1
    · have i1 : ¬ (i : Int) < 256 := by omega
      have HA : Hid _ := runsL_end k.p f i acc _ hlt HE.out
      go_wp2_with fail
      refine (string_any (w.heap.size + 1) (w.heap.size + 1) acc _ hS (by omega)).mono ?_
      rintro e w1 ⟨rfl, hb⟩
      go_wp2
      go_ret
      exact ⟨by rw [HA.out]; rfl, hB.trans (hb.mono (by omega))⟩
end Go.Proofs.YthmiomgjeimblaaDoor
namespace Go.Proofs.YthmiomgjeimblaaDoor
set_option linter.unusedSimpArgs false
set_option linter.unusedVariables false
set_option maxRecDepth 100000
open Go.RowKit

theorem runs256_any (k : C4) (w : World) :
    Calls Tryd.prog 50 #[k.v] w fun e w' => e = .returned (.string ⟨(runs256 k).toArray⟩) ∧ Below w.heap.size w w' := runs_any k w

set_option maxHeartbeats 1000000 in
theorem text_dot (k : C4) (w : World) (hd : k.eqb (C4.ofL [10]).not = true) :
    Calls Tryd.prog 33 #[k.v] w fun e w' => e = .returned (.string ⟨(textL k).toArray⟩) ∧ Below w.heap.size w w' := by
  have HT : Hid _ := textL_dot k hd
  have he := eq4
  have hten : (⟨#[10]⟩ : ByteArray).size ≤ maxLen := by unfold maxLen; decide
  have hrl := runs256_len k
  have hrs : (⟨(runs256 k).toArray⟩ : ByteArray).size ≤ 2304 := by rw [size_str]; exact hrl
  go_enter Tryd.func33, Tryd.ntmps33
  go_wp2_with fail
  have hn := Hb.new w k _ rfl
  have k0 := cell_regrown hn.c0
  have k1 := cell_regrown hn.c1
  have k2 := cell_regrown hn.c2
  have k3 := cell_regrown hn.c3
  refine wp_region_quiet_below (by kernel_rfl) (by kernel_rfl) ?_
  repeat (quiet_step (first
    | (go_at_call 48; exact Calls.regrown_of (of_any _ _ hten))
    | (go_at_call 47; exact Calls.regrown_of (not_any _ _))))
  refine wpQuiet_nil ?_
  intro _ hw'
  obtain ⟨⟨dq, osq⟩, hw''⟩ := hw'
  have hb1 := below_regrown (w.alloc (.cells k.cells 33)) dq osq
  have hw1 : Below w.heap.size w _ := ((Below.refl w.heap.size w).alloc (Nat.le_refl _) (.cells k.cells 33)).trans (hb1.mono (by simp))
  have hK := hn.below hb1 hn.lt
  subst hw''
  clear k0 k1 k2 k3
  generalize hgw : Go.Sort.grow (redrawn (w.alloc (.cells k.cells 33)) dq) osq = w1 at *
  clear hgw
  obtain ⟨c0, c1, c2, c3, e0, e1, e2, e3⟩ := hK.all
  go_wp2
  go_ret
  exact ⟨ret_str (by rw [HT.out]), hw1⟩
set_option maxHeartbeats 1000000 in
theorem text_one (k : C4) (w : World) (hd : k.eqb (C4.ofL [10]).not = false) (hm : (k.many 4 == 1) = true) :
    Calls Tryd.prog 33 #[k.v] w fun e w' => e = .returned (.string ⟨(textL k).toArray⟩) ∧ Below w.heap.size w w' := by
  have HT : Hid _ := textL_one k hd hm
  have he := eq4
  have hten : (⟨#[10]⟩ : ByteArray).size ≤ maxLen := by unfold maxLen; decide
  have hrl := runs256_len k
  have hrs : (⟨(runs256 k).toArray⟩ : ByteArray).size ≤ 2304 := by rw [size_str]; exact hrl
  go_enter Tryd.func33, Tryd.ntmps33
  go_wp2_with fail
  have hn := Hb.new w k _ rfl
  have k0 := cell_regrown hn.c0
  have k1 := cell_regrown hn.c1
  have k2 := cell_regrown hn.c2
  have k3 := cell_regrown hn.c3
  refine wp_region_quiet_below (by kernel_rfl) (by kernel_rfl) ?_
  repeat (quiet_step (first
    | (go_at_call 48; exact Calls.regrown_of (of_any _ _ hten))
    | (go_at_call 47; exact Calls.regrown_of (not_any _ _))))
  refine wpQuiet_nil ?_
  intro _ hw'
  obtain ⟨⟨dq, osq⟩, hw''⟩ := hw'
  have hb1 := below_regrown (w.alloc (.cells k.cells 33)) dq osq
  have hw1 : Below w.heap.size w _ := ((Below.refl w.heap.size w).alloc (Nat.le_refl _) (.cells k.cells 33)).trans (hb1.mono (by simp))
  have hK := hn.below hb1 hn.lt
  subst hw''
  clear k0 k1 k2 k3
  generalize hgw : Go.Sort.grow (redrawn (w.alloc (.cells k.cells 33)) dq) osq = w1 at *
  clear hgw
  obtain ⟨c0, c1, c2, c3, e0, e1, e2, e3⟩ := hK.all
  go_wp2_with fail
  refine (many_any k _).mono ?_
  rintro e w2 ⟨rfl, hb2⟩
  have hK2 := hK.below hb2 hK.lt
  obtain ⟨d0, d1, d2, d3, f0, f1, f2, f3⟩ := hK2.all
  go_wp2_with fail
  refine (runs256_any k _).mono ?_
  rintro e w3 ⟨rfl, hb3⟩
  go_wp2
  go_ret
  have h2 := hw1.trans (hb2.mono hw1.size)
  refine ⟨ret_str ?_, h2.trans (hb3.mono h2.size)⟩
  rw [HT.out]
set_option maxHeartbeats 1000000 in
theorem text_more (k : C4) (w : World) (hd : k.eqb (C4.ofL [10]).not = false) (hm : (k.many 4 == 1) = false) :
    Calls Tryd.prog 33 #[k.v] w fun e w' => e = .returned (.string ⟨(textL k).toArray⟩) ∧ Below w.heap.size w w' := by
  have HT : Hid _ := textL_more k hd hm
  have he := eq4
  have hten : (⟨#[10]⟩ : ByteArray).size ≤ maxLen := by unfold maxLen; decide
  have hrl := runs256_len k
  have hrs : (⟨(runs256 k).toArray⟩ : ByteArray).size ≤ 2304 := by rw [size_str]; exact hrl
  go_enter Tryd.func33, Tryd.ntmps33
  go_wp2_with fail
  have hn := Hb.new w k _ rfl
  have k0 := cell_regrown hn.c0
  have k1 := cell_regrown hn.c1
  have k2 := cell_regrown hn.c2
  have k3 := cell_regrown hn.c3
  refine wp_region_quiet_below (by kernel_rfl) (by kernel_rfl) ?_
  repeat (quiet_step (first
    | (go_at_call 48; exact Calls.regrown_of (of_any _ _ hten))
    | (go_at_call 47; exact Calls.regrown_of (not_any _ _))))
  refine wpQuiet_nil ?_
  intro _ hw'
  obtain ⟨⟨dq, osq⟩, hw''⟩ := hw'
  have hb1 := below_regrown (w.alloc (.cells k.cells 33)) dq osq
  have hw1 : Below w.heap.size w _ := ((Below.refl w.heap.size w).alloc (Nat.le_refl _) (.cells k.cells 33)).trans (hb1.mono (by simp))
  have hK := hn.below hb1 hn.lt
  subst hw''
  clear k0 k1 k2 k3
  generalize hgw : Go.Sort.grow (redrawn (w.alloc (.cells k.cells 33)) dq) osq = w1 at *
  clear hgw
  obtain ⟨c0, c1, c2, c3, e0, e1, e2, e3⟩ := hK.all
  go_wp2_with fail
  refine (many_any k _).mono ?_
  rintro e w2 ⟨rfl, hb2⟩
  have hK2 := hK.below hb2 hK.lt
  obtain ⟨d0, d1, d2, d3, f0, f1, f2, f3⟩ := hK2.all
  go_wp2_with fail
  refine (runs256_any k _).mono ?_
  rintro e w3 ⟨rfl, hb3⟩
  go_wp2
  go_ret
  have h2 := hw1.trans (hb2.mono hw1.size)
  refine ⟨ret_str ?_, h2.trans (hb3.mono h2.size)⟩
  have q1 : ({ data := #[91] } : ByteArray) = ⟨([91] : List UInt8).toArray⟩ := rfl
  have q2 : ({ data := #[93] } : ByteArray) = ⟨([93] : List UInt8).toArray⟩ := rfl
  rw [HT.out, q1, q2, cat_str, cat_str]
  simp
theorem text_any (k : C4) (w : World) :
    Calls Tryd.prog 33 #[k.v] w fun e w' => e = .returned (.string ⟨(textL k).toArray⟩) ∧ Below w.heap.size w w' := by
  cases hd : k.eqb dotC
  · cases hm : (k.many 4 == 1)
    · exact text_more k w hd hm
    · exact text_one k w hd hm
  · exact text_dot k w hd
end Go.Proofs.YthmiomgjeimblaaDoor
namespace Go.Proofs.YthmiomgjeimblaaDoor
set_option linter.unusedSimpArgs false
set_option linter.unusedVariables false
set_option maxRecDepth 100000
open Go.RowKit
theorem lnL_len (s : St) (hx : s.x ≤ 200) (hy : s.y ≤ 200) : (lnL s).length ≤ 2600 := by
  have h1 := textL_len s.c
  have h2 := decT_200 s.x hx
  have h3 := decT_200 s.y hy
  unfold lnL
  repeat' split
  all_goals simp
  all_goals omega
set_option maxHeartbeats 4000000 in
theorem line_any (s : St) (h1 : 1 ≤ s.op) (h5 : s.op ≤ 5) (hx0 : 0 ≤ s.x) (hx : s.x ≤ 200) (hy0 : 0 ≤ s.y) (hy : s.y ≤ 200) (w : World) (hT : Pow w) :
    Calls Tryd.prog 20 #[s.v] w fun e w' => e = .returned (.string ⟨(lnL s).toArray⟩) ∧ Below w.heap.size w w' := by
  obtain ⟨op, c, x, y⟩ := s
  obtain ⟨X, rfl⟩ : ∃ X : Nat, x = (X : Int) := ⟨x.toNat, by simp only at hx0; omega⟩
  obtain ⟨Y, rfl⟩ : ∃ Y : Nat, y = (Y : Int) := ⟨y.toNat, by simp only at hy0; omega⟩
  simp only at h1 h5 hx0 hx hy0 hy
  have htl := textL_len c
  have hdx := decT_200 (X : Int) hx
  have hdy := decT_200 (Y : Int) hy
  simp only [Int.toNat_natCast] at hdx hdy
  have HX : Hid (∀ o, Calls Tryd.prog 32 #[.int .i64 (X : Int)] (w.alloc o) fun e w' => e = .returned (.string ⟨(decT X).toArray⟩) ∧ Below (w.alloc o).heap.size (w.alloc o) w') := fun o =>
    itoa_any X (by omega) _ (hT.below ((Below.refl _ _).alloc (Nat.le_refl _) _))
  have HY : Hid (∀ w', Below w.heap.size w w' → Calls Tryd.prog 32 #[.int .i64 (Y : Int)] w' fun e w'' => e = .returned (.string ⟨(decT Y).toArray⟩) ∧ Below w'.heap.size w' w'') := fun w' hb =>
    itoa_any Y (by omega) _ (hT.below hb)
  have HB : Hid (∀ o w1, Below (w.alloc o).heap.size (w.alloc o) w1 → Below w.heap.size w w1) := fun o w1 h => ((Below.refl _ _).alloc (Nat.le_refl _) _).trans (h.mono (by simp))
  obtain ⟨o, HO⟩ : ∃ o : Obj, Hid (o = .cells #[.int .i64 op, .int .u64 c.a, .int .u64 c.b, .int .u64 c.c, .int .u64 c.d, .int .i64 X, .int .i64 Y] 35) := ⟨_, Eq.refl _⟩
  have HCL : Hid (∀ w1, Below (w.alloc o).heap.size (w.alloc o) w1 → w1.cell? ⟨w.heap.size, 0, none⟩ = some (.int .i64 op) ∧ w1.cell? ⟨w.heap.size, 1, none⟩ = some (.int .u64 c.a) ∧ w1.cell? ⟨w.heap.size, 2, none⟩ = some (.int .u64 c.b) ∧ w1.cell? ⟨w.heap.size, 3, none⟩ = some (.int .u64 c.c) ∧ w1.cell? ⟨w.heap.size, 4, none⟩ = some (.int .u64 c.d) ∧ w1.cell? ⟨w.heap.size, 5, none⟩ = some (.int .i64 X) ∧ w1.cell? ⟨w.heap.size, 6, none⟩ = some (.int .i64 Y)) := by
    intro w1 h
    refine ⟨?_, ?_, ?_, ?_, ?_, ?_, ?_⟩ <;> (refine (h.cell (p := ⟨w.heap.size, _, none⟩) (by simp)).trans ?_; rw [HO.out]; simp)
  clear hT
  have hop : op = 1 ∨ op = 2 ∨ op = 3 ∨ op = 4 ∨ op = 5 := by omega
  go_enter Tryd.func20, Tryd.ntmps20
  go_wp2_with fail
  rw [← HO.out]
  refine Calls.mono (HX.out o) ?_
  rintro e w1 ⟨rfl, hb1⟩
  obtain ⟨c0, c1, c2, c3, c4, c5, c6⟩ := HCL.out w1 hb1
  have HB1 := hid (HB.out o w1 hb1)
  clear hb1 HX HCL HO HB
  rcases hop with hop | hop | hop | hop | hop
  · subst hop
    have HT := hid (text_any c w1)
    go_wp2_with fail
    refine Calls.mono HT.out ?_
    rintro e w2 ⟨rfl, hb2⟩
    have HB2 := hid (HB1.out.trans (hb2.mono HB1.out.size))
    have l1 : (⟨(textL c).toArray⟩ : ByteArray).size ≤ 2306 := by rw [size_str]; exact htl
    have l2 : (⟨(decT X).toArray⟩ : ByteArray).size ≤ 201 := by rw [size_str]; exact hdx
    have HF : Hid ((⟨#[116, 97, 107, 101, 32]⟩ : ByteArray) ++ ⟨(textL c).toArray⟩ ++ ⟨#[32]⟩ ++ ⟨(decT X).toArray⟩ = ⟨(lnL ⟨1, c, (X : Int), (Y : Int)⟩).toArray⟩) := by
      show (⟨[116, 97, 107, 101, 32].toArray⟩ : ByteArray) ++ ⟨(textL c).toArray⟩ ++ ⟨[32].toArray⟩ ++ ⟨(decT X).toArray⟩ = _
      rw [cat_str, cat_str, cat_str]
      simp [lnL]
    clear hb2 HT c0 c1 c2 c3 c4 c5 c6
    go_wp2
    go_ret
    exact ⟨ret_str HF.out, HB2.out⟩
  · subst hop
    have HT := hid (HY.out w1 HB1.out)
    have l2 : (⟨(decT X).toArray⟩ : ByteArray).size ≤ 201 := by rw [size_str]; exact hdx
    have l3 : (⟨(decT Y).toArray⟩ : ByteArray).size ≤ 201 := by rw [size_str]; exact hdy
    have HF : Hid ((⟨#[102, 111, 114, 107, 32]⟩ : ByteArray) ++ ⟨(decT X).toArray⟩ ++ ⟨#[32]⟩ ++ ⟨(decT Y).toArray⟩ = ⟨(lnL ⟨2, c, (X : Int), (Y : Int)⟩).toArray⟩) := by
      show (⟨[102, 111, 114, 107, 32].toArray⟩ : ByteArray) ++ ⟨(decT X).toArray⟩ ++ ⟨[32].toArray⟩ ++ ⟨(decT Y).toArray⟩ = _
      rw [cat_str, cat_str, cat_str]
      simp [lnL]
    go_wp2_with fail
    refine Calls.mono HT.out ?_
    rintro e w2 ⟨rfl, hb2⟩
    have HB2 := hid (HB1.out.trans (hb2.mono HB1.out.size))
    clear hb2 HT c0 c1 c2 c3 c4 c5 c6
    go_wp2
    go_ret
    exact ⟨ret_str HF.out, HB2.out⟩
  · subst hop
    have l2 : (⟨(decT X).toArray⟩ : ByteArray).size ≤ 201 := by rw [size_str]; exact hdx
    have HF : Hid ((⟨#[102, 105, 114, 115, 116, 32]⟩ : ByteArray) ++ ⟨(decT X).toArray⟩ = ⟨(lnL ⟨3, c, (X : Int), (Y : Int)⟩).toArray⟩) := by
      show (⟨[102, 105, 114, 115, 116, 32].toArray⟩ : ByteArray) ++ ⟨(decT X).toArray⟩ = _
      rw [cat_str]
      simp [lnL]
    go_wp2
    go_ret
    exact ⟨ret_str HF.out, HB1.out⟩
  · subst hop
    have l2 : (⟨(decT X).toArray⟩ : ByteArray).size ≤ 201 := by rw [size_str]; exact hdx
    have HF : Hid ((⟨#[108, 97, 115, 116, 32]⟩ : ByteArray) ++ ⟨(decT X).toArray⟩ = ⟨(lnL ⟨4, c, (X : Int), (Y : Int)⟩).toArray⟩) := by
      show (⟨[108, 97, 115, 116, 32].toArray⟩ : ByteArray) ++ ⟨(decT X).toArray⟩ = _
      rw [cat_str]
      simp [lnL]
    go_wp2
    go_ret
    exact ⟨ret_str HF.out, HB1.out⟩
  · subst hop
    have HF : Hid ((⟨#[100, 111, 110, 101]⟩ : ByteArray) = ⟨(lnL ⟨5, c, (X : Int), (Y : Int)⟩).toArray⟩) := by
      show _ = _
      simp [lnL]
    go_wp2
    go_ret
    exact ⟨ret_str HF.out, HB1.out⟩
end Go.Proofs.YthmiomgjeimblaaDoor
namespace Go.Proofs.YthmiomgjeimblaaDoor
set_option linter.unusedSimpArgs false
set_option linter.unusedVariables false
set_option maxRecDepth 100000
open Go.Shelf Go.RowKit
set_option maxHeartbeats 1000000 in
theorem writeByte_any (B b : Nat) (bs : List Value) (c : UInt8) (w : World) (h : Lib.IsBuilder 52 5 B b bs w) (hlen : bs.length + 1 ≤ 140737488355328) (hBw : B ≤ w.heap.size) :
    Calls Tryd.prog 21 #[.pointer (some ⟨b, 0, none⟩), .int .u8 (c.toNat : Int)] w fun e w' => e = .returned .nilIface ∧ (Lib.BuilderAt 52 5 B b (.pointer (some ⟨b, 0, none⟩)) (bs ++ Lib.byteCells [c]) w' ∧ Below B w w') := by
  obtain ⟨i0, hi, hz0, hz1, hz2⟩ := info_parts strExtra.infoByte
  go_enter Tryd.func21, Tryd.ntmps21
  go_wp2_with (go_at_call 31; refine (copyCheck_any B b bs _ h).mono ?_)
  rintro e w1 ⟨rfl, h1, hb1⟩
  obtain ⟨hB, v, hbk, hown, hne⟩ := h1
  have c0 : w1.cell? ⟨b, 0, none⟩ = some (.pointer (some ⟨b, 0, none⟩)) := by rw [Lib.cell_of_heap hbk]; rfl
  have c1 : w1.cell? ⟨b, 1, none⟩ = some v := by rw [Lib.cell_of_heap hbk]; rfl
  have hlt : b < w1.heap.size := by
    rcases Nat.lt_or_ge b w1.heap.size with h' | h'
    · exact h'
    · simp [Array.getElem?_eq_none h'] at hbk
  have hownA : (w1.alloc (.cells #[.int .u8 (c.toNat : Int)] 5)).ownsRow B 5 1 v bs.length bs := by
    have hb : Below w1.heap.size w1 (w1.alloc (.cells #[.int .u8 (c.toNat : Int)] 5)) := (Below.refl _ _).alloc (Nat.le_refl _) _
    refine World.ownsRow.kept (row := none) hown ⟨hb.os, hb.tape, hb.output, hb.size, fun k hk _ => hb.block k hk⟩ ?_
    cases hv : v.ownBlock with
    | none => exact Or.inl rfl
    | some x => exact Or.inr (by simp)
  have HNW : Hid (∀ j u, (Lib.byteCells [c])[j]? = some u → (w1.alloc (.cells #[.int .u8 (c.toNat : Int)] 5)).cell? ((⟨w1.heap.size, 0, none⟩ : Addr).add j) = some u) := by
    intro j u hj
    rw [Addr.add_lit, Nat.zero_add, World.cell?_alloc_at (w := w1) _ _ w1.heap.size j rfl]
    simpa [Lib.byteCells] using hj
  have HOA := hid hownA
  clear hownA
  go_wp2_with (at_builtin; refine wpList_append_lies _ rfl _ _ 50 rfl B 5 i0 _ 1 1 Tryd.underlying50 hi hz0 hz1 hz2 rfl (by decide) v bs.length bs rfl HOA.out ⟨w1.heap.size, 0, none⟩ 1 1 (Lib.byteCells [c]) rfl rfl HNW.out (by simp [Lib.byteCells, Value.oneCell']) (by omega) (by unfold maxLen; omega) (by omega) (by have := hb1.size; simp; omega) _ rfl ?_)
  intro g3 cap3 w2 hown' hgrow hor hl3
  have hb2 : w2.heap[b]? = some (.cells #[.pointer (some ⟨b, 0, none⟩), v] 52 (0, 0)) := by
    rw [hgrow.block b (by simp; omega) (fun e => hne e.symm)]
    exact (Below.heap_alloc w1 _ b hlt).trans hbk
  have d0 : w2.cell? ⟨b, 0, none⟩ = some (.pointer (some ⟨b, 0, none⟩)) := by rw [Lib.cell_of_heap hb2]; rfl
  have d1 : w2.cell? ⟨b, 1, none⟩ = some v := by rw [Lib.cell_of_heap hb2]; rfl
  have f1 : w2.frozen? ⟨b, 1, none⟩ = false := Lib.frozen_of_heap hb2 1
  go_wp2
  go_ret
  refine ⟨rfl, ?_, ?_⟩
  · exact Lib.BuilderAt.put (T := 52) (e := 5) hB hb2 (bs' := bs ++ Lib.byteCells [c]) (by simpa [Lib.byteCells_length] using hown') strExtra.neB5
  · exact ((hb1.alloc (by have := hb1.size; omega) _).grown hgrow (by have := hb1.size; simp; omega) (fun k hk => (hown.lt k hk).1)).setCell (p := ⟨b, 1, none⟩) hB _
theorem writeByte_l (B b : Nat) (acc : List UInt8) (c : UInt8) (w : World) (h : Lib.IsBuilder 52 5 B b (Lib.byteCells acc) w) (hlen : acc.length + 1 ≤ 140737488355328) (hBw : B ≤ w.heap.size) :
    Calls Tryd.prog 21 #[.pointer (some ⟨b, 0, none⟩), .int .u8 (c.toNat : Int)] w fun e w' => e = .returned .nilIface ∧ Lib.IsBuilder 52 5 B b (Lib.byteCells (acc ++ [c])) w' ∧ Below B w w' := by
  refine (writeByte_any B b _ c w h (by rw [Lib.byteCells_length]; exact hlen) hBw).mono ?_
  rintro e w' ⟨rfl, h1, hb⟩
  refine ⟨rfl, Or.inr ?_, hb⟩
  rw [Lib.byteCells_append]
  exact h1
end Go.Proofs.YthmiomgjeimblaaDoor
