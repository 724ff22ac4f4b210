/- The landed reader: digit. The text of a class of one byte; how a byte is held against its text. No function of the program. -/
import Derived.Test.YtmdfdlljeggbbaaDoorY11
import Derived.Test.YtmdfdlljeggbbaaDoorY08
import Derived.Test.YtmdfdlljeggbbaaDoorY04
namespace Go.Proofs.YtmdfdlljeggbbaaDoor
set_option linter.unusedSimpArgs false
set_option linter.unusedVariables false
set_option maxRecDepth 100000
open Go.RowKit
def hexS : ByteArray := ⟨#[48, 49, 50, 51, 52, 53, 54, 55, 56, 57, 97, 98, 99, 100, 101, 102]⟩
def hxI (c : UInt8) : Int := match hx c with | some k => (k : Int) | none => -1
theorem hxI_idx_n : ∀ n : Nat, n < 256 → Lib.indexByte hexS.data.toList n.toUInt8 = hxI n.toUInt8 := by decide
theorem hxI_idx (c : UInt8) : Lib.indexByte hexS.data.toList (c.toNat : Int).toNat.toUInt8 = hxI c := by
  have h := hxI_idx_n c.toNat c.toNat_lt
  simpa using h
set_option maxHeartbeats 1000000 in
theorem digit_end (g : Nat) (s : ByteArray) (a : Nat) (v : Value) (f : Int) (w : World) (h : PA w g s a v []) :
    Calls Tryd.prog 97 #[.pointer (some ⟨g, 0, none⟩), .int .i64 f] w fun e w' => e = .panicked (mis s.size) ∧ Stk w' g ∧ w.grownBy w' (some g) := by
  have HM := hid (take_none g s a v w h)
  clear h
  go_enter Tryd.func97, Tryd.ntmps97
  go_wp2_with fail
  refine Calls.mono HM.out ?_
  rintro e w1 ⟨rfl, hs, hg⟩
  exact ⟨rfl, rfl, hs, hg⟩
set_option maxHeartbeats 1000000 in
theorem digit_ok (g : Nat) (s : ByteArray) (a : Nat) (v : Value) (c : UInt8) (r : List UInt8) (f : Int) (k : Nat) (hk : hx c = some k) (w : World) (h : PA w g s a v (c :: r)) :
    Calls Tryd.prog 97 #[.pointer (some ⟨g, 0, none⟩), .int .i64 f] w fun e w' => e = .returned (.int .u8 (k : Int)) ∧ PA w' g s (a + 1) v r ∧ w.grownBy w' (some g) := by
  have HM := hid (take_some g s a v c r w h)
  have hI : Hid (Lib.indexByte hexS.data.toList (c.toNat : Int).toNat.toUInt8 = (k : Int)) := by
    show _ = _
    rw [hxI_idx, hxI, hk]
  have hlt := hx_lt _ _ hk
  clear h hk
  go_enter Tryd.func97, Tryd.ntmps97
  go_wp2_with fail
  refine Calls.mono HM.out ?_
  rintro e w1 ⟨rfl, hp, hg⟩
  go_wp2_with fail
  refine Calls.mono (indexByte_any hexS _ _) ?_
  rintro e w2 ⟨rfl, rfl⟩
  rw [hI.out]
  have hn : ¬ (k : Int) < 0 := by omega
  have hw : IntKind.u8.wrap (k : Int) = (k : Int) := by rw [IntKind.wrap_u8]; omega
  go_wp2
  go_ret
  exact ⟨rfl, hp, hg⟩
set_option maxHeartbeats 1000000 in
theorem digit_bad (g : Nat) (s : ByteArray) (a : Nat) (v : Value) (c : UInt8) (r : List UInt8) (f : Int) (hk : hx c = none) (w : World) (h : PA w g s a v (c :: r)) :
    Calls Tryd.prog 97 #[.pointer (some ⟨g, 0, none⟩), .int .i64 f] w fun e w' => e = .panicked (mis f) ∧ Stk w' g ∧ w.grownBy w' (some g) := by
  have HM := hid (take_some g s a v c r w h)
  have hI : Hid (Lib.indexByte hexS.data.toList (c.toNat : Int).toNat.toUInt8 = -1) := by
    show _ = _
    rw [hxI_idx, hxI, hk]
  clear h hk
  go_enter Tryd.func97, Tryd.ntmps97
  go_wp2_with fail
  refine Calls.mono HM.out ?_
  rintro e w1 ⟨rfl, hp, hg⟩
  go_wp2_with fail
  refine Calls.mono (indexByte_any hexS _ _) ?_
  rintro e w2 ⟨rfl, rfl⟩
  rw [hI.out]
  go_wp2_with fail
  refine Calls.mono (misfitAt_any g s _ v false f _ hp.rd) ?_
  rintro e w2 ⟨rfl, hs, hg2⟩
  go_wp2
  exact ⟨rfl, rfl, hs, grown_trans hg hg2⟩
end Go.Proofs.YtmdfdlljeggbbaaDoor
namespace Go.Proofs.YtmdfdlljeggbbaaDoor
set_option linter.unusedSimpArgs false
set_option linter.unusedVariables false
set_option maxRecDepth 100000
open Go.RowKit
theorem cnt_at (i : Nat) : ∀ n, cnt (fun j => decide (j = i)) n = if i < n then 1 else 0
  | 0 => by simp [cnt]
  | n + 1 => by
    rw [cnt, cnt_at i n]
    by_cases h : n = i
    · subst h; simp
    · have : i < n + 1 ↔ i < n := by omega
      simp [h, this]
theorem single_has (i j : Nat) (hi : i < 256) (hj : j < 256) : (z4.add (i : Int)).has j = decide (j = i) := by
  rw [C4.has_add z4_ok i j hi hj, z4_has, Bool.false_or]
  exact decide_eq_decide.2 eq_comm
theorem text_single (c : UInt8) : textL (C4.ofL [c]) = bt c.toNat := by
  have hc : c.toNat < 256 := c.toNat_lt
  have e : C4.ofL [c] = z4.add (c.toNat : Int) := rfl
  rw [e]
  have hk : (z4.add (c.toNat : Int)).ok := C4.add_ok z4_ok _
  have hm : ((z4.add (c.toNat : Int)).many 4 == 1) = true := by
    rw [many_cnt hk, cnt_congr _ (fun j => decide (j = c.toNat)) 256 (fun j hj => single_has _ _ hc hj), cnt_at, if_pos hc]
    rfl
  have hd : (z4.add (c.toNat : Int)).eqb dotC = false := by
    cases h : (z4.add (c.toNat : Int)).eqb dotC
    · rfl
    · have h2 := (C4.eqb_iff _ _).1 h
      have h0 := single_has c.toNat 0 hc (by omega)
      have h1 := single_has c.toNat 1 hc (by omega)
      rw [h2] at h0 h1
      have d0 : dotC.has 0 = true := by decide
      have d1 : dotC.has 1 = true := by decide
      rw [d0] at h0
      rw [d1] at h1
      have a0 := of_decide_eq_true h0.symm
      have a1 := of_decide_eq_true h1.symm
      omega
  rw [textL_one _ hd hm]
  obtain ⟨b, hb, hr, hu⟩ := single_class hk hm
  rw [hr]
  have h1 := single_has c.toNat c.toNat hc hc
  rw [hu, single_has b c.toNat hb hc] at h1
  have : c.toNat = b := by simpa using h1
  rw [this]
/-- A byte is written as itself. -/
theorem bt_bare (c : UInt8) : (bt c.toNat = [c]) ↔ ¬ (c.toNat < 32 ∨ 126 < c.toNat ∨ c ∈ signL) := by
  have e : c.toNat.toUInt8 = c := by simp
  unfold bt
  rw [e]
  by_cases h : c.toNat < 32 ∨ 126 < c.toNat
  · rw [if_pos h]
    constructor
    · intro h2; simp at h2
    · intro h2; omega
  · rw [if_neg h]
    by_cases h2 : c ∈ signL
    · rw [if_pos h2]; simp [h2]
    · rw [if_neg h2]; simp only [true_iff]; rintro (h3 | h3 | h3) <;> first | omega | exact h2 h3
/-- A byte is written with a backslash. -/
theorem bt_esc (c : UInt8) : (bt c.toNat = [92, c]) ↔ c ∈ signL := by
  have e : c.toNat.toUInt8 = c := by simp
  unfold bt
  rw [e]
  by_cases h : c.toNat < 32 ∨ 126 < c.toNat
  · rw [if_pos h]
    constructor
    · intro h2; simp at h2
    · intro h2
      exfalso
      revert h h2
      have key : ∀ x ∈ signL, ¬ (x.toNat < 32 ∨ 126 < x.toNat) := by decide
      intro h h2
      exact key c h2 h
  · rw [if_neg h]
    by_cases h2 : c ∈ signL
    · rw [if_pos h2]; simp [h2]
    · rw [if_neg h2]; simp [h2]
end Go.Proofs.YtmdfdlljeggbbaaDoor
