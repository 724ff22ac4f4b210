/- The landed reader: digit. -/
import Derived.Test.YtmdfdlljeggbbaaRa2
import Derived.Test.YtmdfdlljeggbbaaShf
set_option linter.unusedSimpArgs false
set_option linter.unusedVariables false
set_option maxRecDepth 100000
namespace Go.Proofs.Ytmdfdlljeggbbaa
open Go.RowKit
def hexS : ByteArray := ⟨#[48, 49, 50, 51, 52, 53, 54, 55, 56, 57, 97, 98, 99, 100, 101, 102]⟩
def hxI (c : UInt8) : Int := match hx c with | some k => (k : Int) | none => -1
theorem hxI_idx_n : ∀ n : Nat, n < 256 → Lib.indexByte hexS.data.toList n.toUInt8 = hxI n.toUInt8 := by decide
theorem hxI_idx (c : UInt8) : Lib.indexByte hexS.data.toList (c.toNat : Int).toNat.toUInt8 = hxI c := by
  have h := hxI_idx_n c.toNat c.toNat_lt
  simpa using h
set_option maxHeartbeats 1000000 in
theorem digit_end (g : Nat) (s : ByteArray) (a : Nat) (v : Value) (f : Int) (w : World) (h : PA w g s a v []) :
    Calls Try.prog 65 #[.pointer (some ⟨g, 0, none⟩), .int .i64 f] w fun e w' => e = .panicked (mis s.size) ∧ Stk w' g ∧ w.grownBy w' (some g) := by
  have HM := hid (take_none g s a v w h)
  clear h
  go_enter Try.func65, Try.ntmps65
  go_wp2_with fail
  refine Calls.mono HM.out ?_
  rintro e w1 ⟨rfl, hs, hg⟩
  exact ⟨rfl, rfl, hs, hg⟩
set_option maxHeartbeats 1000000 in
theorem digit_ok (g : Nat) (s : ByteArray) (a : Nat) (v : Value) (c : UInt8) (r : List UInt8) (f : Int) (k : Nat) (hk : hx c = some k) (w : World) (h : PA w g s a v (c :: r)) :
    Calls Try.prog 65 #[.pointer (some ⟨g, 0, none⟩), .int .i64 f] w fun e w' => e = .returned (.int .u8 (k : Int)) ∧ PA w' g s (a + 1) v r ∧ w.grownBy w' (some g) := by
  have HM := hid (take_some g s a v c r w h)
  have hI : Hid (Lib.indexByte hexS.data.toList (c.toNat : Int).toNat.toUInt8 = (k : Int)) := by
    show _ = _
    rw [hxI_idx, hxI, hk]
  have hlt := hx_lt _ _ hk
  clear h hk
  go_enter Try.func65, Try.ntmps65
  go_wp2_with fail
  refine Calls.mono HM.out ?_
  rintro e w1 ⟨rfl, hp, hg⟩
  go_wp2_with fail
  refine Calls.mono (indexByte_any hexS _ _) ?_
  rintro e w2 ⟨rfl, rfl⟩
  rw [hI.out]
  have hn : ¬ (k : Int) < 0 := by omega
  have hw : IntKind.u8.wrap (k : Int) = (k : Int) := by rw [IntKind.wrap_u8]; omega
  go_wp2
  go_ret
  exact ⟨rfl, hp, hg⟩
set_option maxHeartbeats 1000000 in
theorem digit_bad (g : Nat) (s : ByteArray) (a : Nat) (v : Value) (c : UInt8) (r : List UInt8) (f : Int) (hk : hx c = none) (w : World) (h : PA w g s a v (c :: r)) :
    Calls Try.prog 65 #[.pointer (some ⟨g, 0, none⟩), .int .i64 f] w fun e w' => e = .panicked (mis f) ∧ Stk w' g ∧ w.grownBy w' (some g) := by
  have HM := hid (take_some g s a v c r w h)
  have hI : Hid (Lib.indexByte hexS.data.toList (c.toNat : Int).toNat.toUInt8 = -1) := by
    show _ = _
    rw [hxI_idx, hxI, hk]
  clear h hk
  go_enter Try.func65, Try.ntmps65
  go_wp2_with fail
  refine Calls.mono HM.out ?_
  rintro e w1 ⟨rfl, hp, hg⟩
  go_wp2_with fail
  refine Calls.mono (indexByte_any hexS _ _) ?_
  rintro e w2 ⟨rfl, rfl⟩
  rw [hI.out]
  go_wp2_with fail
  refine Calls.mono (misfitAt_any g s _ v false f _ hp.rd) ?_
  rintro e w2 ⟨rfl, hs, hg2⟩
  go_wp2
  exact ⟨rfl, rfl, hs, grown_trans hg hg2⟩
end Go.Proofs.Ytmdfdlljeggbbaa
