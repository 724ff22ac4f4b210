/- Package rex: End; what is asked of package rex. -/
import Derived.Test.YtldiaokjgfoomaaDoorRw5
import Derived.Test.YtldiaokjgfoomaaDoorRxI
set_option linter.unusedSimpArgs false
set_option linter.unusedVariables false
set_option maxRecDepth 100000
namespace Go.Proofs.YtldiaokjgfoomaaDoor
open Go.RowKit

set_option maxHeartbeats 4000000 in
theorem rend_any (ns : List Nd) (v : Value) (i : Int) (w : World) (hN : NsIn w v ns) :
    Calls Tryd.prog 28 #[v, .int .i64 i] w fun e w' => e = .returned (.tuple #[.int .i64 (endN ns i), errV (endErr ns i)]) ∧ Below w.heap.size w w' := by
  have CC : Hid _ := rcheck_any ns v w hN
  by_cases hf : faultL ns = 0
  · obtain ⟨hl, hr, hv⟩ := (faultL_zero ns).1 hf
    by_cases hi : 0 ≤ i ∧ i < ns.length
    · obtain ⟨c1, c2⟩ := rexEnd_in ns i hf hi.1 hi.2
      rw [c1, c2]
      obtain ⟨j, rfl⟩ : ∃ j : Nat, i = (j : Int) := ⟨i.toNat, by omega⟩
      rw [Int.toNat_natCast]
      obtain ⟨k, hk⟩ := part_at ns hv j (by omega)
      obtain ⟨a, cap, rfl, hm, h | ⟨b, off, rfl, hlt, hn⟩⟩ := hN
      · subst h; rw [endE_nil] at hv; cases hv
      have C2 : Hid (∀ w', Below w.heap.size w w' → Calls Tryd.prog 39 #[.slice (some ⟨b, off, none⟩) ns.length cap, .int .i64 j] w' fun e w'' => e = .returned (.tuple #[.int .i64 k, .bool true]) ∧ w'' = w') := fun w' hb => behind_k ns b off cap hl w' (hn.below hb hlt) j _ k hk
      rw [hk, show endI (some k) = (k : Int) from rfl]
      rw [hf] at CC
      rw [show errV 0 = .nilIface from rfl] at CC ⊢
      have i0 : (0 : Int) ≤ (j : Int) := hi.1
      have i1 : (j : Int) < (ns.length : Int) := hi.2
      clear hr hv hn hf hk c1 c2 hi
      go_enter Tryd.func28, Tryd.ntmps28
      go_wp2_with fail
      refine Calls.mono CC.out ?_
      rintro e w1 ⟨rfl, hb⟩
      have B1 : Hid _ := hb
      clear hb
      go_wp2_with fail
      refine Calls.mono (C2.out _ B1.out) ?_
      rintro e w1 ⟨rfl, rfl⟩
      go_wp2
      go_ret2
      exact ⟨rfl, B1.out⟩
    · obtain ⟨c1, c2⟩ := rexEnd_out ns i hf hi
      rw [c1, c2]
      obtain ⟨a, cap, rfl, hm, _⟩ := hN
      rw [hf] at CC
      rw [show errV 0 = .nilIface from rfl] at CC
      rw [show errV 1 = .iface 25 (.int .i64 1) from rfl]
      clear hr hv hf c1 c2
      by_cases i0 : i < 0
      · clear hi
        go_enter Tryd.func28, Tryd.ntmps28
        go_wp2_with fail
        refine Calls.mono CC.out ?_
        rintro e w1 ⟨rfl, hb⟩
        have B1 : Hid _ := hb
        clear hb
        go_wp2
        go_ret2
        exact ⟨rfl, B1.out⟩
      · have i1 : (ns.length : Int) ≤ i := by omega
        clear hi
        go_enter Tryd.func28, Tryd.ntmps28
        go_wp2_with fail
        refine Calls.mono CC.out ?_
        rintro e w1 ⟨rfl, hb⟩
        have B1 : Hid _ := hb
        clear hb
        go_wp2
        go_ret2
        exact ⟨rfl, B1.out⟩
  · obtain ⟨c1, c2⟩ := rexEnd_bad ns i hf
    rw [c1, c2]
    obtain ⟨a, cap, rfl, hm, _⟩ := hN
    rw [show errV (faultL ns) = .iface 25 (.int .i64 (faultL ns)) from if_neg hf] at CC ⊢
    clear hf c1 c2
    generalize faultL ns = ft at *
    go_enter Tryd.func28, Tryd.ntmps28
    go_wp2_with fail
    refine Calls.mono CC.out ?_
    rintro e w1 ⟨rfl, hb⟩
    have B1 : Hid _ := hb
    clear hb
    go_wp2
    go_ret2
    exact ⟨rfl, B1.out⟩
theorem rexC : RexC where
  empty := fun ns v w hN _ => rempty_any ns v w hN
  turn := fun ns v w hN _ => rturn_any ns v w hN
  check := fun ns v w hN _ => rcheck_any ns v w hN
  ends := fun ns v i w hN _ => rend_any ns v i w hN
end Go.Proofs.YtldiaokjgfoomaaDoor
