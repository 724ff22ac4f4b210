/- Package rex: Turn; what is asked of Empty and Turn. -/
import Derived.Test.YtldiaokjgfoomaaDoorRw4
import Derived.Test.YtldiaokjgfoomaaDoorRxC
set_option linter.unusedSimpArgs false
set_option linter.unusedVariables false
set_option maxRecDepth 100000
namespace Go.Proofs.YtldiaokjgfoomaaDoor
open Go.RowKit

set_option maxHeartbeats 4000000 in
theorem rturn_any (ns : List Nd) (v : Value) (w : World) (hN : NsIn w v ns) :
    Calls Tryd.prog 25 #[v] w fun e w' => ∃ u, e = .returned (.tuple #[u, errV (faultL ns)]) ∧ Below w.heap.size w w' ∧ NsIn w' u (if faultL ns = 0 then turE ns else []) := by
  have CC : Hid _ := rcheck_any ns v w hN
  have hinfo : (Tryd.prog.info? 60).map (fun i => (i.zero, i.size, i.bytes)) = some (some (.agg #[.int .i64 0, .int .u64 0, .int .u64 0, .int .u64 0, .int .u64 0]), 5, 40) := by kernel_rfl
  obtain ⟨i0, hi, hz0, hz1, hz2⟩ := info_parts hinfo
  clear hinfo
  by_cases hf : faultL ns = 0
  · obtain ⟨hl, hr, hv⟩ := (faultL_zero ns).1 hf
    obtain ⟨a, cap, rfl, hm, h | ⟨b, off, rfl, hlt, hn⟩⟩ := hN
    · subst h; rw [endE_nil] at hv; cases hv
    have C2 : Hid (∀ w1 w' u, Below w.heap.size w w1 → Below w1.heap.size w1 w' → NsOwn w' w1.heap.size u [] → Calls Tryd.prog 42 #[u, .slice (some ⟨b, off, none⟩) ns.length cap, .int .i64 0] w' fun e w'' => ∃ u, e = .returned u ∧ Below w1.heap.size w' w'' ∧ NsOwn w'' w1.heap.size u (turE ns)) := by
      intro w1 w' u h1 h2 ho
      have := app_at ns b off cap hl (ns.length + 1) 0 ns.length (Nat.le_refl _) hv w1.heap.size w' u [] (Nat.lt_of_lt_of_le hlt h1.size) h2.size ((hn.below h1 hlt).below h2 (Nat.lt_of_lt_of_le hlt h1.size)) ho (by rw [turF_len ns _ 0 _ (Nat.le_refl _) hv]; simp; omega)
      exact this
    have HL : Hid ((turE ns).length ≤ maxLen) := by show _ ≤ _; rw [turE_len ns hv]; unfold maxLen; omega
    rw [hf] at CC ⊢
    rw [if_pos rfl]
    rw [show errV 0 = .nilIface from rfl] at CC ⊢
    clear hr hv hn hf
    go_enter Tryd.func25, Tryd.ntmps25
    go_wp2_with fail
    refine Calls.mono CC.out ?_
    rintro e w1 ⟨rfl, hb⟩
    have B1 : Hid _ := hb
    clear hb
    go_wp2_with (at_make; refine wpList_make_own _ (by rfl) _ _ 40 (by rfl) w1.heap.size 60 i0 _ 5 Tryd.underlying40 hi hz0 hz1 _ _ _ ns.length (by rfl) (by rfl) (by rfl) (by rw [hz2]; omega) (by unfold maxLen; omega) (Nat.le_refl _) ?_; intro w2 ho2 hg2; have O2 : Hid (NsOwn w2 w1.heap.size _ []) := ho2; have B2 : Hid (Below w1.heap.size w1 w2) := (Below.refl _ _).grown hg2 (Nat.le_refl _) (fun k hk => by cases hk); clear ho2 hg2)
    refine Calls.mono (C2.out w1 _ _ B1.out B2.out O2.out) ?_
    rintro e w3 ⟨u, rfl, h3, o3⟩
    have B3 : Hid (Below w.heap.size w w3) := (B1.out.trans (B2.out.mono B1.out.size)).trans (h3.mono B1.out.size)
    have O3 : Hid _ := o3
    clear h3 o3
    go_wp2
    go_ret2
    exact ⟨_, rfl, B3.out, NsOwn.isIn O3.out HL.out⟩
  · obtain ⟨a, cap, rfl, hm, _⟩ := hN
    rw [if_neg hf]
    rw [show errV (faultL ns) = .iface 25 (.int .i64 (faultL ns)) from if_neg hf] at CC ⊢
    clear hf
    generalize faultL ns = ft at *
    go_enter Tryd.func25, Tryd.ntmps25
    go_wp2_with fail
    refine Calls.mono CC.out ?_
    rintro e w1 ⟨rfl, hb⟩
    have B1 : Hid _ := hb
    clear hb
    go_wp2
    go_ret2
    exact ⟨_, rfl, B1.out, nsIn_nil _⟩
theorem rexT : RexT where
  empty := fun ns v w hN _ => rempty_any ns v w hN
  turn := fun ns v w hN _ => rturn_any ns v w hN
end Go.Proofs.YtldiaokjgfoomaaDoor
