/- Package rex: mayBeNothing, Empty. -/
import Derived.Test.YtldiaokjgfoomaaDoorRw2
set_option linter.unusedSimpArgs false
set_option linter.unusedVariables false
set_option maxRecDepth 100000
namespace Go.Proofs.YtldiaokjgfoomaaDoor
open Go.RowKit

/-- The place behind a part that is whole. -/
theorem behind_k (ns : List Nd) (b off cap : Nat) (hm : ns.length ≤ 60) (w : World) (hN : NsAt w b off ns) (i f k : Nat) (h : endF ns f i = some k) :
    Calls Tryd.prog 39 #[.slice (some ⟨b, off, none⟩) ns.length cap, .int .i64 i] w fun e w' => e = .returned (.tuple #[.int .i64 k, .bool true]) ∧ w' = w := by
  have g := endF_gt ns f i k h
  have h1 := behind_at ns b off cap i (by unfold maxLen; omega) (by omega) (by omega) w hN
  obtain ⟨e1, e2⟩ := end_beh ns f i k h
  rw [e1, e2] at h1
  exact h1
set_option maxHeartbeats 4000000 in
theorem mayBe_at (ns : List Nd) (hr : ∀ n ∈ ns, 1 ≤ n.op ∧ n.op ≤ 9) (b off cap : Nat) (hm : ns.length ≤ 60) (w : World) (hN : NsAt w b off ns) : ∀ (f i j : Nat), f ≤ ns.length + 1 → endF ns f i = some j →
    Calls Tryd.prog 41 #[.slice (some ⟨b, off, none⟩) ns.length cap, .int .i64 i] w fun e w' => e = .returned (.bool (empF ns f i)) ∧ w' = w := by
  have HB : Hid _ := behind_k ns b off cap hm w hN
  intro f
  induction f with
  | zero => intro i j _ h; simp [endF] at h
  | succ f ih =>
    intro i j hf h
    have IH := (show Hid _ from ih)
    clear ih
    obtain ⟨n, hn, hil, hc⟩ := part_cases ns f i j h
    have hop := hr n (List.mem_of_getElem? hn)
    have HC := (show Hid _ from hc)
    have HE : Hid _ := empF_at ns f i n hn
    obtain ⟨c0, _⟩ := hN i n hn
    have i0 : (0 : Int) ≤ (i : Int) := by omega
    have i1 : (i : Int) < (ns.length : Int) := by omega
    have hs := arg_succ i
    have HS := (show Hid _ from hs)
    clear hc hn h hs
    obtain ⟨op, c⟩ := n
    simp only at *
    have h9 : op = 1 ∨ op = 2 ∨ op = 3 ∨ op = 4 ∨ op = 5 ∨ op = 6 ∨ op = 7 ∨ op = 8 ∨ op = 9 := by omega
    clear hop
    rcases h9 with rfl | rfl | rfl | rfl | rfl | rfl | rfl | rfl | rfl
    · go_enter Tryd.func41, Tryd.ntmps41
      go_wp2
      go_ret
      exact ⟨by rw [HE.out]; rfl, rfl⟩
    · go_enter Tryd.func41, Tryd.ntmps41
      go_wp2
      go_ret
      exact ⟨by rw [HE.out]; rfl, rfl⟩
    · obtain ⟨k, hk1, hk2⟩ : ∃ k, endF ns f (i + 1) = some k ∧ endF ns f k = some j := by
        rcases HC.out with ⟨h0, _⟩ | ⟨h0, _⟩ | ⟨_, h0⟩
        · simp [prt] at h0
        · simp [prt] at h0
        · exact h0
      have HX : Hid (empF ns (f + 1) i = (empF ns f (i + 1) && empF ns f k)) := by
        show _ = _
        rw [HE.out, endE_of ns f (i + 1) k (by omega) hk1]; rfl
      have c1 := IH.out (i + 1) k (by omega) hk1
      have c2 := HB.out (i + 1) f k hk1
      have c3 := IH.out k j (by omega) hk2
      rw [HS.out] at c1 c2
      have C1 := (show Hid _ from c1)
      have C2 := (show Hid _ from c2)
      have C3 := (show Hid _ from c3)
      clear c1 c2 c3 hk1 hk2 HC HE HB IH HS
      generalize empF ns f (i + 1) = x at *
      generalize empF ns f k = y at *
      cases x
      · go_enter Tryd.func41, Tryd.ntmps41
        go_wp2_with fail
        refine Calls.mono C2.out ?_
        rintro e w1 ⟨rfl, rfl⟩
        go_wp2_with fail
        refine Calls.mono C1.out ?_
        rintro e w1 ⟨rfl, rfl⟩
        go_wp2
        go_ret
        exact ⟨by rw [HX.out]; rfl, rfl⟩
      · go_enter Tryd.func41, Tryd.ntmps41
        go_wp2_with fail
        refine Calls.mono C2.out ?_
        rintro e w1 ⟨rfl, rfl⟩
        go_wp2_with fail
        refine Calls.mono C1.out ?_
        rintro e w1 ⟨rfl, rfl⟩
        go_wp2_with fail
        refine Calls.mono C3.out ?_
        rintro e w1 ⟨rfl, rfl⟩
        go_wp2
        go_ret
        exact ⟨by rw [HX.out]; rfl, rfl⟩
    · obtain ⟨k, hk1, hk2⟩ : ∃ k, endF ns f (i + 1) = some k ∧ endF ns f k = some j := by
        rcases HC.out with ⟨h0, _⟩ | ⟨h0, _⟩ | ⟨_, h0⟩
        · simp [prt] at h0
        · simp [prt] at h0
        · exact h0
      have HX : Hid (empF ns (f + 1) i = (empF ns f (i + 1) || empF ns f k)) := by
        show _ = _
        rw [HE.out, endE_of ns f (i + 1) k (by omega) hk1]; rfl
      have c1 := IH.out (i + 1) k (by omega) hk1
      have c2 := HB.out (i + 1) f k hk1
      have c3 := IH.out k j (by omega) hk2
      rw [HS.out] at c1 c2
      have C1 := (show Hid _ from c1)
      have C2 := (show Hid _ from c2)
      have C3 := (show Hid _ from c3)
      clear c1 c2 c3 hk1 hk2 HC HE HB IH HS
      generalize empF ns f (i + 1) = x at *
      generalize empF ns f k = y at *
      cases x
      · go_enter Tryd.func41, Tryd.ntmps41
        go_wp2_with fail
        refine Calls.mono C2.out ?_
        rintro e w1 ⟨rfl, rfl⟩
        go_wp2_with fail
        refine Calls.mono C1.out ?_
        rintro e w1 ⟨rfl, rfl⟩
        go_wp2_with fail
        refine Calls.mono C3.out ?_
        rintro e w1 ⟨rfl, rfl⟩
        go_wp2
        go_ret
        exact ⟨by rw [HX.out]; rfl, rfl⟩
      · go_enter Tryd.func41, Tryd.ntmps41
        go_wp2_with fail
        refine Calls.mono C2.out ?_
        rintro e w1 ⟨rfl, rfl⟩
        go_wp2_with fail
        refine Calls.mono C1.out ?_
        rintro e w1 ⟨rfl, rfl⟩
        go_wp2
        go_ret
        exact ⟨by rw [HX.out]; rfl, rfl⟩
    · go_enter Tryd.func41, Tryd.ntmps41
      go_wp2
      go_ret
      exact ⟨by rw [HE.out]; rfl, rfl⟩
    · have hk1 : endF ns f (i + 1) = some j := by
        rcases HC.out with ⟨h0, _⟩ | ⟨_, h0⟩ | ⟨h0, _⟩
        · simp [prt] at h0
        · exact h0
        · simp [prt] at h0
      have HX : Hid (empF ns (f + 1) i = empF ns f (i + 1)) := by
        show _ = _
        rw [HE.out]; rfl
      have c1 := IH.out (i + 1) j (by omega) hk1
      rw [HS.out] at c1
      have C1 := (show Hid _ from c1)
      clear c1 hk1 HC HE HB IH HS
      go_enter Tryd.func41, Tryd.ntmps41
      go_wp2_with fail
      refine Calls.mono C1.out ?_
      rintro e w1 ⟨rfl, rfl⟩
      go_wp2
      go_ret
      exact ⟨by rw [HX.out]; rfl, rfl⟩
    · go_enter Tryd.func41, Tryd.ntmps41
      go_wp2
      go_ret
      exact ⟨by rw [HE.out]; rfl, rfl⟩
    · go_enter Tryd.func41, Tryd.ntmps41
      go_wp2
      go_ret
      exact ⟨by rw [HE.out]; rfl, rfl⟩
    · go_enter Tryd.func41, Tryd.ntmps41
      go_wp2
      go_ret
      exact ⟨by rw [HE.out]; rfl, rfl⟩
set_option maxHeartbeats 4000000 in
theorem rempty_any (ns : List Nd) (v : Value) (w : World) (hN : NsIn w v ns) :
    Calls Tryd.prog 24 #[v] w fun e w' => e = .returned (.tuple #[.bool (decide (faultL ns = 0) && empE ns), errV (faultL ns)]) ∧ Below w.heap.size w w' := by
  have CC : Hid _ := rcheck_any ns v w hN
  by_cases hf : faultL ns = 0
  · obtain ⟨hl, hr, hv⟩ := (faultL_zero ns).1 hf
    obtain ⟨a, cap, rfl, hm, h | ⟨b, off, rfl, hlt, hn⟩⟩ := hN
    · subst h; rw [endE_nil] at hv; cases hv
    have C2 : Hid (∀ w', Below w.heap.size w w' → Calls Tryd.prog 41 #[.slice (some ⟨b, off, none⟩) ns.length cap, .int .i64 0] w' fun e w'' => e = .returned (.bool (empE ns)) ∧ w'' = w') := fun w' hb =>
      mayBe_at ns (fun n hn => (hr n hn).1) b off cap hl w' (hn.below hb hlt) (ns.length + 1) 0 ns.length (Nat.le_refl _) hv
    rw [hf] at CC ⊢
    rw [decide_eq_true rfl, Bool.true_and]
    rw [show errV 0 = .nilIface from rfl] at CC ⊢
    clear hl hr hv hn hf
    generalize empE ns = em at *
    go_enter Tryd.func24, Tryd.ntmps24
    go_wp2_with fail
    refine Calls.mono CC.out ?_
    rintro e w1 ⟨rfl, hb⟩
    have B1 : Hid _ := hb
    clear hb
    go_wp2_with fail
    refine Calls.mono (C2.out _ B1.out) ?_
    rintro e w1 ⟨rfl, rfl⟩
    go_wp2
    go_ret2
    exact ⟨rfl, B1.out⟩
  · obtain ⟨a, cap, rfl, hm, _⟩ := hN
    rw [decide_eq_false hf, Bool.false_and]
    rw [show errV (faultL ns) = .iface 25 (.int .i64 (faultL ns)) from if_neg hf] at CC ⊢
    clear hf
    generalize faultL ns = ft at *
    go_enter Tryd.func24, Tryd.ntmps24
    go_wp2_with fail
    refine Calls.mono CC.out ?_
    rintro e w1 ⟨rfl, hb⟩
    have B1 : Hid _ := hb
    clear hb
    go_wp2
    go_ret2
    exact ⟨rfl, B1.out⟩
end Go.Proofs.YtldiaokjgfoomaaDoor
