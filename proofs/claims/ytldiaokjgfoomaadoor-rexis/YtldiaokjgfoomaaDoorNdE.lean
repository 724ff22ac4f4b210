/- What the document's own functions answer: EmptyOf. -/
import Derived.Test.YtldiaokjgfoomaaDoorNdM
set_option linter.unusedSimpArgs false
set_option linter.unusedVariables false
set_option maxRecDepth 100000
namespace Go.Proofs.YtldiaokjgfoomaaDoor
open Go.RowKit

theorem endOf_k (ns : List Nd) (v : Value) (i f k : Nat) (w : World) (hN : NsIn w v ns) (hf : f ≤ ns.length + 1) (h : endF ns f i = some k) :
    Calls Tryd.prog 27 #[v, .int .i64 i] w fun e w' => e = .returned (.int .i64 k) ∧ w' = w := by
  have h1 := endOf_any ns v i w hN
  rw [endE_of ns f i k hf h] at h1
  exact h1
set_option maxHeartbeats 4000000 in
theorem emptyOf_at (ns : List Nd) (b off cap : Nat) (hm : ns.length ≤ maxLen) (w : World) (hlt : b < w.heap.size) (hN : NsAt w b off ns) : ∀ (f i j : Nat), f ≤ ns.length + 1 → endF ns f i = some j →
    Calls Tryd.prog 22 #[.slice (some ⟨b, off, none⟩) ns.length cap, .int .i64 i] w fun e w' => e = .returned (.bool (empF ns f i)) ∧ w' = w := by
  have HIn : Hid (NsIn w (.slice (some ⟨b, off, none⟩) ns.length cap) ns) := ⟨_, cap, rfl, hm, Or.inr ⟨b, off, rfl, hlt, hN⟩⟩
  unfold maxLen at hm
  intro f
  induction f with
  | zero => intro i j _ h; simp [endF] at h
  | succ f ih =>
    intro i j hf h
    have IH := (show Hid _ from ih)
    clear ih
    obtain ⟨n, hn, hil, hc⟩ := part_cases ns f i j h
    have HC := (show Hid _ from hc)
    have HE : Hid _ := empF_at ns f i n hn
    obtain ⟨c0, _⟩ := hN i n hn
    have i0 : (0 : Int) ≤ (i : Int) := by omega
    have i1 : (i : Int) < (ns.length : Int) := by omega
    have hs := arg_succ i
    have HS := (show Hid _ from hs)
    clear hc hn h hs
    by_cases o1 : n.op = 1
    · have p1 : (n.op == 1) = true := by simp [o1]
      have HX : Hid (empF ns (f + 1) i = false) := by show _ = _; rw [HE.out, if_pos o1]
      clear o1
      go_enter Tryd.func22, Tryd.ntmps22
      go_wp2
      go_ret
      exact ⟨by rw [HX.out]; rfl, rfl⟩
    · have p1 : (n.op == 1) = false := by simp [o1]
      by_cases o3 : n.op = 3
      · have p3 : (n.op == 3) = true := by simp [o3]
        obtain ⟨k, hk1, hk2⟩ : ∃ k, endF ns f (i + 1) = some k ∧ endF ns f k = some j := by
          rcases HC.out with ⟨h0, _⟩ | ⟨h0, _⟩ | ⟨_, h0⟩
          · rw [o3] at h0; simp [prt] at h0
          · rw [o3] at h0; simp [prt] at h0
          · exact h0
        have HX : Hid (empF ns (f + 1) i = (empF ns f (i + 1) && empF ns f k)) := by
          show _ = _
          rw [HE.out, if_neg o1, if_pos o3, endE_of ns f (i + 1) k (by omega) hk1]; rfl
        have c1 := IH.out (i + 1) k (by omega) hk1
        have c2 := endOf_k ns _ (i + 1) f k w HIn.out (by omega) hk1
        have c3 := IH.out k j (by omega) hk2
        rw [HS.out] at c1 c2
        have C1 := (show Hid _ from c1)
        have C2 := (show Hid _ from c2)
        have C3 := (show Hid _ from c3)
        clear o1 o3 c1 c2 c3 hk1 hk2
        generalize empF ns f (i + 1) = x at *
        generalize empF ns f k = y at *
        cases x
        all_goals
          go_enter Tryd.func22, Tryd.ntmps22
          go_wp2_with fail
          refine Calls.mono C1.out ?_
          rintro e w1 ⟨rfl, rfl⟩
          go_wp2_with fail
          refine Calls.mono C2.out ?_
          rintro e w1 ⟨rfl, rfl⟩
          go_wp2_with fail
          refine Calls.mono C3.out ?_
          rintro e w1 ⟨rfl, rfl⟩
          go_wp2
          go_ret
          exact ⟨by rw [HX.out]; rfl, rfl⟩
      · have p3 : (n.op == 3) = false := by simp [o3]
        by_cases o4 : n.op = 4
        · have p4 : (n.op == 4) = true := by simp [o4]
          obtain ⟨k, hk1, hk2⟩ : ∃ k, endF ns f (i + 1) = some k ∧ endF ns f k = some j := by
            rcases HC.out with ⟨h0, _⟩ | ⟨h0, _⟩ | ⟨_, h0⟩
            · rw [o4] at h0; simp [prt] at h0
            · rw [o4] at h0; simp [prt] at h0
            · exact h0
          have HX : Hid (empF ns (f + 1) i = (empF ns f (i + 1) || empF ns f k)) := by
            show _ = _
            rw [HE.out, if_neg o1, if_neg o3, if_pos o4, endE_of ns f (i + 1) k (by omega) hk1]; rfl
          have c1 := IH.out (i + 1) k (by omega) hk1
          have c2 := endOf_k ns _ (i + 1) f k w HIn.out (by omega) hk1
          have c3 := IH.out k j (by omega) hk2
          rw [HS.out] at c1 c2
          have C1 := (show Hid _ from c1)
          have C2 := (show Hid _ from c2)
          have C3 := (show Hid _ from c3)
          clear o1 o3 o4 c1 c2 c3 hk1 hk2
          generalize empF ns f (i + 1) = x at *
          generalize empF ns f k = y at *
          cases x
          all_goals
            go_enter Tryd.func22, Tryd.ntmps22
            go_wp2_with fail
            refine Calls.mono C1.out ?_
            rintro e w1 ⟨rfl, rfl⟩
            go_wp2_with fail
            refine Calls.mono C2.out ?_
            rintro e w1 ⟨rfl, rfl⟩
            go_wp2_with fail
            refine Calls.mono C3.out ?_
            rintro e w1 ⟨rfl, rfl⟩
            go_wp2
            go_ret
            exact ⟨by rw [HX.out]; rfl, rfl⟩
        · have p4 : (n.op == 4) = false := by simp [o4]
          by_cases o6 : n.op = 6
          · have p6 : (n.op == 6) = true := by simp [o6]
            have hk1 : endF ns f (i + 1) = some j := by
              rcases HC.out with ⟨h0, _⟩ | ⟨_, h0⟩ | ⟨h0, _⟩
              · rw [o6] at h0; simp [prt] at h0
              · exact h0
              · rw [o6] at h0; simp [prt] at h0
            have HX : Hid (empF ns (f + 1) i = empF ns f (i + 1)) := by
              show _ = _
              rw [HE.out, if_neg o1, if_neg o3, if_neg o4, if_pos o6]
            have c1 := IH.out (i + 1) j (by omega) hk1
            rw [HS.out] at c1
            have C1 := (show Hid _ from c1)
            clear o1 o3 o4 o6 c1 hk1
            go_enter Tryd.func22, Tryd.ntmps22
            go_wp2_with fail
            refine Calls.mono C1.out ?_
            rintro e w1 ⟨rfl, rfl⟩
            go_wp2
            go_ret
            exact ⟨by rw [HX.out]; rfl, rfl⟩
          · have p6 : (n.op == 6) = false := by simp [o6]
            have HX : Hid (empF ns (f + 1) i = true) := by
              show _ = _
              rw [HE.out, if_neg o1, if_neg o3, if_neg o4, if_neg o6]
            clear o1 o3 o4 o6
            go_enter Tryd.func22, Tryd.ntmps22
            go_wp2
            go_ret
            exact ⟨by rw [HX.out]; rfl, rfl⟩
theorem emptyOf_any (ns : List Nd) (v : Value) (w : World) (hN : NsIn w v ns) (hv : endE ns 0 = some ns.length) :
    Calls Tryd.prog 22 #[v, .int .i64 0] w fun e w' => e = .returned (.bool (empE ns)) ∧ w' = w := by
  obtain ⟨a, cap, rfl, hm, h | ⟨b, off, rfl, hlt, hn⟩⟩ := hN
  · subst h
    rw [endE_nil] at hv; cases hv
  · exact emptyOf_at ns b off cap hm w hlt hn (ns.length + 1) 0 ns.length (by omega) hv
end Go.Proofs.YtldiaokjgfoomaaDoor
