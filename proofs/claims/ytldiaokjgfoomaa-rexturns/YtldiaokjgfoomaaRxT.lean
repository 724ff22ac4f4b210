/- The law RexTurns: from what package rex answers. -/
import Derived.Test.YtldiaokjgfoomaaRxC
import Derived.Test.YtldiaokjgfoomaaNdS
set_option linter.unusedSimpArgs false
set_option linter.unusedVariables false
set_option maxRecDepth 100000
namespace Go.Proofs.Ytldiaokjgfoomaa
open Go.RowKit

/-- The pattern of the law's own: Cat, Begin, Empty. -/
def own3 : List Nd := [⟨3, z4⟩, ⟨8, z4⟩, ⟨2, z4⟩]
theorem own3_ok : faultL own3 = 0 := by decide
theorem own3_turn : turE own3 = [⟨3, z4⟩, ⟨2, z4⟩, ⟨9, z4⟩] := rfl
theorem own3_wf : ∀ n ∈ own3, n.wf := by
  intro n hn
  simp [own3] at hn
  rcases hn with rfl | rfl | rfl <;> exact ⟨rfl, rfl, rfl, rfl, rfl⟩
theorem flip_wf {n : Nd} (h : n.flip.wf) : n.wf := by
  obtain ⟨h1, h2⟩ := h
  refine ⟨?_, h2⟩
  have e : n.flip.op = flipOp n.op := rfl
  rw [e] at h1
  unfold flipOp at h1
  split at h1
  · rename_i h; rw [h]; rfl
  · split at h1
    · rename_i h; rw [h]; rfl
    · exact h1
theorem turE_wf (ns : List Nd) (hv : endE ns 0 = some ns.length) (hw : ∀ n ∈ ns, n.wf) : ∀ n ∈ turE ns, n.wf := by
  obtain ⟨t, ht, rfl⟩ := tree_of ns hv
  intro n hn
  rw [turE, turE_flat t ht] at hn
  exact flip_wf (hw _ ((Rx.turn_mem t n).1 hn))
theorem ns_new (w : World) (ns : List Nd) (hm : ns.length ≤ maxLen) : NsIn (w.alloc (.cells (nsCells ns).toArray 37 (0, 0))) (.slice (some ⟨w.heap.size, 0, none⟩) ns.length ns.length) ns := by
  have e : (w.alloc (.cells (nsCells ns).toArray 37 (0, 0))).heap[w.heap.size]? = some (.cells (nsCells ns).toArray 37 (0, 0)) := by
    show (w.heap.push _)[w.heap.size]? = _
    simp
  have h : NsOwn (w.alloc (.cells (nsCells ns).toArray 37 (0, 0))) w.heap.size (.slice (some ⟨w.heap.size, 0, none⟩) ns.length ns.length) ns :=
    ⟨nsCells_len ns, Or.inr ⟨w.heap.size, ns.length, _, rfl, Nat.le_refl _, e, Nat.le_refl _, hm, by simp [nsCells_len], by simp [← nsCells_len]⟩⟩
  exact h.isIn hm
set_option maxHeartbeats 4000000 in
theorem rexTurns_any (R : RexT) (ns : List Nd) (v : Value) (w : World) (hN : NsIn w v ns) (hw : ∀ n ∈ ns, n.wf) :
    Calls Try.prog 4 #[v] w fun e w' => e = .returned (.bool true) ∧ Below w.heap.size w w' := by
  obtain ⟨a, cap, rfl, hm⟩ := nsIn_form hN
  have HN : Hid (NsIn w (.slice a ns.length cap) ns) := hN
  have HW : Hid _ := hw
  have HR : Hid RexT := R
  clear hN hw R
  go_enter Try.func4, Try.ntmps4
  go_wp2_with fail
  have C0 : Hid _ := HR.out.turn own3 _ _ (ns_new w own3 (by decide)) own3_wf
  rw [own3_ok, if_pos rfl, own3_turn] at C0
  refine Calls.mono C0.out ?_
  rintro e w1 ⟨u, rfl, hb, hu⟩
  obtain ⟨a1, cap1, rfl, hm1, hu | ⟨b1, off1, rfl, hlt1, hn1⟩⟩ := hu
  · cases hu
  have S1 : Hid (Below w.heap.size w w1) := (Below.alloc (Below.refl _ _) (Nat.le_refl _) _).trans (hb.mono (by simp))
  obtain ⟨d0, _⟩ := hn1 1 ⟨2, z4⟩ rfl
  obtain ⟨d1, _⟩ := hn1 2 ⟨9, z4⟩ rfl
  have e0 : errV 0 = .nilIface := rfl
  rw [e0]
  clear hb hlt1 hn1 hm1 e0
  simp only [Nat.one_mul, show 2 * 5 = 10 from rfl] at d0 d1
  by_cases hf : faultL ns = 0
  · obtain ⟨hl, _, hv⟩ := (faultL_zero ns).1 hf
    have hv2 : endE (turE ns) 0 = some (turE ns).length := ((faultL_zero _).1 (turn_good ns hf)).2.2
    have e2 : turE (turE ns) = ns := turn_twice ns hv
    have e3 : empE (turE ns) = empE ns := turn_empE ns hv
    have C1 : Hid (Calls Try.prog 11 #[.slice a ns.length cap] w1 fun e w'' => ∃ u, e = .returned (.tuple #[u, .nilIface]) ∧ Below w1.heap.size w1 w'' ∧ NsIn w'' u (turE ns)) := by
      have := HR.out.turn ns _ w1 (HN.out.below S1.out) HW.out
      rw [hf, if_pos rfl] at this
      exact this
    have C2 : Hid (∀ x w', NsIn w' x (turE ns) → Calls Try.prog 11 #[x] w' fun e w'' => ∃ u, e = .returned (.tuple #[u, .nilIface]) ∧ Below w'.heap.size w' w'' ∧ NsIn w'' u ns) := fun x w' h => by
      have := HR.out.turn (turE ns) x w' h (turE_wf ns hv HW.out)
      rw [show faultL (turE ns) = 0 from turn_good ns hf, if_pos rfl, e2] at this
      exact this
    have C3 : Hid (∀ w', Below w.heap.size w w' → Calls Try.prog 12 #[.slice a ns.length cap] w' fun e w'' => e = .returned (.tuple #[.bool (empE ns), .nilIface]) ∧ Below w'.heap.size w' w'') := fun w' hb => by
      have := HR.out.empty ns _ w' (HN.out.below hb) HW.out
      rw [hf, decide_eq_true rfl, Bool.true_and] at this
      exact this
    have C4 : Hid (∀ x w', NsIn w' x (turE ns) → Calls Try.prog 12 #[x] w' fun e w'' => e = .returned (.tuple #[.bool (empE ns), .nilIface]) ∧ Below w'.heap.size w' w'') := fun x w' h => by
      have := HR.out.empty (turE ns) x w' h (turE_wf ns hv HW.out)
      rw [show faultL (turE ns) = 0 from turn_good ns hf, decide_eq_true rfl, Bool.true_and, e3] at this
      exact this
    clear hl hv hv2 e2 e3 hf
    generalize empE ns = em at *
    go_wp2_with fail
    refine Calls.mono C1.out ?_
    rintro e w2 ⟨x, rfl, hb, hx⟩
    have S2 : Hid (Below w.heap.size w w2) := S1.out.trans (hb.mono S1.out.size)
    have X2 : Hid (NsIn w2 x (turE ns)) := hx
    clear hb hx
    go_wp2_with fail
    refine Calls.mono (C2.out _ _ X2.out) ?_
    rintro e w3 ⟨y, rfl, hb, hy⟩
    have S3 : Hid (Below w.heap.size w w3) := S2.out.trans (hb.mono S2.out.size)
    have X3 : Hid (NsIn w3 x (turE ns)) := NsIn.below X2.out hb
    have Y3 : Hid (NsIn w3 y ns) := hy
    clear hb hy
    go_wp2_with fail
    refine Calls.mono (C3.out _ S3.out) ?_
    rintro e w4 ⟨rfl, hb⟩
    have S4 : Hid (Below w.heap.size w w4) := S3.out.trans (hb.mono S3.out.size)
    have X4 : Hid (NsIn w4 x (turE ns)) := NsIn.below X3.out hb
    have Y4 : Hid (NsIn w4 y ns) := NsIn.below Y3.out hb
    clear hb
    go_wp2_with fail
    refine Calls.mono (C4.out _ _ X4.out) ?_
    rintro e w5 ⟨rfl, hb⟩
    have S5 : Hid (Below w.heap.size w w5) := S4.out.trans (hb.mono S4.out.size)
    have Y5 : Hid (NsIn w5 y ns) := NsIn.below Y4.out hb
    clear hb
    have CN : Hid _ := nodes_any ns ns y _ w5 Y5.out (HN.out.below S5.out)
    rw [nsEq_refl] at CN
    go_wp2_with fail
    refine Calls.mono CN.out ?_
    rintro e w6 ⟨rfl, hb⟩
    have S6 : Hid (Below w.heap.size w w6) := S5.out.trans (hb.mono S5.out.size)
    clear hb
    go_wp2
    go_ret
    exact ⟨rfl, S6.out⟩
  · have C1 : Hid (Calls Try.prog 11 #[.slice a ns.length cap] w1 fun e w'' => ∃ u, e = .returned (.tuple #[u, .iface 59 (.int .i64 (faultL ns))]) ∧ Below w1.heap.size w1 w'' ∧ NsIn w'' u []) := by
      have := HR.out.turn ns _ w1 (HN.out.below S1.out) HW.out
      rw [errV, if_neg hf, if_neg hf] at this
      exact this
    clear hf
    go_wp2_with fail
    refine Calls.mono C1.out ?_
    rintro e w2 ⟨x, rfl, hb, hx⟩
    have S2 : Hid (Below w.heap.size w w2) := S1.out.trans (hb.mono S1.out.size)
    clear hb hx
    go_wp2
    go_ret
    exact ⟨rfl, S2.out⟩
end Go.Proofs.Ytldiaokjgfoomaa
