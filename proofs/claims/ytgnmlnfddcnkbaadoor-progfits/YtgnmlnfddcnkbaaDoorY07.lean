/- The landed builder: plus, star, opt, or. The place behind a part, by counting the parts that are missing. No function of the program. Package rex: parts, behind, checkNode, turnedNode. Package rex: Check. The landed builder: the steps of a tree; Of. -/
import Derived.Test.YtgnmlnfddcnkbaaDoorY06
import Derived.Test.YtgnmlnfddcnkbaaDoorY04
import Derived.Test.YtgnmlnfddcnkbaaDoorY02
import Derived.Handy
namespace Go.Proofs.YtgnmlnfddcnkbaaDoor
set_option linter.unusedSimpArgs false
set_option linter.unusedVariables false
set_option maxRecDepth 100000
open Go.RowKit
theorem set_mid (l r : List St) (x y : St) : (l ++ x :: r).set l.length y = l ++ y :: r := by
  rw [List.set_append_right _ _ (Nat.le_refl _)]
  simp
set_option maxHeartbeats 2000000 in
theorem plus_any (ns : List Nd) (hl : ns.length ≤ 60) (b off cap i : Nat) (hi : i ≤ 60) (a : Rx) (hP : BPart ns b off cap a (i + 1)) (g : Nat) (ss : List St) (w : World) (hB : BB w g (.slice (some ⟨b, off, none⟩) ns.length cap) ss) (hbg : b < g) (hN : NsAt w b off ns) (hm : ss.length + 2 * a.flat.length + 1 ≤ 500) :
    Calls Tryd.prog 49 #[.pointer (some ⟨g, 0, none⟩), .int .i64 (i : Int)] w fun e w' => e = .returned (.int .i64 ((i + 1 + a.flat.length : Nat) : Int)) ∧ BB w' g (.slice (some ⟨b, off, none⟩) ns.length cap) (ss ++ (a.cod ss.length ++ [stF ss.length (ss.length + (a.cod ss.length).length + 1)])) ∧ Below g w w' := by
  obtain ⟨a', cap', d0, d1⟩ := hB.read
  have hcl := a.cod_len ss.length
  have HP := hid (hP g ss w hB hbg hN (by omega))
  have hx : Hid ((i : Int) + 1 = ((i + 1 : Nat) : Int)) := by show _ = _; omega
  clear hB hN hP
  go_enter Tryd.func49, Tryd.ntmps49
  go_wp2_with fail
  rw [hx.out]
  refine Calls.mono HP.out ?_
  rintro e w1 ⟨rfl, h1, hb1⟩
  have HH := hid (hold_any g _ _ w1 h1 (by rw [List.length_append]; omega))
  have HL1 := hid hb1
  clear h1 hb1 HP
  go_wp2_with fail
  refine Calls.mono HH.out ?_
  rintro e w2 ⟨rfl, h2, hb2⟩
  have HF := hid (fork_any g _ _ (ss ++ a.cod ss.length).length ss.length ((ss ++ a.cod ss.length).length + 1) w2 h2 (by simp))
  have HL2 := hid (HL1.out.trans hb2)
  have hk : (ss ++ a.cod ss.length).length ≤ 500 := by rw [List.length_append]; omega
  have hy : Hid ((((ss ++ a.cod ss.length).length : Nat) : Int) + 1 = (((ss ++ a.cod ss.length).length + 1 : Nat) : Int)) := by show _ = _; omega
  have HS : Hid (((ss ++ a.cod ss.length) ++ [stZ]).set (ss ++ a.cod ss.length).length (stF ss.length ((ss ++ a.cod ss.length).length + 1)) = ss ++ (a.cod ss.length ++ [stF ss.length (ss.length + (a.cod ss.length).length + 1)])) := by
    show _ = _
    rw [set_mid, List.append_assoc, List.length_append]
  rw [HS.out] at HF
  generalize (ss ++ a.cod ss.length).length = K at *
  clear h2 hb2 HH HL1 HS
  go_wp2_with fail
  rw [hy.out]
  refine Calls.mono HF.out ?_
  rintro e w3 ⟨rfl, h3, hb3⟩
  have H3 := hid h3
  have HL3 := hid (HL2.out.trans hb3)
  clear h3 hb3 HF
  go_wp2
  go_ret
  exact ⟨rfl, H3.out, HL3.out⟩
/-- A list that was held open at its first new place, and filled. -/
theorem set_held (l A : List St) (y : St) : (l ++ [stZ] ++ A).set l.length y = l ++ y :: A := by
  rw [List.append_assoc, List.singleton_append, set_mid]
set_option maxHeartbeats 2000000 in
theorem opt_any (ns : List Nd) (hl : ns.length ≤ 60) (b off cap i : Nat) (hi : i ≤ 60) (a : Rx) (hP : BPart ns b off cap a (i + 1)) (g : Nat) (ss : List St) (w : World) (hB : BB w g (.slice (some ⟨b, off, none⟩) ns.length cap) ss) (hbg : b < g) (hN : NsAt w b off ns) (hm : ss.length + 2 * a.flat.length + 1 ≤ 500) (K : Nat) (hK : K = ss.length + 1 + (a.cod (ss.length + 1)).length) :
    Calls Tryd.prog 50 #[.pointer (some ⟨g, 0, none⟩), .int .i64 (i : Int)] w fun e w' => e = .returned (.int .i64 ((i + 1 + a.flat.length : Nat) : Int)) ∧ BB w' g (.slice (some ⟨b, off, none⟩) ns.length cap) (ss ++ stF (ss.length + 1) K :: a.cod (ss.length + 1)) ∧ Below g w w' := by
  have hcl := a.cod_len (ss.length + 1)
  have HH := hid (hold_any g _ ss w hB (by omega))
  have HN := hid hN
  have HP := hid hP
  have HK := hid hK
  have hx : Hid ((i : Int) + 1 = ((i + 1 : Nat) : Int)) := by show _ = _; omega
  clear hB hN hP hK
  go_enter Tryd.func50, Tryd.ntmps50
  go_wp2_with fail
  refine Calls.mono HH.out ?_
  rintro e w1 ⟨rfl, h1, hb1⟩
  have HP1 := hid (HP.out g (ss ++ [stZ]) w1 h1 hbg (HN.out.below hb1 hbg) (by simp; omega))
  have HL1 := hid hb1
  rw [show (ss ++ [stZ]).length = ss.length + 1 from by simp] at HP1
  clear h1 hb1 HH HP
  go_wp2_with fail
  rw [hx.out]
  refine Calls.mono HP1.out ?_
  rintro e w2 ⟨rfl, h2, hb2⟩
  obtain ⟨a', cap', d0, d1⟩ := h2.read
  have HF := hid (fork_any g _ _ ss.length (ss.length + 1) K w2 h2 (by first | (simp; done) | (simp; omega)))
  rw [set_held] at HF
  have HL2 := hid (HL1.out.trans hb2)
  rw [show (ss ++ [stZ] ++ a.cod (ss.length + 1)).length = K from by have := HK.out; first | (simp; done) | (simp; omega)] at d1
  have hy : Hid (((ss.length : Nat) : Int) + 1 = ((ss.length + 1 : Nat) : Int)) := by show _ = _; omega
  have hk : K ≤ 500 := by have := HK.out; omega
  clear h2 hb2 HL1 HP1 d0
  go_wp2_with fail
  rw [hy.out]
  refine Calls.mono HF.out ?_
  rintro e w3 ⟨rfl, h3, hb3⟩
  have H3 := hid h3
  have HL3 := hid (HL2.out.trans hb3)
  clear h3 hb3 HF
  go_wp2
  go_ret
  exact ⟨rfl, H3.out, HL3.out⟩
set_option maxHeartbeats 2000000 in
theorem star_any (ns : List Nd) (hl : ns.length ≤ 60) (b off cap i : Nat) (hi : i ≤ 60) (a : Rx) (hP : BPart ns b off cap a (i + 1)) (g : Nat) (ss : List St) (w : World) (hB : BB w g (.slice (some ⟨b, off, none⟩) ns.length cap) ss) (hbg : b < g) (hN : NsAt w b off ns) (hm : ss.length + 2 * a.flat.length + 2 ≤ 500) (K : Nat) (hK : K = ss.length + 1 + (a.cod (ss.length + 1)).length + 1) :
    Calls Tryd.prog 48 #[.pointer (some ⟨g, 0, none⟩), .int .i64 (i : Int)] w fun e w' => e = .returned (.int .i64 ((i + 1 + a.flat.length : Nat) : Int)) ∧ BB w' g (.slice (some ⟨b, off, none⟩) ns.length cap) (ss ++ stF (ss.length + 1) K :: (a.cod (ss.length + 1) ++ [stF (ss.length + 1) K])) ∧ Below g w w' := by
  have hcl := a.cod_len (ss.length + 1)
  have HH := hid (hold_any g _ ss w hB (by omega))
  have HN := hid hN
  have HP := hid hP
  have HK := hid hK
  clear hB hN hP hK
  go_enter Tryd.func48, Tryd.ntmps48
  go_wp2_with fail
  refine Calls.mono HH.out ?_
  rintro e w1 ⟨rfl, h1, hb1⟩
  have HP1 := hid (plus_any ns hl b off cap i hi a HP.out g (ss ++ [stZ]) w1 h1 hbg (HN.out.below hb1 hbg) (by simp; omega))
  have HL1 := hid hb1
  rw [show (ss ++ [stZ]).length = ss.length + 1 from by simp, ← HK.out] at HP1
  clear h1 hb1 HH HP
  go_wp2_with fail
  refine Calls.mono HP1.out ?_
  rintro e w2 ⟨rfl, h2, hb2⟩
  obtain ⟨a', cap', d0, d1⟩ := h2.read
  have HF := hid (fork_any g _ _ ss.length (ss.length + 1) K w2 h2 (by first | (simp; done) | (simp; omega)))
  rw [set_held] at HF
  have HL2 := hid (HL1.out.trans hb2)
  rw [show (ss ++ [stZ] ++ (a.cod (ss.length + 1) ++ [stF (ss.length + 1) K])).length = K from by have := HK.out; first | (simp; done) | (simp; omega)] at d1
  have hy : Hid (((ss.length : Nat) : Int) + 1 = ((ss.length + 1 : Nat) : Int)) := by show _ = _; omega
  have hk : K ≤ 500 := by have := HK.out; omega
  clear h2 hb2 HL1 HP1 d0
  go_wp2_with fail
  rw [hy.out]
  refine Calls.mono HF.out ?_
  rintro e w3 ⟨rfl, h3, hb3⟩
  have H3 := hid h3
  have HL3 := hid (HL2.out.trans hb3)
  clear h3 hb3 HF
  go_wp2
  go_ret
  exact ⟨rfl, H3.out, HL3.out⟩
set_option maxHeartbeats 4000000 in
theorem or_any (ns : List Nd) (hl : ns.length ≤ 60) (b off cap i : Nat) (hi : i ≤ 60) (a c : Rx) (hP : BPart ns b off cap a (i + 1)) (hQ : BPart ns b off cap c (i + 1 + a.flat.length)) (hal : a.flat.length ≤ 60) (g : Nat) (ss : List St) (w : World) (hB : BB w g (.slice (some ⟨b, off, none⟩) ns.length cap) ss) (hbg : b < g) (hN : NsAt w b off ns) (hm : ss.length + 2 * a.flat.length + 2 * c.flat.length + 2 ≤ 500) (A C : List St) (p2 E : Nat) (hA : A = a.cod (ss.length + 1)) (hp2 : p2 = ss.length + 1 + A.length + 1) (hC : C = c.cod p2) (hE : E = p2 + C.length) :
    Calls Tryd.prog 47 #[.pointer (some ⟨g, 0, none⟩), .int .i64 (i : Int)] w fun e w' => e = .returned (.int .i64 ((i + 1 + a.flat.length + c.flat.length : Nat) : Int)) ∧ BB w' g (.slice (some ⟨b, off, none⟩) ns.length cap) (ss ++ stF (ss.length + 1) p2 :: (A ++ stF E E :: C)) ∧ Below g w w' := by
  have hcl := a.cod_len (ss.length + 1)
  have hcl2 := c.cod_len p2
  rw [← hA] at hcl
  rw [← hC] at hcl2
  have hpb : p2 ≤ 500 := by omega
  have hEb : E ≤ 500 := by omega
  have HH := hid (hold_any g _ ss w hB (by omega))
  have HN := hid hN
  have HP := hid hP
  have HQ := hid hQ
  have hx : Hid ((i : Int) + 1 = ((i + 1 : Nat) : Int)) := by show _ = _; omega
  have HE2 := hid hp2
  have HE3 := hid hE
  have HA := hid hA
  have HC := hid hC
  clear hB hN hP hQ hp2 hE hA hC
  go_enter Tryd.func47, Tryd.ntmps47
  go_wp2_with fail
  refine Calls.mono HH.out ?_
  rintro e w1 ⟨rfl, h1, hb1⟩
  have HP1 := hid (HP.out g (ss ++ [stZ]) w1 h1 hbg (HN.out.below hb1 hbg) (by simp; omega))
  have HL1 := hid hb1
  rw [show (ss ++ [stZ]).length = ss.length + 1 from by simp] at HP1
  clear h1 hb1 HH HP
  go_wp2_with fail
  rw [hx.out]
  refine Calls.mono HP1.out ?_
  rintro e w2 ⟨rfl, h2, hb2⟩
  rw [← HA.out] at h2
  obtain ⟨L, HL⟩ : ∃ L, Hid (L = ss.length + 1 + A.length) := ⟨_, Eq.refl _⟩
  have hLe : (ss ++ [stZ] ++ A).length = L := by rw [HL.out]; simp; omega
  have hLb : L ≤ 500 := by have := HL.out; omega
  have HH2 := hid (hold_any g _ _ w2 h2 (by omega))
  rw [hLe] at HH2
  have HL2 := hid (HL1.out.trans hb2)
  clear h2 hb2 HL1 HP1
  go_wp2_with fail
  refine Calls.mono HH2.out ?_
  rintro e w3 ⟨rfl, h3, hb3⟩
  have HF := hid (fork_any g _ _ ss.length (ss.length + 1) (L + 1) w3 h3 (by first | (simp; done) | (simp; omega)))
  rw [show ss ++ [stZ] ++ A ++ [stZ] = ss ++ [stZ] ++ (A ++ [stZ]) from by simp, set_held] at HF
  have HL3 := hid (HL2.out.trans hb3)
  have hy : Hid (((ss.length : Nat) : Int) + 1 = ((ss.length + 1 : Nat) : Int)) := by show _ = _; omega
  have hz : Hid (((L : Nat) : Int) + 1 = ((L + 1 : Nat) : Int)) := by show _ = _; omega
  have hsl : ss.length ≤ 500 := by omega
  clear h3 hb3 HL2 HH2
  go_wp2_with fail
  rw [hy.out, hz.out]
  refine Calls.mono HF.out ?_
  rintro e w4 ⟨rfl, h4, hb4⟩
  have HL4 := hid (HL3.out.trans hb4)
  have HP4 := hid (HQ.out g _ w4 h4 hbg (HN.out.below HL4.out hbg) (by have := HL.out; simp; omega))
  rw [show (ss ++ stF (ss.length + 1) (L + 1) :: (A ++ [stZ])).length = p2 from by have := HL.out; have := HE2.out; simp; omega] at HP4
  clear h4 hb4 HL3 HF HQ
  go_wp2_with fail
  refine Calls.mono HP4.out ?_
  rintro e w5 ⟨rfl, h5, hb5⟩
  rw [← HC.out] at h5
  have hLp : L + 1 = p2 := by have := HL.out; have := HE2.out; omega
  obtain ⟨a', cap', d0, d1⟩ := h5.read
  have HS : Hid ((ss ++ stF (ss.length + 1) (L + 1) :: (A ++ [stZ]) ++ C).set L (stF E E) = ss ++ stF (ss.length + 1) p2 :: (A ++ stF E E :: C)) := by
    show _ = _
    rw [show ss ++ stF (ss.length + 1) (L + 1) :: (A ++ [stZ]) ++ C = (ss ++ stF (ss.length + 1) p2 :: A) ++ stZ :: C from by rw [hLp]; simp]
    have hL2 : L = (ss ++ stF (ss.length + 1) p2 :: A).length := by have := HL.out; simp; omega
    rw [hL2, set_mid]
    simp
  have HL5 := hid (HL4.out.trans hb5)
  have HF5 : Hid (∀ W, Below w5.heap.size w5 W → Calls Tryd.prog 65 #[.pointer (some ⟨g, 0, none⟩), .int .i64 (L : Int), .int .i64 (E : Int), .int .i64 (E : Int)] W fun e w' => e = .returned (.tuple #[]) ∧ BB w' g (.slice (some ⟨b, off, none⟩) ns.length cap) (ss ++ stF (ss.length + 1) p2 :: (A ++ stF E E :: C)) ∧ Below g w w') := by
    intro W hW
    have hf := fork_any g _ _ L E E W (h5.below hW) (by have := HL.out; simp; omega)
    rw [HS.out] at hf
    refine hf.mono ?_
    rintro e w' ⟨rfl, h6, hb6⟩
    exact ⟨rfl, h6, (HL5.out.trans (hW.mono (Nat.le_of_lt h5.lt))).trans hb6⟩
  rw [show (ss ++ stF (ss.length + 1) (L + 1) :: (A ++ [stZ]) ++ C).length = E from by have := HL.out; have := HE3.out; simp; omega] at d1
  clear h5 hb5 HL4 HP4 d0 HS hLp hLe HL5
  go_wp2_with fail
  go_region_with (go_at_call 65; refine Calls.mono (HF5.out _ (below_drewN' w5 1)) ?_; rintro e w6 ⟨rfl, h6, hb6⟩)
  all_goals have H6 := hid h6
  all_goals have HL6 := hid hb6
  all_goals clear h6 hb6 HF5
  all_goals go_wp2
  all_goals go_ret
  all_goals refine ⟨?_, H6.out, HL6.out⟩
  all_goals first | rfl | (congr 1; simp; done) | trace_state
end Go.Proofs.YtgnmlnfddcnkbaaDoor
namespace Go.Proofs.YtgnmlnfddcnkbaaDoor
set_option linter.unusedSimpArgs false
set_option linter.unusedVariables false
set_option maxRecDepth 100000
open Go.RowKit

/-- So many parts are missing: how many nodes they are, and whether all are there. -/
def beh : List Nd → Nat → Nat × Bool
  | _, 0 => (0, true)
  | [], _ + 1 => (0, false)
  | n :: r, m + 1 => ((beh r (m + prt n.op)).1 + 1, (beh r (m + prt n.op)).2)
theorem beh_zero (l : List Nd) : beh l 0 = (0, true) := by cases l <;> rfl
theorem beh_flat : ∀ (t : Rx), t.Ok → ∀ (q : List Nd) (m : Nat), beh (t.flat ++ q) (m + 1) = ((beh q m).1 + t.flat.length, (beh q m).2)
  | .leaf n, h, q, m => by
    have h0 : prt n.op = 0 := h
    simp [Rx.flat, beh, h0]
  | .one n a, h, q, m => by
    have ih := beh_flat a h.2 q m
    simp [Rx.flat, beh, h.1, ih]; omega
  | .two n a b, h, q, m => by
    have ih := beh_flat a h.2.1 (b.flat ++ q) (m + 1)
    have ih2 := beh_flat b h.2.2 q m
    rw [ih2] at ih
    simp only [Rx.flat, List.cons_append, List.append_assoc, beh, h.1, ih, List.length_cons, List.length_append]
    refine Prod.ext ?_ rfl
    simp only
    omega
theorem beh_le : ∀ (l : List Nd) (m : Nat), (beh l m).1 ≤ l.length
  | l, 0 => by rw [beh_zero]; simp
  | [], m + 1 => by simp [beh]
  | n :: r, m + 1 => by
    have := beh_le r (m + prt n.op)
    simp [beh]; omega
theorem beh_trees : ∀ (l : List Nd) (m : Nat), (beh l m).2 = true → ∃ (ts : List Rx) (q : List Nd), ts.length = m ∧ (∀ t ∈ ts, t.Ok) ∧ l = (ts.map Rx.flat).flatten ++ q ∧ (beh l m).1 = (ts.map Rx.flat).flatten.length
  | l, 0, h => ⟨[], l, rfl, by simp, by simp, by rw [beh_zero]; rfl⟩
  | [], m + 1, h => by simp [beh] at h
  | n :: r, m + 1, h => by
    simp only [beh] at h
    obtain ⟨ts, q, hl, hok, he, hk⟩ := beh_trees r (m + prt n.op) h
    have hp := prt_le n.op
    have h3 : prt n.op = 0 ∨ prt n.op = 1 ∨ prt n.op = 2 := by omega
    rcases h3 with h0 | h0 | h0
    · refine ⟨.leaf n :: ts, q, by simp; omega, ?_, by simp [he, Rx.flat], by simp [beh, hk, Rx.flat]⟩
      intro t ht
      rcases List.mem_cons.1 ht with rfl | ht
      · exact h0
      · exact hok t ht
    · match ts, hl, hok, he, hk with
      | [], hl, _, _, _ => simp at hl; omega
      | a :: ts, hl, hok, he, hk =>
        refine ⟨.one n a :: ts, q, by simp at hl ⊢; omega, ?_, by simp [he, Rx.flat], by simp [beh, hk, Rx.flat]⟩
        intro t ht
        rcases List.mem_cons.1 ht with rfl | ht
        · exact ⟨h0, hok a (by simp)⟩
        · exact hok t (by simp [ht])
    · match ts, hl, hok, he, hk with
      | [], hl, _, _, _ => simp at hl; omega
      | [a], hl, _, _, _ => simp at hl; omega
      | a :: b :: ts, hl, hok, he, hk =>
        refine ⟨.two n a b :: ts, q, by simp at hl ⊢; omega, ?_, by simp [he, Rx.flat], by simp [beh, hk, Rx.flat]⟩
        intro t ht
        rcases List.mem_cons.1 ht with rfl | ht
        · exact ⟨h0, hok a (by simp), hok b (by simp)⟩
        · exact hok t (by simp [ht])
theorem beh_end (ns : List Nd) (h : (beh ns 1).2 = true) : endE ns 0 = some (beh ns 1).1 := by
  obtain ⟨ts, q, hl, hok, he, hk⟩ := beh_trees ns 1 h
  match ts, hl, hok, he, hk with
  | [t], hl, hok, he, hk =>
    have e : ns = t.flat ++ q := by simpa using he
    have e2 : (beh ns 1).1 = t.flat.length := by simpa using hk
    have := endE_mid t (hok t (by simp)) [] q
    rw [e2, e]
    simpa using this
theorem end_beh (ns : List Nd) (f i j : Nat) (h : endF ns f i = some j) : (beh (ns.drop i) 1).2 = true ∧ i + (beh (ns.drop i) 1).1 = j := by
  obtain ⟨t, ht, q, e, ej⟩ := part_tree ns f i j h
  have := beh_flat t ht q 0
  rw [e, this, beh_zero]
  refine ⟨rfl, ?_⟩
  simp only
  omega
/-- The fault of nodes that are fine one by one. -/
theorem fault_beh (ns : List Nd) (h60 : ¬ 60 < ns.length) (h0 : scanL ns = 0) : faultL ns = if (beh ns 1).2 = true ∧ ns.length ≤ (beh ns 1).1 then 0 else 2 := by
  rw [faultL, if_neg h60, h0, if_neg (by simp)]
  by_cases h : (beh ns 1).2 = true ∧ ns.length ≤ (beh ns 1).1
  · have e := beh_end ns h.1
    have hl := beh_le ns 1
    have e2 : (beh ns 1).1 = ns.length := by omega
    rw [e2] at e
    have hne : ns ≠ [] := by rintro rfl; rw [endE_nil] at e; cases e
    rw [if_pos h, if_neg (by simp [e, hne])]
  · rw [if_neg h, if_pos]
    refine Or.inr fun e => h ?_
    have := end_beh ns _ 0 _ e
    rw [List.drop_zero] at this
    exact ⟨this.1, by omega⟩
/-- Each node of a valid pattern begins a part. -/
theorem tree_sub : ∀ (t : Rx), t.Ok → ∀ i, i < t.flat.length → ∃ s : Rx, s.Ok ∧ ∃ q, t.flat.drop i = s.flat ++ q
  | t, ht, 0, _ => ⟨t, ht, [], by simp⟩
  | .leaf n, ht, i + 1, h => by simp [Rx.flat] at h
  | .one n a, ht, i + 1, h => by
    obtain ⟨s, hs, q, e⟩ := tree_sub a ht.2 i (by simp [Rx.flat] at h; omega)
    exact ⟨s, hs, q, by simpa [Rx.flat] using e⟩
  | .two n a b, ht, i + 1, h => by
    by_cases hi : i < a.flat.length
    · obtain ⟨s, hs, q, e⟩ := tree_sub a ht.2.1 i hi
      refine ⟨s, hs, q ++ b.flat, ?_⟩
      simp only [Rx.flat, List.drop_succ_cons]
      rw [List.drop_append_of_le_length (by omega), e, List.append_assoc]
    · obtain ⟨s, hs, q, e⟩ := tree_sub b ht.2.2 (i - a.flat.length) (by simp [Rx.flat] at h; omega)
      refine ⟨s, hs, q, ?_⟩
      simp only [Rx.flat, List.drop_succ_cons]
      rw [List.drop_append, List.drop_eq_nil_of_le (by omega), List.nil_append, e]
theorem part_at (ns : List Nd) (hv : endE ns 0 = some ns.length) (i : Nat) (hi : i < ns.length) : ∃ j, endE ns i = some j := by
  obtain ⟨t, ht, rfl⟩ := tree_of ns hv
  obtain ⟨s, hs, q, e⟩ := tree_sub t ht i hi
  have h := endE_mid s hs (t.flat.take i) q
  have e1 : (t.flat.take i).length = i := by simp; omega
  have e2 : t.flat.take i ++ s.flat ++ q = t.flat := by rw [List.append_assoc, ← e, List.take_append_drop]
  rw [e1, e2] at h
  exact ⟨_, h⟩
theorem beh_step (ns : List Nd) (i m : Nat) (n : Nd) (hn : ns[i]? = some n) : beh (ns.drop i) (m + 1) = ((beh (ns.drop (i + 1)) (m + prt n.op)).1 + 1, (beh (ns.drop (i + 1)) (m + prt n.op)).2) := by
  have hi : i < ns.length := by
    rcases Nat.lt_or_ge i ns.length with h | h
    · exact h
    · rw [List.getElem?_eq_none h] at hn; cases hn
  rw [List.drop_eq_getElem_cons hi]
  rw [List.getElem?_eq_getElem hi] at hn
  rw [Option.some.inj hn, beh]
end Go.Proofs.YtgnmlnfddcnkbaaDoor
namespace Go.Proofs.YtgnmlnfddcnkbaaDoor
set_option linter.unusedSimpArgs false
set_option linter.unusedVariables false
set_option maxRecDepth 100000
open Go.RowKit

set_option maxHeartbeats 400000 in
theorem rparts_any (op : Int) (w : World) :
    Calls Tryd.prog 63 #[.int .i64 op] w fun e w' => e = .returned (.int .i64 (prt op)) ∧ w' = w := by
  by_cases h3 : op = 3
  · subst h3
    go_enter Tryd.func63, Tryd.ntmps63
    go_wp2
    go_ret
    exact ⟨rfl, rfl⟩
  by_cases h4 : op = 4
  · subst h4
    go_enter Tryd.func63, Tryd.ntmps63
    go_wp2
    go_ret
    exact ⟨rfl, rfl⟩
  by_cases h5 : op = 5
  · subst h5
    go_enter Tryd.func63, Tryd.ntmps63
    go_wp2
    go_ret
    exact ⟨rfl, rfl⟩
  by_cases h6 : op = 6
  · subst h6
    go_enter Tryd.func63, Tryd.ntmps63
    go_wp2
    go_ret
    exact ⟨rfl, rfl⟩
  by_cases h7 : op = 7
  · subst h7
    go_enter Tryd.func63, Tryd.ntmps63
    go_wp2
    go_ret
    exact ⟨rfl, rfl⟩
  have b3 : (op == 3) = false := by simp [h3]
  have b4 : (op == 4) = false := by simp [h4]
  have b5 : (op == 5) = false := by simp [h5]
  have b6 : (op == 6) = false := by simp [h6]
  have b7 : (op == 7) = false := by simp [h7]
  have e0 : prt op = 0 := by unfold prt; simp [h3, h4, h5, h6, h7]
  rw [e0]
  clear h3 h4 h5 h6 h7 e0
  go_enter Tryd.func63, Tryd.ntmps63
  go_wp2
  go_ret
  exact ⟨rfl, rfl⟩
set_option maxHeartbeats 1000000 in
theorem behind_at (ns : List Nd) (b off cap i : Nat) (hm : ns.length ≤ maxLen) (hm2 : ns.length ≤ 2 ^ 62) (hi : i ≤ ns.length) (w : World) (hN : NsAt w b off ns) :
    Calls Tryd.prog 46 #[.slice (some ⟨b, off, none⟩) ns.length cap, .int .i64 i] w fun e w' => e = .returned (.tuple #[.int .i64 (i + (beh (ns.drop i) 1).1 : Nat), .bool (beh (ns.drop i) 1).2]) ∧ w' = w := by
  unfold maxLen at hm
  obtain ⟨k, x, HK, HX⟩ : ∃ k x, Hid (i + (beh (ns.drop i) 1).1 = k) ∧ Hid ((beh (ns.drop i) 1).2 = x) := ⟨_, _, Eq.refl _, Eq.refl _⟩
  rw [HK.out, HX.out]
  go_enter Tryd.func46, Tryd.ntmps46
  go_wp2_with fail
  go_loop [1, 6] (fun v u => ∃ (j m : Nat), j ≤ ns.length ∧ m ≤ j + 1 ∧ v = .int .i64 j ∧ u = .int .i64 m ∧ Hid (j + (beh (ns.drop j) m).1 = k) ∧ Hid ((beh (ns.drop j) m).2 = x)) (fun v _ => ns.length - (intOf v).toNat)
  case atStart => exact ⟨i, 1, by omega, by omega, rfl, rfl, HK, HX⟩
  case round =>
    obtain ⟨j, m, hj, hmj, rfl, rfl, H1, H2⟩ := hrel
    clear HK HX
    cases m with
    | zero =>
      rw [beh_zero] at H1 H2
      obtain rfl := H1.out
      obtain rfl := H2.out
      clear H1 H2
      go_wp2
      go_ret2
      exact ⟨rfl, rfl⟩
    | succ m =>
      have m0 : (0 : Int) < ((m + 1 : Nat) : Int) := by omega
      by_cases hl : j < ns.length
      · obtain ⟨n, hn⟩ : ∃ n, ns[j]? = some n := ⟨ns[j], List.getElem?_eq_getElem hl⟩
        obtain ⟨c0, _⟩ := hN j n hn
        have hp := prt_le n.op
        have i0 : (0 : Int) ≤ (j : Int) := by omega
        have i1 : (j : Int) < (ns.length : Int) := by omega
        rw [beh_step ns j m n hn] at H1 H2
        have H3 : Hid (j + 1 + (beh (ns.drop (j + 1)) (m + prt n.op)).1 = k) := by show _ = _; rw [← H1.out]; simp only; omega
        have H4 : Hid ((beh (ns.drop (j + 1)) (m + prt n.op)).2 = x) := H2.out
        clear hn H1 H2
        go_wp2_with fail
        refine (rparts_any _ _).mono ?_
        rintro e w1 ⟨rfl, rfl⟩
        generalize prt n.op = pr at *
        go_wp2
        refine ⟨⟨j + 1, m + pr, by omega, by omega, by go_num, ?_, H3, H4⟩, by simp [intOf]; omega⟩
        rw [show (m : Int) + 1 + ((pr : Int) - 1) = ((m + pr : Nat) : Int) from by omega]
      · have hj2 : j = ns.length := by omega
        have i1 : ¬ (j : Int) < (ns.length : Int) := by omega
        have d0 : ns.drop j = [] := List.drop_eq_nil_of_le (by omega)
        rw [d0] at H1 H2
        obtain rfl := H1.out
        obtain rfl := H2.out
        have m1 : (((m + 1 : Nat) : Int) == 0) = false := by rw [beq_eq_false_iff_ne]; omega
        clear H1 H2
        go_wp2
        go_ret2
        exact ⟨rfl, rfl⟩
theorem behind_any (ns : List Nd) (v : Value) (i : Nat) (w : World) (hN : NsIn w v ns) (hm2 : ns.length ≤ 2 ^ 62) (hi : i < ns.length) :
    Calls Tryd.prog 46 #[v, .int .i64 i] w fun e w' => e = .returned (.tuple #[.int .i64 (i + (beh (ns.drop i) 1).1 : Nat), .bool (beh (ns.drop i) 1).2]) ∧ w' = w := by
  obtain ⟨a, cap, rfl, hm, h | ⟨b, off, rfl, hlt, hn⟩⟩ := hN
  · subst h
    simp at hi
  · exact behind_at ns b off cap i hm hm2 (by omega) w hn
set_option maxHeartbeats 1000000 in
theorem behind_nil (a : Option Addr) (cap : Nat) (w : World) :
    Calls Tryd.prog 46 #[.slice a 0 cap, .int .i64 0] w fun e w' => e = .returned (.tuple #[.int .i64 0, .bool false]) ∧ w' = w := by
  go_enter Tryd.func46, Tryd.ntmps46
  go_wp2_with fail
  go_loop [1, 6] (fun v u => v = .int .i64 0 ∧ u = .int .i64 1) (fun _ _ => 0)
  case atStart => exact ⟨rfl, rfl⟩
  case round =>
    obtain ⟨rfl, rfl⟩ := hrel
    go_wp2
    go_ret2
    exact ⟨rfl, rfl⟩
set_option maxHeartbeats 1000000 in
theorem checkNode_any (n : Nd) (w : World) :
    Calls Tryd.prog 45 #[n.v] w fun e w' => e = .returned (errV (scanL [n])) ∧ Below w.heap.size w w' := by
  by_cases h1 : n.op < 1
  · have HF : Hid (scanL [n] = 1) := by show _ = _; rw [scanL, if_pos (Or.inl h1)]
    go_enter Tryd.func45, Tryd.ntmps45
    go_wp2
    go_ret
    exact ⟨by rw [HF.out]; rfl, Below.alloc (Below.refl _ _) (Nat.le_refl _) _⟩
  by_cases h9 : 9 < n.op
  · have HF : Hid (scanL [n] = 1) := by show _ = _; rw [scanL, if_pos (Or.inr h9)]
    go_enter Tryd.func45, Tryd.ntmps45
    go_wp2
    go_ret
    exact ⟨by rw [HF.out]; rfl, Below.alloc (Below.refl _ _) (Nat.le_refl _) _⟩
  by_cases hb : n.op = 1
  · have HF : Hid (scanL [n] = 0) := by show _ = _; rw [scanL, if_neg (by omega), if_neg (by simp [hb])]; rfl
    have hb2 : (n.op != 1) = false := by simp [hb]
    clear hb
    go_enter Tryd.func45, Tryd.ntmps45
    go_wp2
    go_ret
    exact ⟨by rw [HF.out]; rfl, Below.alloc (Below.refl _ _) (Nat.le_refl _) _⟩
  have hb2 : (n.op != 1) = true := by simp [hb]
  by_cases hz : n.c.eqb z4 = true
  · have HF : Hid (scanL [n] = 0) := by show _ = _; rw [scanL, if_neg (by omega), if_neg (by simp [hz])]; rfl
    clear hb
    have he : ∀ w, (Op.equalIn 10000 30 (.agg #[.int .u64 n.c.a, .int .u64 n.c.b, .int .u64 n.c.c, .int .u64 n.c.d]) (.agg #[.int .u64 0, .int .u64 0, .int .u64 0, .int .u64 0])).run Tryd.prog w = .ok true w := fun w => (eq4 n.c z4 w).trans (by rw [hz])
    go_enter Tryd.func45, Tryd.ntmps45
    go_wp2
    go_ret
    exact ⟨by rw [HF.out]; rfl, Below.alloc (Below.refl _ _) (Nat.le_refl _) _⟩
  · have HF : Hid (scanL [n] = 2) := by show _ = _; rw [scanL, if_neg (by omega), if_pos ⟨hb, hz⟩]
    clear hb
    have he : ∀ w, (Op.equalIn 10000 30 (.agg #[.int .u64 n.c.a, .int .u64 n.c.b, .int .u64 n.c.c, .int .u64 n.c.d]) (.agg #[.int .u64 0, .int .u64 0, .int .u64 0, .int .u64 0])).run Tryd.prog w = .ok false w := fun w => (eq4 n.c z4 w).trans (by rw [Bool.eq_false_iff.2 hz])
    go_enter Tryd.func45, Tryd.ntmps45
    go_wp2
    go_ret
    exact ⟨by rw [HF.out]; rfl, Below.alloc (Below.refl _ _) (Nat.le_refl _) _⟩
end Go.Proofs.YtgnmlnfddcnkbaaDoor
namespace Go.Proofs.YtgnmlnfddcnkbaaDoor
set_option linter.unusedSimpArgs false
set_option linter.unusedVariables false
set_option maxRecDepth 100000
open Go.RowKit

theorem scan_one (n : Nd) : scanL [n] = if n.op < 1 ∨ 9 < n.op then 1 else if ¬ n.op = 1 ∧ ¬ n.c.eqb z4 = true then 2 else 0 := by
  rw [scanL]; rfl
set_option maxHeartbeats 4000000 in
theorem check_at (ns : List Nd) (b off cap : Nat) (hm : ns.length ≤ maxLen) (w : World) (hlt : b < w.heap.size) (hN : NsAt w b off ns) (h0 : 0 < ns.length) :
    Calls Tryd.prog 21 #[.slice (some ⟨b, off, none⟩) ns.length cap] w fun e w' => e = .returned (errV (faultL ns)) ∧ Below w.heap.size w w' := by
  have HM := (show Hid _ from hm)
  unfold maxLen at hm
  by_cases h60 : 60 < ns.length
  · have g60 : (60 : Int) < (ns.length : Int) := by omega
    have HF : Hid (faultL ns = 3) := by show _ = _; rw [faultL, if_pos h60]
    go_enter Tryd.func21, Tryd.ntmps21
    go_wp2
    go_ret
    exact ⟨by rw [HF.out]; rfl, Below.refl _ _⟩
  · have g60 : ¬ (60 : Int) < (ns.length : Int) := by omega
    go_enter Tryd.func21, Tryd.ntmps21
    go_wp2
    go_loopw [14] (fun v wr => ∃ i : Nat, i ≤ ns.length ∧ v = .int .i64 i ∧ Hid (scanL ns = scanL (ns.drop i)) ∧ Below w.heap.size w wr) (fun v _ => ns.length - (intOf v).toNat)
    case atStart => exact ⟨0, by omega, rfl, Eq.refl _, Below.refl _ _⟩
    case round =>
      obtain ⟨i, hi, rfl, HS, hB⟩ := hrel
      have hNr := hN.below hB hlt
      by_cases hil : i < ns.length
      · obtain ⟨n, hn⟩ : ∃ n, ns[i]? = some n := ⟨ns[i], List.getElem?_eq_getElem hil⟩
        obtain ⟨c0, c1, c2, c3, c4⟩ := hNr i n hn
        have HD : Hid _ := scan_drop ns i n hn
        have H1 : Hid _ := scan_one n
        have i0 : (0 : Int) ≤ (i : Int) := by omega
        have i1 : (i : Int) < (ns.length : Int) := by omega
        clear hn
        have hcn := checkNode_any n
        go_wp2_with fail
        refine (hcn _).mono ?_
        rintro e w1 ⟨rfl, hb1⟩
        have hB1 : Below w.heap.size w w1 := hB.trans ((Below.alloc (Below.refl _ _) (Nat.le_refl _) _).trans (hb1.mono (by simp)) |>.mono hB.size)
        clear hb1 hcn
        by_cases hs : scanL [n] = 0
        · have HS2 : Hid (scanL ns = scanL (ns.drop (i + 1))) := by
            show _ = _
            rw [HS.out, HD.out]
            rw [H1.out] at hs
            split
            · rename_i h; rw [if_pos h] at hs; cases hs
            · rename_i h
              rw [if_neg h] at hs
              split
              · rename_i h2; rw [if_pos h2] at hs; cases hs
              · rfl
          rw [hs, show errV 0 = .nilIface from rfl]
          clear hs HD H1 HS
          go_wp2
          exact ⟨⟨i + 1, by omega, by go_num, HS2, hB1⟩, by simp [intOf]; omega⟩
        · have HF : Hid (faultL ns = scanL [n]) := by
            show _ = _
            have e1 : scanL ns = scanL [n] := by
              rw [HS.out, HD.out]
              rw [H1.out] at hs ⊢
              split
              · rfl
              · rename_i h
                rw [if_neg h] at hs
                split
                · rfl
                · rename_i h2; rw [if_neg h2] at hs; exact absurd rfl hs
            rw [faultL, if_neg h60, e1, if_pos hs]
          rw [show errV (scanL [n]) = .iface 45 (.int .i64 (scanL [n])) from if_neg hs]
          have HE : Hid (errV (faultL ns) = .iface 45 (.int .i64 (scanL [n]))) := by show _ = _; rw [HF.out]; exact if_neg hs
          clear hs HD H1 HS HF
          generalize scanL [n] = er at *
          go_wp2
          go_ret
          exact ⟨by rw [HE.out]; rfl, hB1⟩
      · have hi2 : i = ns.length := by omega
        have e0 : scanL ns = 0 := by rw [HS.out, List.drop_eq_nil_of_le (by omega)]; rfl
        have HF : Hid _ := fault_beh ns h60 e0
        have HC : Hid (Calls Tryd.prog 46 #[.slice (some ⟨b, off, none⟩) ns.length cap, .int .i64 0] wr fun e w' => e = .returned (.tuple #[.int .i64 ((beh ns 1).1 : Nat), .bool (beh ns 1).2]) ∧ w' = wr) := by
          have := behind_at ns b off cap 0 HM.out (by omega) (by omega) wr hNr
          rw [List.drop_zero, Nat.zero_add] at this
          exact this
        subst hi2
        have hkl := beh_le ns 1
        clear e0 HS
        generalize beh ns 1 = x at *
        obtain ⟨k, y⟩ := x
        simp only at HC HF hkl
        go_wp2_with fail
        refine HC.out.mono ?_
        rintro e w1 ⟨rfl, rfl⟩
        cases y with
        | false =>
          have HF2 : Hid (faultL ns = 2) := by show _ = _; rw [HF.out]; rfl
          clear HF HC
          go_wp2
          go_ret
          exact ⟨by rw [HF2.out]; rfl, hB⟩
        | true =>
          by_cases hk : k < ns.length
          · have HF2 : Hid (faultL ns = 2) := by show _ = _; rw [HF.out, if_neg (by simp; omega)]
            have hk2 : (k : Int) < (ns.length : Int) := by omega
            clear HF HC
            go_wp2
            go_ret
            exact ⟨by rw [HF2.out]; rfl, hB⟩
          · have HF2 : Hid (faultL ns = 0) := by show _ = _; rw [HF.out, if_pos (by simp; omega)]
            have hk2 : ¬ (k : Int) < (ns.length : Int) := by omega
            clear HF HC
            go_wp2
            go_ret
            exact ⟨by rw [HF2.out]; rfl, hB⟩
set_option maxHeartbeats 1000000 in
theorem check_nil (a : Option Addr) (cap : Nat) (w : World) :
    Calls Tryd.prog 21 #[.slice a 0 cap] w fun e w' => e = .returned (errV 2) ∧ Below w.heap.size w w' := by
  go_enter Tryd.func21, Tryd.ntmps21
  go_wp2_with fail
  go_loop [14] (fun v => v = .int .i64 0) (fun _ => 0)
  case atStart => rfl
  case round =>
    subst hrel
    go_wp2_with fail
    refine (behind_nil a cap w).mono ?_
    rintro e w1 ⟨rfl, rfl⟩
    go_wp2
    go_ret
    exact ⟨rfl, Below.refl _ _⟩
theorem rcheck_any (ns : List Nd) (v : Value) (w : World) (hN : NsIn w v ns) :
    Calls Tryd.prog 21 #[v] w fun e w' => e = .returned (errV (faultL ns)) ∧ Below w.heap.size w w' := by
  obtain ⟨a, cap, rfl, hm, h | ⟨b, off, rfl, hlt, hn⟩⟩ := hN
  · subst h
    exact check_nil a cap w
  · by_cases h0 : 0 < ns.length
    · exact check_at ns b off cap hm w hlt hn h0
    · have : ns = [] := List.eq_nil_of_length_eq_zero (by omega)
      subst this
      exact check_nil _ cap w
theorem behind_k (ns : List Nd) (b off cap : Nat) (hm : ns.length ≤ 60) (w : World) (hN : NsAt w b off ns) (i f k : Nat) (h : endF ns f i = some k) :
    Calls Tryd.prog 46 #[.slice (some ⟨b, off, none⟩) ns.length cap, .int .i64 i] w fun e w' => e = .returned (.tuple #[.int .i64 k, .bool true]) ∧ w' = w := by
  have g := endF_gt ns f i k h
  have h1 := behind_at ns b off cap i (by unfold maxLen; omega) (by omega) (by omega) w hN
  obtain ⟨e1, e2⟩ := end_beh ns f i k h
  rw [e1, e2] at h1
  exact h1
end Go.Proofs.YtgnmlnfddcnkbaaDoor
namespace Go.Proofs.YtgnmlnfddcnkbaaDoor
set_option linter.unusedSimpArgs false
set_option linter.unusedVariables false
set_option maxRecDepth 100000
open Go.RowKit
set_option maxHeartbeats 4000000 in
theorem part_one (ns : List Nd) (hl : ns.length ≤ 60) (b off cap i : Nat) (n : Nd) (a : Rx) (hn : ns[i]? = some n) (hi : i < ns.length) (hop : n.op = 5 ∨ n.op = 6 ∨ n.op = 7) (hP : BPart ns b off cap a (i + 1)) : BPart ns b off cap (.one n a) i := by
  intro g ss w hB hbg hN hm
  have hml : ss.length ≤ 500 := by omega
  obtain ⟨c0, c1, c2, c3, c4⟩ := hN i n hn
  obtain ⟨x', cap', d0, d1⟩ := hB.read
  have i0 : (0 : Int) ≤ (i : Int) := by omega
  have i1 : (i : Int) < (ns.length : Int) := by omega
  have hfl : (Rx.one n a).flat.length = 1 + a.flat.length := by simp [Rx.flat]; omega
  have HL : Hid ((i + (Rx.one n a).flat.length : Nat) = i + 1 + a.flat.length) := by show _ = _; rw [hfl]; omega
  rw [HL.out]
  rcases hop with hop | hop | hop
  · have HC : Hid ((Rx.one n a).cod ss.length = stF (ss.length + 1) (ss.length + 1 + (a.cod (ss.length + 1)).length + 1) :: (a.cod (ss.length + 1) ++ [stF (ss.length + 1) (ss.length + 1 + (a.cod (ss.length + 1)).length + 1)])) := by show _ = _; simp [Rx.cod, hop]
    have HA := hid (star_any ns hl b off cap i (by omega) a hP g ss w hB hbg hN (by omega) _ rfl)
    rw [hop] at c0
    rw [HC.out]
    clear hN hB hP HC HL hfl
    go_enter Tryd.func22, Tryd.ntmps22
    go_wp2_with fail
    refine Calls.mono HA.out ?_
    rintro e w1 ⟨rfl, h1, hb1⟩
    have H1 := hid h1
    have HB1 := hid hb1
    clear h1 hb1 HA
    go_wp2
    go_ret
    exact ⟨rfl, H1.out, HB1.out⟩
  · have HC : Hid ((Rx.one n a).cod ss.length = a.cod ss.length ++ [stF ss.length (ss.length + (a.cod ss.length).length + 1)]) := by show _ = _; simp [Rx.cod, hop]
    have HA := hid (plus_any ns hl b off cap i (by omega) a hP g ss w hB hbg hN (by omega))
    rw [hop] at c0
    rw [HC.out]
    clear hN hB hP HC HL hfl
    go_enter Tryd.func22, Tryd.ntmps22
    go_wp2_with fail
    refine Calls.mono HA.out ?_
    rintro e w1 ⟨rfl, h1, hb1⟩
    have H1 := hid h1
    have HB1 := hid hb1
    clear h1 hb1 HA
    go_wp2
    go_ret
    exact ⟨rfl, H1.out, HB1.out⟩
  · have HC : Hid ((Rx.one n a).cod ss.length = stF (ss.length + 1) (ss.length + 1 + (a.cod (ss.length + 1)).length) :: a.cod (ss.length + 1)) := by show _ = _; simp [Rx.cod, hop]
    have HA := hid (opt_any ns hl b off cap i (by omega) a hP g ss w hB hbg hN (by omega) _ rfl)
    rw [hop] at c0
    rw [HC.out]
    clear hN hB hP HC HL hfl
    go_enter Tryd.func22, Tryd.ntmps22
    go_wp2_with fail
    refine Calls.mono HA.out ?_
    rintro e w1 ⟨rfl, h1, hb1⟩
    have H1 := hid h1
    have HB1 := hid hb1
    clear h1 hb1 HA
    go_wp2
    go_ret
    exact ⟨rfl, H1.out, HB1.out⟩
set_option maxHeartbeats 4000000 in
theorem part_or (ns : List Nd) (hl : ns.length ≤ 60) (b off cap i : Nat) (n : Nd) (a c : Rx) (hn : ns[i]? = some n) (hi : i < ns.length) (hop : n.op = 4) (hal : a.flat.length ≤ 60) (hP : BPart ns b off cap a (i + 1)) (hQ : BPart ns b off cap c (i + 1 + a.flat.length)) : BPart ns b off cap (.two n a c) i := by
  intro g ss w hB hbg hN hm
  have hml : ss.length ≤ 500 := by omega
  obtain ⟨c0, c1, c2, c3, c4⟩ := hN i n hn
  obtain ⟨x', cap', d0, d1⟩ := hB.read
  have i0 : (0 : Int) ≤ (i : Int) := by omega
  have i1 : (i : Int) < (ns.length : Int) := by omega
  have hfl : (Rx.two n a c).flat.length = 1 + a.flat.length + c.flat.length := by simp [Rx.flat]; omega
  have HL : Hid ((i + (Rx.two n a c).flat.length : Nat) = i + 1 + a.flat.length + c.flat.length) := by show _ = _; rw [hfl]; omega
  rw [HL.out]
  · have HA := hid (or_any ns hl b off cap i (by omega) a c hP hQ hal g ss w hB hbg hN (by omega) _ _ _ _ rfl rfl rfl rfl)
    have HC : Hid ((Rx.two n a c).cod ss.length = stF (ss.length + 1) (ss.length + 1 + (a.cod (ss.length + 1)).length + 1) :: (a.cod (ss.length + 1) ++ (stF (ss.length + 1 + (a.cod (ss.length + 1)).length + 1 + (c.cod (ss.length + 1 + (a.cod (ss.length + 1)).length + 1)).length) (ss.length + 1 + (a.cod (ss.length + 1)).length + 1 + (c.cod (ss.length + 1 + (a.cod (ss.length + 1)).length + 1)).length) :: c.cod (ss.length + 1 + (a.cod (ss.length + 1)).length + 1)))) := by show _ = _; simp [Rx.cod, hop]
    rw [hop] at c0
    rw [HC.out]
    clear hN hB hP hQ HC HL hfl
    go_enter Tryd.func22, Tryd.ntmps22
    go_wp2_with fail
    refine Calls.mono HA.out ?_
    rintro e w1 ⟨rfl, h1, hb1⟩
    have H1 := hid h1
    have HB1 := hid hb1
    clear h1 hb1 HA
    go_wp2
    go_ret
    exact ⟨rfl, H1.out, HB1.out⟩
set_option maxHeartbeats 4000000 in
theorem part_cat (ns : List Nd) (hl : ns.length ≤ 60) (b off cap i : Nat) (n : Nd) (a c : Rx) (hn : ns[i]? = some n) (hi : i < ns.length) (hop : n.op = 3) (hal : a.flat.length ≤ 60) (hP : BPart ns b off cap a (i + 1)) (hQ : BPart ns b off cap c (i + 1 + a.flat.length)) : BPart ns b off cap (.two n a c) i := by
  intro g ss w hB hbg hN hm
  have hml : ss.length ≤ 500 := by omega
  obtain ⟨c0, c1, c2, c3, c4⟩ := hN i n hn
  obtain ⟨x', cap', d0, d1⟩ := hB.read
  have i0 : (0 : Int) ≤ (i : Int) := by omega
  have i1 : (i : Int) < (ns.length : Int) := by omega
  have hfl : (Rx.two n a c).flat.length = 1 + a.flat.length + c.flat.length := by simp [Rx.flat]; omega
  have HL : Hid ((i + (Rx.two n a c).flat.length : Nat) = i + 1 + a.flat.length + c.flat.length) := by show _ = _; rw [hfl]; omega
  rw [HL.out]
  have hcl := a.cod_len ss.length
  have HA := hid (hP g ss w hB hbg hN (by omega))
  have HC : Hid ((Rx.two n a c).cod ss.length = a.cod ss.length ++ c.cod (ss.length + (a.cod ss.length).length)) := by show _ = _; simp [Rx.cod, hop]
  have hx : Hid ((i : Int) + 1 = ((i + 1 : Nat) : Int)) := by show _ = _; omega
  have HN := hid hN
  have HQ := hid hQ
  rw [hop] at c0
  rw [HC.out]
  clear hN hB hP hQ HC HL
  go_enter Tryd.func22, Tryd.ntmps22
  go_wp2_with fail
  rw [hx.out]
  refine Calls.mono HA.out ?_
  rintro e w1 ⟨rfl, h1, hb1⟩
  have HQ1 := hid (HQ.out g _ w1 h1 hbg (HN.out.below hb1 hbg) (by rw [List.length_append]; omega))
  rw [List.length_append, List.append_assoc] at HQ1
  have HB1 := hid hb1
  clear h1 hb1 HA HQ HN
  go_wp2_with fail
  refine Calls.mono HQ1.out ?_
  rintro e w2 ⟨rfl, h2, hb2⟩
  have H2 := hid h2
  have HB2 := hid (HB1.out.trans hb2)
  clear h2 hb2 HQ1 HB1
  go_wp2
  go_ret
  exact ⟨rfl, H2.out, HB2.out⟩
/-- Every part of a valid pattern is built. -/
theorem bpart_tree (b off cap : Nat) : ∀ (t : Rx), t.Ok → ∀ (p q : List Nd), (∀ n ∈ t.flat, 1 ≤ n.op ∧ n.op ≤ 9) → (p ++ t.flat ++ q).length ≤ 60 → BPart (p ++ t.flat ++ q) b off cap t p.length
  | .leaf n, h, p, q, ho, hl => by
    have hn : (p ++ (Rx.leaf n).flat ++ q)[p.length]? = some n := by simp [Rx.flat]
    have h1 := ho n (by simp [Rx.flat])
    refine part_leaf _ hl b off cap p.length n hn (by simp [Rx.flat]) ?_
    have h0 : prt n.op = 0 := h
    have h2 : ¬ prt n.op = 2 := by omega
    have h3 : ¬ prt n.op = 1 := by omega
    rw [prt_two] at h2
    rw [prt_one] at h3
    omega
  | .one n a, h, p, q, ho, hl => by
    have e : p ++ (Rx.one n a).flat ++ q = (p ++ [n]) ++ a.flat ++ q := by simp [Rx.flat]
    have ih := bpart_tree b off cap a h.2 (p ++ [n]) q (fun m hm => ho m (by simp [Rx.flat, hm])) (by rw [← e]; exact hl)
    rw [← e, show (p ++ [n]).length = p.length + 1 from by simp] at ih
    exact part_one _ hl b off cap p.length n a (by simp [Rx.flat]) (by simp [Rx.flat]) ((prt_one n.op).1 h.1) ih
  | .two n a c, h, p, q, ho, hl => by
    have e1 : p ++ (Rx.two n a c).flat ++ q = (p ++ [n]) ++ a.flat ++ (c.flat ++ q) := by simp [Rx.flat]
    have e2 : p ++ (Rx.two n a c).flat ++ q = (p ++ [n] ++ a.flat) ++ c.flat ++ q := by simp [Rx.flat]
    have ih1 := bpart_tree b off cap a h.2.1 (p ++ [n]) (c.flat ++ q) (fun m hm => ho m (by simp [Rx.flat, hm])) (by rw [← e1]; exact hl)
    have ih2 := bpart_tree b off cap c h.2.2 (p ++ [n] ++ a.flat) q (fun m hm => ho m (by simp [Rx.flat, hm])) (by rw [← e2]; exact hl)
    rw [← e1, show (p ++ [n]).length = p.length + 1 from by simp] at ih1
    rw [← e2, show (p ++ [n] ++ a.flat).length = p.length + 1 + a.flat.length from by simp; omega] at ih2
    have hal : a.flat.length ≤ 60 := by
      rw [e1] at hl
      simp at hl
      omega
    rcases (prt_two n.op).1 h.1 with hop | hop
    · exact part_cat _ hl b off cap p.length n a c (by simp [Rx.flat]) (by simp [Rx.flat]) hop hal ih1 ih2
    · exact part_or _ hl b off cap p.length n a c (by simp [Rx.flat]) (by simp [Rx.flat]) hop hal ih1 ih2
end Go.Proofs.YtgnmlnfddcnkbaaDoor
