/- The landed builder: plus, star, opt, or. The landed builder: the steps of a tree; Of. The landed prog: Of. The program of a pattern as a value that may be: plain mathematics. The program of a pattern as a value that may be; the program of one letter: plain mathematics. Package find: the auto that a finder keeps; its making. -/
import Derived.Test.YtphcncgdodhlbaaDoorY19
import Derived.Test.YtphcncgdodhlbaaDoorY07
import Derived.Test.YtphcncgdodhlbaaDoorY02
import Derived.Test.YtphcncgdodhlbaaDoorY12
import Derived.Test.YtphcncgdodhlbaaDoorY17
import Derived.Test.YtphcncgdodhlbaaDoorY05
import Derived.Test.YtphcncgdodhlbaaDoorY04
import Derived.Test.YtphcncgdodhlbaaDoorY03
namespace Go.Proofs.YtphcncgdodhlbaaDoor
set_option linter.unusedSimpArgs false
set_option linter.unusedVariables false
set_option maxRecDepth 100000
open Go.RowKit
theorem set_mid (l r : List St) (x y : St) : (l ++ x :: r).set l.length y = l ++ y :: r := by
  rw [List.set_append_right _ _ (Nat.le_refl _)]
  simp
set_option maxHeartbeats 2000000 in
theorem plus_any (ns : List Nd) (hl : ns.length ≤ 60) (b off cap i : Nat) (hi : i ≤ 60) (a : Rx) (hP : BPart ns b off cap a (i + 1)) (g : Nat) (ss : List St) (w : World) (hB : BB w g (.slice (some ⟨b, off, none⟩) ns.length cap) ss) (hbg : b < g) (hN : NsAt w b off ns) (hm : ss.length + 2 * a.flat.length + 1 ≤ 500) :
    Calls Tryd.prog 70 #[.pointer (some ⟨g, 0, none⟩), .int .i64 (i : Int)] w fun e w' => e = .returned (.int .i64 ((i + 1 + a.flat.length : Nat) : Int)) ∧ BB w' g (.slice (some ⟨b, off, none⟩) ns.length cap) (ss ++ (a.cod ss.length ++ [stF ss.length (ss.length + (a.cod ss.length).length + 1)])) ∧ Below g w w' := by
  obtain ⟨a', cap', d0, d1⟩ := hB.read
  have hcl := a.cod_len ss.length
  have HP := hid (hP g ss w hB hbg hN (by omega))
  have hx : Hid ((i : Int) + 1 = ((i + 1 : Nat) : Int)) := by show _ = _; omega
  clear hB hN hP
  go_enter Tryd.func70, Tryd.ntmps70
  go_wp2_with fail
  rw [hx.out]
  refine Calls.mono HP.out ?_
  rintro e w1 ⟨rfl, h1, hb1⟩
  have HH := hid (hold_any g _ _ w1 h1 (by rw [List.length_append]; omega))
  have HL1 := hid hb1
  clear h1 hb1 HP
  go_wp2_with fail
  refine Calls.mono HH.out ?_
  rintro e w2 ⟨rfl, h2, hb2⟩
  have HF := hid (fork_any g _ _ (ss ++ a.cod ss.length).length ss.length ((ss ++ a.cod ss.length).length + 1) w2 h2 (by simp))
  have HL2 := hid (HL1.out.trans hb2)
  have hk : (ss ++ a.cod ss.length).length ≤ 500 := by rw [List.length_append]; omega
  have hy : Hid ((((ss ++ a.cod ss.length).length : Nat) : Int) + 1 = (((ss ++ a.cod ss.length).length + 1 : Nat) : Int)) := by show _ = _; omega
  have HS : Hid (((ss ++ a.cod ss.length) ++ [stZ]).set (ss ++ a.cod ss.length).length (stF ss.length ((ss ++ a.cod ss.length).length + 1)) = ss ++ (a.cod ss.length ++ [stF ss.length (ss.length + (a.cod ss.length).length + 1)])) := by
    show _ = _
    rw [set_mid, List.append_assoc, List.length_append]
  rw [HS.out] at HF
  generalize (ss ++ a.cod ss.length).length = K at *
  clear h2 hb2 HH HL1 HS
  go_wp2_with fail
  rw [hy.out]
  refine Calls.mono HF.out ?_
  rintro e w3 ⟨rfl, h3, hb3⟩
  have H3 := hid h3
  have HL3 := hid (HL2.out.trans hb3)
  clear h3 hb3 HF
  go_wp2
  go_ret
  exact ⟨rfl, H3.out, HL3.out⟩
/-- A list that was held open at its first new place, and filled. -/
theorem set_held (l A : List St) (y : St) : (l ++ [stZ] ++ A).set l.length y = l ++ y :: A := by
  rw [List.append_assoc, List.singleton_append, set_mid]
set_option maxHeartbeats 2000000 in
theorem opt_any (ns : List Nd) (hl : ns.length ≤ 60) (b off cap i : Nat) (hi : i ≤ 60) (a : Rx) (hP : BPart ns b off cap a (i + 1)) (g : Nat) (ss : List St) (w : World) (hB : BB w g (.slice (some ⟨b, off, none⟩) ns.length cap) ss) (hbg : b < g) (hN : NsAt w b off ns) (hm : ss.length + 2 * a.flat.length + 1 ≤ 500) (K : Nat) (hK : K = ss.length + 1 + (a.cod (ss.length + 1)).length) :
    Calls Tryd.prog 71 #[.pointer (some ⟨g, 0, none⟩), .int .i64 (i : Int)] w fun e w' => e = .returned (.int .i64 ((i + 1 + a.flat.length : Nat) : Int)) ∧ BB w' g (.slice (some ⟨b, off, none⟩) ns.length cap) (ss ++ stF (ss.length + 1) K :: a.cod (ss.length + 1)) ∧ Below g w w' := by
  have hcl := a.cod_len (ss.length + 1)
  have HH := hid (hold_any g _ ss w hB (by omega))
  have HN := hid hN
  have HP := hid hP
  have HK := hid hK
  have hx : Hid ((i : Int) + 1 = ((i + 1 : Nat) : Int)) := by show _ = _; omega
  clear hB hN hP hK
  go_enter Tryd.func71, Tryd.ntmps71
  go_wp2_with fail
  refine Calls.mono HH.out ?_
  rintro e w1 ⟨rfl, h1, hb1⟩
  have HP1 := hid (HP.out g (ss ++ [stZ]) w1 h1 hbg (HN.out.below hb1 hbg) (by simp; omega))
  have HL1 := hid hb1
  rw [show (ss ++ [stZ]).length = ss.length + 1 from by simp] at HP1
  clear h1 hb1 HH HP
  go_wp2_with fail
  rw [hx.out]
  refine Calls.mono HP1.out ?_
  rintro e w2 ⟨rfl, h2, hb2⟩
  obtain ⟨a', cap', d0, d1⟩ := h2.read
  have HF := hid (fork_any g _ _ ss.length (ss.length + 1) K w2 h2 (by first | (simp; done) | (simp; omega)))
  rw [set_held] at HF
  have HL2 := hid (HL1.out.trans hb2)
  rw [show (ss ++ [stZ] ++ a.cod (ss.length + 1)).length = K from by have := HK.out; first | (simp; done) | (simp; omega)] at d1
  have hy : Hid (((ss.length : Nat) : Int) + 1 = ((ss.length + 1 : Nat) : Int)) := by show _ = _; omega
  have hk : K ≤ 500 := by have := HK.out; omega
  clear h2 hb2 HL1 HP1 d0
  go_wp2_with fail
  rw [hy.out]
  refine Calls.mono HF.out ?_
  rintro e w3 ⟨rfl, h3, hb3⟩
  have H3 := hid h3
  have HL3 := hid (HL2.out.trans hb3)
  clear h3 hb3 HF
  go_wp2
  go_ret
  exact ⟨rfl, H3.out, HL3.out⟩
set_option maxHeartbeats 2000000 in
theorem star_any (ns : List Nd) (hl : ns.length ≤ 60) (b off cap i : Nat) (hi : i ≤ 60) (a : Rx) (hP : BPart ns b off cap a (i + 1)) (g : Nat) (ss : List St) (w : World) (hB : BB w g (.slice (some ⟨b, off, none⟩) ns.length cap) ss) (hbg : b < g) (hN : NsAt w b off ns) (hm : ss.length + 2 * a.flat.length + 2 ≤ 500) (K : Nat) (hK : K = ss.length + 1 + (a.cod (ss.length + 1)).length + 1) :
    Calls Tryd.prog 69 #[.pointer (some ⟨g, 0, none⟩), .int .i64 (i : Int)] w fun e w' => e = .returned (.int .i64 ((i + 1 + a.flat.length : Nat) : Int)) ∧ BB w' g (.slice (some ⟨b, off, none⟩) ns.length cap) (ss ++ stF (ss.length + 1) K :: (a.cod (ss.length + 1) ++ [stF (ss.length + 1) K])) ∧ Below g w w' := by
  have hcl := a.cod_len (ss.length + 1)
  have HH := hid (hold_any g _ ss w hB (by omega))
  have HN := hid hN
  have HP := hid hP
  have HK := hid hK
  clear hB hN hP hK
  go_enter Tryd.func69, Tryd.ntmps69
  go_wp2_with fail
  refine Calls.mono HH.out ?_
  rintro e w1 ⟨rfl, h1, hb1⟩
  have HP1 := hid (plus_any ns hl b off cap i hi a HP.out g (ss ++ [stZ]) w1 h1 hbg (HN.out.below hb1 hbg) (by simp; omega))
  have HL1 := hid hb1
  rw [show (ss ++ [stZ]).length = ss.length + 1 from by simp, ← HK.out] at HP1
  clear h1 hb1 HH HP
  go_wp2_with fail
  refine Calls.mono HP1.out ?_
  rintro e w2 ⟨rfl, h2, hb2⟩
  obtain ⟨a', cap', d0, d1⟩ := h2.read
  have HF := hid (fork_any g _ _ ss.length (ss.length + 1) K w2 h2 (by first | (simp; done) | (simp; omega)))
  rw [set_held] at HF
  have HL2 := hid (HL1.out.trans hb2)
  rw [show (ss ++ [stZ] ++ (a.cod (ss.length + 1) ++ [stF (ss.length + 1) K])).length = K from by have := HK.out; first | (simp; done) | (simp; omega)] at d1
  have hy : Hid (((ss.length : Nat) : Int) + 1 = ((ss.length + 1 : Nat) : Int)) := by show _ = _; omega
  have hk : K ≤ 500 := by have := HK.out; omega
  clear h2 hb2 HL1 HP1 d0
  go_wp2_with fail
  rw [hy.out]
  refine Calls.mono HF.out ?_
  rintro e w3 ⟨rfl, h3, hb3⟩
  have H3 := hid h3
  have HL3 := hid (HL2.out.trans hb3)
  clear h3 hb3 HF
  go_wp2
  go_ret
  exact ⟨rfl, H3.out, HL3.out⟩
set_option maxHeartbeats 4000000 in
theorem or_any (ns : List Nd) (hl : ns.length ≤ 60) (b off cap i : Nat) (hi : i ≤ 60) (a c : Rx) (hP : BPart ns b off cap a (i + 1)) (hQ : BPart ns b off cap c (i + 1 + a.flat.length)) (hal : a.flat.length ≤ 60) (g : Nat) (ss : List St) (w : World) (hB : BB w g (.slice (some ⟨b, off, none⟩) ns.length cap) ss) (hbg : b < g) (hN : NsAt w b off ns) (hm : ss.length + 2 * a.flat.length + 2 * c.flat.length + 2 ≤ 500) (A C : List St) (p2 E : Nat) (hA : A = a.cod (ss.length + 1)) (hp2 : p2 = ss.length + 1 + A.length + 1) (hC : C = c.cod p2) (hE : E = p2 + C.length) :
    Calls Tryd.prog 68 #[.pointer (some ⟨g, 0, none⟩), .int .i64 (i : Int)] w fun e w' => e = .returned (.int .i64 ((i + 1 + a.flat.length + c.flat.length : Nat) : Int)) ∧ BB w' g (.slice (some ⟨b, off, none⟩) ns.length cap) (ss ++ stF (ss.length + 1) p2 :: (A ++ stF E E :: C)) ∧ Below g w w' := by
  have hcl := a.cod_len (ss.length + 1)
  have hcl2 := c.cod_len p2
  rw [← hA] at hcl
  rw [← hC] at hcl2
  have hpb : p2 ≤ 500 := by omega
  have hEb : E ≤ 500 := by omega
  have HH := hid (hold_any g _ ss w hB (by omega))
  have HN := hid hN
  have HP := hid hP
  have HQ := hid hQ
  have hx : Hid ((i : Int) + 1 = ((i + 1 : Nat) : Int)) := by show _ = _; omega
  have HE2 := hid hp2
  have HE3 := hid hE
  have HA := hid hA
  have HC := hid hC
  clear hB hN hP hQ hp2 hE hA hC
  go_enter Tryd.func68, Tryd.ntmps68
  go_wp2_with fail
  refine Calls.mono HH.out ?_
  rintro e w1 ⟨rfl, h1, hb1⟩
  have HP1 := hid (HP.out g (ss ++ [stZ]) w1 h1 hbg (HN.out.below hb1 hbg) (by simp; omega))
  have HL1 := hid hb1
  rw [show (ss ++ [stZ]).length = ss.length + 1 from by simp] at HP1
  clear h1 hb1 HH HP
  go_wp2_with fail
  rw [hx.out]
  refine Calls.mono HP1.out ?_
  rintro e w2 ⟨rfl, h2, hb2⟩
  rw [← HA.out] at h2
  obtain ⟨L, HL⟩ : ∃ L, Hid (L = ss.length + 1 + A.length) := ⟨_, Eq.refl _⟩
  have hLe : (ss ++ [stZ] ++ A).length = L := by rw [HL.out]; simp; omega
  have hLb : L ≤ 500 := by have := HL.out; omega
  have HH2 := hid (hold_any g _ _ w2 h2 (by omega))
  rw [hLe] at HH2
  have HL2 := hid (HL1.out.trans hb2)
  clear h2 hb2 HL1 HP1
  go_wp2_with fail
  refine Calls.mono HH2.out ?_
  rintro e w3 ⟨rfl, h3, hb3⟩
  have HF := hid (fork_any g _ _ ss.length (ss.length + 1) (L + 1) w3 h3 (by first | (simp; done) | (simp; omega)))
  rw [show ss ++ [stZ] ++ A ++ [stZ] = ss ++ [stZ] ++ (A ++ [stZ]) from by simp, set_held] at HF
  have HL3 := hid (HL2.out.trans hb3)
  have hy : Hid (((ss.length : Nat) : Int) + 1 = ((ss.length + 1 : Nat) : Int)) := by show _ = _; omega
  have hz : Hid (((L : Nat) : Int) + 1 = ((L + 1 : Nat) : Int)) := by show _ = _; omega
  have hsl : ss.length ≤ 500 := by omega
  clear h3 hb3 HL2 HH2
  go_wp2_with fail
  rw [hy.out, hz.out]
  refine Calls.mono HF.out ?_
  rintro e w4 ⟨rfl, h4, hb4⟩
  have HL4 := hid (HL3.out.trans hb4)
  have HP4 := hid (HQ.out g _ w4 h4 hbg (HN.out.below HL4.out hbg) (by have := HL.out; simp; omega))
  rw [show (ss ++ stF (ss.length + 1) (L + 1) :: (A ++ [stZ])).length = p2 from by have := HL.out; have := HE2.out; simp; omega] at HP4
  clear h4 hb4 HL3 HF HQ
  go_wp2_with fail
  refine Calls.mono HP4.out ?_
  rintro e w5 ⟨rfl, h5, hb5⟩
  rw [← HC.out] at h5
  have hLp : L + 1 = p2 := by have := HL.out; have := HE2.out; omega
  obtain ⟨a', cap', d0, d1⟩ := h5.read
  have HS : Hid ((ss ++ stF (ss.length + 1) (L + 1) :: (A ++ [stZ]) ++ C).set L (stF E E) = ss ++ stF (ss.length + 1) p2 :: (A ++ stF E E :: C)) := by
    show _ = _
    rw [show ss ++ stF (ss.length + 1) (L + 1) :: (A ++ [stZ]) ++ C = (ss ++ stF (ss.length + 1) p2 :: A) ++ stZ :: C from by rw [hLp]; simp]
    have hL2 : L = (ss ++ stF (ss.length + 1) p2 :: A).length := by have := HL.out; simp; omega
    rw [hL2, set_mid]
    simp
  have HL5 := hid (HL4.out.trans hb5)
  have HF5 : Hid (∀ W, Below w5.heap.size w5 W → Calls Tryd.prog 83 #[.pointer (some ⟨g, 0, none⟩), .int .i64 (L : Int), .int .i64 (E : Int), .int .i64 (E : Int)] W fun e w' => e = .returned (.tuple #[]) ∧ BB w' g (.slice (some ⟨b, off, none⟩) ns.length cap) (ss ++ stF (ss.length + 1) p2 :: (A ++ stF E E :: C)) ∧ Below g w w') := by
    intro W hW
    have hf := fork_any g _ _ L E E W (h5.below hW) (by have := HL.out; simp; omega)
    rw [HS.out] at hf
    refine hf.mono ?_
    rintro e w' ⟨rfl, h6, hb6⟩
    exact ⟨rfl, h6, (HL5.out.trans (hW.mono (Nat.le_of_lt h5.lt))).trans hb6⟩
  rw [show (ss ++ stF (ss.length + 1) (L + 1) :: (A ++ [stZ]) ++ C).length = E from by have := HL.out; have := HE3.out; simp; omega] at d1
  clear h5 hb5 HL4 HP4 d0 HS hLp hLe HL5
  go_wp2_with fail
  go_region_with (go_at_call 83; refine Calls.mono (HF5.out _ (below_drewN' w5 1)) ?_; rintro e w6 ⟨rfl, h6, hb6⟩)
  all_goals have H6 := hid h6
  all_goals have HL6 := hid hb6
  all_goals clear h6 hb6 HF5
  all_goals go_wp2
  all_goals go_ret
  all_goals refine ⟨?_, H6.out, HL6.out⟩
  all_goals first | rfl | (congr 1; simp; done) | trace_state
end Go.Proofs.YtphcncgdodhlbaaDoor
namespace Go.Proofs.YtphcncgdodhlbaaDoor
set_option linter.unusedSimpArgs false
set_option linter.unusedVariables false
set_option maxRecDepth 100000
open Go.RowKit
set_option maxHeartbeats 4000000 in
theorem part_one (ns : List Nd) (hl : ns.length ≤ 60) (b off cap i : Nat) (n : Nd) (a : Rx) (hn : ns[i]? = some n) (hi : i < ns.length) (hop : n.op = 5 ∨ n.op = 6 ∨ n.op = 7) (hP : BPart ns b off cap a (i + 1)) : BPart ns b off cap (.one n a) i := by
  intro g ss w hB hbg hN hm
  have hml : ss.length ≤ 500 := by omega
  obtain ⟨c0, c1, c2, c3, c4⟩ := hN i n hn
  obtain ⟨x', cap', d0, d1⟩ := hB.read
  have i0 : (0 : Int) ≤ (i : Int) := by omega
  have i1 : (i : Int) < (ns.length : Int) := by omega
  have hfl : (Rx.one n a).flat.length = 1 + a.flat.length := by simp [Rx.flat]; omega
  have HL : Hid ((i + (Rx.one n a).flat.length : Nat) = i + 1 + a.flat.length) := by show _ = _; rw [hfl]; omega
  rw [HL.out]
  rcases hop with hop | hop | hop
  · have HC : Hid ((Rx.one n a).cod ss.length = stF (ss.length + 1) (ss.length + 1 + (a.cod (ss.length + 1)).length + 1) :: (a.cod (ss.length + 1) ++ [stF (ss.length + 1) (ss.length + 1 + (a.cod (ss.length + 1)).length + 1)])) := by show _ = _; simp [Rx.cod, hop]
    have HA := hid (star_any ns hl b off cap i (by omega) a hP g ss w hB hbg hN (by omega) _ rfl)
    rw [hop] at c0
    rw [HC.out]
    clear hN hB hP HC HL hfl
    go_enter Tryd.func44, Tryd.ntmps44
    go_wp2_with fail
    refine Calls.mono HA.out ?_
    rintro e w1 ⟨rfl, h1, hb1⟩
    have H1 := hid h1
    have HB1 := hid hb1
    clear h1 hb1 HA
    go_wp2
    go_ret
    exact ⟨rfl, H1.out, HB1.out⟩
  · have HC : Hid ((Rx.one n a).cod ss.length = a.cod ss.length ++ [stF ss.length (ss.length + (a.cod ss.length).length + 1)]) := by show _ = _; simp [Rx.cod, hop]
    have HA := hid (plus_any ns hl b off cap i (by omega) a hP g ss w hB hbg hN (by omega))
    rw [hop] at c0
    rw [HC.out]
    clear hN hB hP HC HL hfl
    go_enter Tryd.func44, Tryd.ntmps44
    go_wp2_with fail
    refine Calls.mono HA.out ?_
    rintro e w1 ⟨rfl, h1, hb1⟩
    have H1 := hid h1
    have HB1 := hid hb1
    clear h1 hb1 HA
    go_wp2
    go_ret
    exact ⟨rfl, H1.out, HB1.out⟩
  · have HC : Hid ((Rx.one n a).cod ss.length = stF (ss.length + 1) (ss.length + 1 + (a.cod (ss.length + 1)).length) :: a.cod (ss.length + 1)) := by show _ = _; simp [Rx.cod, hop]
    have HA := hid (opt_any ns hl b off cap i (by omega) a hP g ss w hB hbg hN (by omega) _ rfl)
    rw [hop] at c0
    rw [HC.out]
    clear hN hB hP HC HL hfl
    go_enter Tryd.func44, Tryd.ntmps44
    go_wp2_with fail
    refine Calls.mono HA.out ?_
    rintro e w1 ⟨rfl, h1, hb1⟩
    have H1 := hid h1
    have HB1 := hid hb1
    clear h1 hb1 HA
    go_wp2
    go_ret
    exact ⟨rfl, H1.out, HB1.out⟩
set_option maxHeartbeats 4000000 in
theorem part_or (ns : List Nd) (hl : ns.length ≤ 60) (b off cap i : Nat) (n : Nd) (a c : Rx) (hn : ns[i]? = some n) (hi : i < ns.length) (hop : n.op = 4) (hal : a.flat.length ≤ 60) (hP : BPart ns b off cap a (i + 1)) (hQ : BPart ns b off cap c (i + 1 + a.flat.length)) : BPart ns b off cap (.two n a c) i := by
  intro g ss w hB hbg hN hm
  have hml : ss.length ≤ 500 := by omega
  obtain ⟨c0, c1, c2, c3, c4⟩ := hN i n hn
  obtain ⟨x', cap', d0, d1⟩ := hB.read
  have i0 : (0 : Int) ≤ (i : Int) := by omega
  have i1 : (i : Int) < (ns.length : Int) := by omega
  have hfl : (Rx.two n a c).flat.length = 1 + a.flat.length + c.flat.length := by simp [Rx.flat]; omega
  have HL : Hid ((i + (Rx.two n a c).flat.length : Nat) = i + 1 + a.flat.length + c.flat.length) := by show _ = _; rw [hfl]; omega
  rw [HL.out]
  · have HA := hid (or_any ns hl b off cap i (by omega) a c hP hQ hal g ss w hB hbg hN (by omega) _ _ _ _ rfl rfl rfl rfl)
    have HC : Hid ((Rx.two n a c).cod ss.length = stF (ss.length + 1) (ss.length + 1 + (a.cod (ss.length + 1)).length + 1) :: (a.cod (ss.length + 1) ++ (stF (ss.length + 1 + (a.cod (ss.length + 1)).length + 1 + (c.cod (ss.length + 1 + (a.cod (ss.length + 1)).length + 1)).length) (ss.length + 1 + (a.cod (ss.length + 1)).length + 1 + (c.cod (ss.length + 1 + (a.cod (ss.length + 1)).length + 1)).length) :: c.cod (ss.length + 1 + (a.cod (ss.length + 1)).length + 1)))) := by show _ = _; simp [Rx.cod, hop]
    rw [hop] at c0
    rw [HC.out]
    clear hN hB hP hQ HC HL hfl
    go_enter Tryd.func44, Tryd.ntmps44
    go_wp2_with fail
    refine Calls.mono HA.out ?_
    rintro e w1 ⟨rfl, h1, hb1⟩
    have H1 := hid h1
    have HB1 := hid hb1
    clear h1 hb1 HA
    go_wp2
    go_ret
    exact ⟨rfl, H1.out, HB1.out⟩
set_option maxHeartbeats 4000000 in
theorem part_cat (ns : List Nd) (hl : ns.length ≤ 60) (b off cap i : Nat) (n : Nd) (a c : Rx) (hn : ns[i]? = some n) (hi : i < ns.length) (hop : n.op = 3) (hal : a.flat.length ≤ 60) (hP : BPart ns b off cap a (i + 1)) (hQ : BPart ns b off cap c (i + 1 + a.flat.length)) : BPart ns b off cap (.two n a c) i := by
  intro g ss w hB hbg hN hm
  have hml : ss.length ≤ 500 := by omega
  obtain ⟨c0, c1, c2, c3, c4⟩ := hN i n hn
  obtain ⟨x', cap', d0, d1⟩ := hB.read
  have i0 : (0 : Int) ≤ (i : Int) := by omega
  have i1 : (i : Int) < (ns.length : Int) := by omega
  have hfl : (Rx.two n a c).flat.length = 1 + a.flat.length + c.flat.length := by simp [Rx.flat]; omega
  have HL : Hid ((i + (Rx.two n a c).flat.length : Nat) = i + 1 + a.flat.length + c.flat.length) := by show _ = _; rw [hfl]; omega
  rw [HL.out]
  have hcl := a.cod_len ss.length
  have HA := hid (hP g ss w hB hbg hN (by omega))
  have HC : Hid ((Rx.two n a c).cod ss.length = a.cod ss.length ++ c.cod (ss.length + (a.cod ss.length).length)) := by show _ = _; simp [Rx.cod, hop]
  have hx : Hid ((i : Int) + 1 = ((i + 1 : Nat) : Int)) := by show _ = _; omega
  have HN := hid hN
  have HQ := hid hQ
  rw [hop] at c0
  rw [HC.out]
  clear hN hB hP hQ HC HL
  go_enter Tryd.func44, Tryd.ntmps44
  go_wp2_with fail
  rw [hx.out]
  refine Calls.mono HA.out ?_
  rintro e w1 ⟨rfl, h1, hb1⟩
  have HQ1 := hid (HQ.out g _ w1 h1 hbg (HN.out.below hb1 hbg) (by rw [List.length_append]; omega))
  rw [List.length_append, List.append_assoc] at HQ1
  have HB1 := hid hb1
  clear h1 hb1 HA HQ HN
  go_wp2_with fail
  refine Calls.mono HQ1.out ?_
  rintro e w2 ⟨rfl, h2, hb2⟩
  have H2 := hid h2
  have HB2 := hid (HB1.out.trans hb2)
  clear h2 hb2 HQ1 HB1
  go_wp2
  go_ret
  exact ⟨rfl, H2.out, HB2.out⟩
/-- Every part of a valid pattern is built. -/
theorem bpart_tree (b off cap : Nat) : ∀ (t : Rx), t.Ok → ∀ (p q : List Nd), (∀ n ∈ t.flat, 1 ≤ n.op ∧ n.op ≤ 9) → (p ++ t.flat ++ q).length ≤ 60 → BPart (p ++ t.flat ++ q) b off cap t p.length
  | .leaf n, h, p, q, ho, hl => by
    have hn : (p ++ (Rx.leaf n).flat ++ q)[p.length]? = some n := by simp [Rx.flat]
    have h1 := ho n (by simp [Rx.flat])
    refine part_leaf _ hl b off cap p.length n hn (by simp [Rx.flat]) ?_
    have h0 : prt n.op = 0 := h
    have h2 : ¬ prt n.op = 2 := by omega
    have h3 : ¬ prt n.op = 1 := by omega
    rw [prt_two] at h2
    rw [prt_one] at h3
    omega
  | .one n a, h, p, q, ho, hl => by
    have e : p ++ (Rx.one n a).flat ++ q = (p ++ [n]) ++ a.flat ++ q := by simp [Rx.flat]
    have ih := bpart_tree b off cap a h.2 (p ++ [n]) q (fun m hm => ho m (by simp [Rx.flat, hm])) (by rw [← e]; exact hl)
    rw [← e, show (p ++ [n]).length = p.length + 1 from by simp] at ih
    exact part_one _ hl b off cap p.length n a (by simp [Rx.flat]) (by simp [Rx.flat]) ((prt_one n.op).1 h.1) ih
  | .two n a c, h, p, q, ho, hl => by
    have e1 : p ++ (Rx.two n a c).flat ++ q = (p ++ [n]) ++ a.flat ++ (c.flat ++ q) := by simp [Rx.flat]
    have e2 : p ++ (Rx.two n a c).flat ++ q = (p ++ [n] ++ a.flat) ++ c.flat ++ q := by simp [Rx.flat]
    have ih1 := bpart_tree b off cap a h.2.1 (p ++ [n]) (c.flat ++ q) (fun m hm => ho m (by simp [Rx.flat, hm])) (by rw [← e1]; exact hl)
    have ih2 := bpart_tree b off cap c h.2.2 (p ++ [n] ++ a.flat) q (fun m hm => ho m (by simp [Rx.flat, hm])) (by rw [← e2]; exact hl)
    rw [← e1, show (p ++ [n]).length = p.length + 1 from by simp] at ih1
    rw [← e2, show (p ++ [n] ++ a.flat).length = p.length + 1 + a.flat.length from by simp; omega] at ih2
    have hal : a.flat.length ≤ 60 := by
      rw [e1] at hl
      simp at hl
      omega
    rcases (prt_two n.op).1 h.1 with hop | hop
    · exact part_cat _ hl b off cap p.length n a c (by simp [Rx.flat]) (by simp [Rx.flat]) hop hal ih1 ih2
    · exact part_or _ hl b off cap p.length n a c (by simp [Rx.flat]) (by simp [Rx.flat]) hop hal ih1 ih2
end Go.Proofs.YtphcncgdodhlbaaDoor
namespace Go.Proofs.YtphcncgdodhlbaaDoor
set_option linter.unusedSimpArgs false
set_option linter.unusedVariables false
set_option maxRecDepth 100000
open Go.RowKit
theorem pof_bad (ns : List Nd) (v : Value) (w : World) (h : NsIn w v ns) (hf : ¬ faultL ns = 0) :
    Calls Tryd.prog 32 #[v] w fun e w' => ∃ a cap, e = .returned (.tuple #[.slice a 0 cap, errV (faultL ns)]) ∧ Below w.heap.size w w' := by
  have HC := hid (rcheck_any ns v w h)
  have e0 : errV (faultL ns) = .iface 23 (.int .i64 (faultL ns)) := by unfold errV; rw [if_neg hf]
  rw [e0] at HC
  have HE := hid e0
  clear h e0
  go_enter Tryd.func32, Tryd.ntmps32
  go_wp2_with fail
  refine Calls.mono HC.out ?_
  rintro e w1 ⟨rfl, hb1⟩
  have HB := hid hb1
  clear hb1 HC
  go_wp2
  go_ret2
  exact ⟨none, 0, by rw [HE.out]; rfl, HB.out⟩
set_option maxHeartbeats 2000000 in
theorem pof_tree (t : Rx) (ht : t.Ok) (v : Value) (w : World) (h : NsIn w v t.flat) (hf : faultL t.flat = 0) :
    Calls Tryd.prog 32 #[v] w fun e w' => ∃ u, e = .returned (.tuple #[u, .nilIface]) ∧ SsIn w' u t.prog ∧ Below w.heap.size w w' := by
  have HC := hid (rcheck_any t.flat v w h)
  rw [hf] at HC
  have e0 : errV 0 = .nilIface := rfl
  rw [e0] at HC
  clear e0
  obtain ⟨hl, hop, -⟩ := (faultL_zero t.flat).1 hf
  have hpos := t.flat_pos
  obtain ⟨a, cap, rfl, hm, h | ⟨b, off, rfl, hlt, hN⟩⟩ := h
  · rw [h] at hpos; simp at hpos
  have hcl := t.cod_len 0
  have HP := hid (bpart_tree b off cap t ht [] [] (fun n hn => (hop n hn).1) (by simpa using hl))
  rw [show ([] : List Nd) ++ t.flat ++ [] = t.flat from by simp] at HP
  have HN := hid hN
  clear hN hop hf hm
  go_enter Tryd.func32, Tryd.ntmps32
  go_wp2_with fail
  refine Calls.mono HC.out ?_
  rintro e w1 ⟨rfl, hb1⟩
  have HB1 := hid hb1
  clear hb1 HC
  go_wp2_with fail
  obtain ⟨o, ho⟩ : ∃ o : Obj, o = .cells #[.slice (some ⟨b, off, none⟩) t.flat.length cap, .slice none 0 0] 100 := ⟨_, rfl⟩
  have hBB : BB (w1.alloc o) w1.heap.size (.slice (some ⟨b, off, none⟩) t.flat.length cap) [] := by
    refine ⟨.slice none 0 0, ?_, ⟨rfl, Or.inl ⟨rfl, rfl⟩⟩⟩
    show (w1.alloc o).heap[w1.heap.size]? = _
    rw [ho]
    exact heap_alloc_new w1 _
  have hb1 : b < w1.heap.size := Nat.lt_of_lt_of_le hlt HB1.out.size
  have hN1 : NsAt (w1.alloc o) b off t.flat := (HN.out.below HB1.out hlt).below ((Below.refl _ _).alloc (Nat.le_refl _) _) hb1
  have HP1 := hid (HP.out w1.heap.size [] (w1.alloc o) hBB hb1 hN1 (by simp; omega))
  rw [← ho]
  clear hBB hN1 ho HN HP
  refine Calls.mono HP1.out ?_
  rintro e w2 ⟨rfl, h2, hb2⟩
  have HA := hid (add_any _ _ _ stD w2 h2 (by simp; omega))
  have HB2 : Hid (Below w1.heap.size w1 w2) := ((Below.refl _ _).alloc (Nat.le_refl _) o).trans hb2
  clear h2 hb2 HP1
  go_wp2_with fail
  refine Calls.mono HA.out ?_
  rintro e w3 ⟨rfl, h3, hb3⟩
  have HB3 : Hid (Below w.heap.size w w3) := HB1.out.trans ((HB2.out.trans hb3).mono HB1.out.size)
  obtain ⟨sv, hbl, hso⟩ := h3.of
  obtain ⟨c0, c1, f1⟩ := hbl.all
  have HI : Hid (SsIn w3 sv t.prog) := by
    show SsIn w3 sv t.prog
    have := hso.isIn (by unfold maxLen; simp; omega)
    simpa [Rx.prog] using this
  obtain ⟨a3, cap3, hsv⟩ := hso.len
  rw [show (([] : List St) ++ t.cod ([] : List St).length ++ [stD]).length = (t.cod 0).length + 1 from by simp] at hsv
  subst hsv
  clear h3 hb3 hbl hso HB2 HB1 HA
  go_wp2
  go_ret2
  exact ⟨_, rfl, HI.out, HB3.out⟩
theorem pof_any (ns : List Nd) (v : Value) (w : World) (h : NsIn w v ns) (hf : faultL ns = 0) :
    Calls Tryd.prog 32 #[v] w fun e w' => ∃ a len cap, e = .returned (.tuple #[.slice a len cap, .nilIface]) ∧ Below w.heap.size w w' := by
  obtain ⟨t, ht, rfl⟩ := tree_of ns ((faultL_zero ns).1 hf).2.2
  refine (pof_tree t ht v w h hf).mono ?_
  rintro e w' ⟨u, rfl, hu, hb⟩
  obtain ⟨a, cap, rfl, _⟩ := ssIn_form hu
  exact ⟨a, _, cap, rfl, hb⟩
end Go.Proofs.YtphcncgdodhlbaaDoor
namespace Go.Proofs.YtphcncgdodhlbaaDoor
set_option linter.unusedSimpArgs false
set_option linter.unusedVariables false
set_option maxRecDepth 100000
open Go.RowKit
theorem cod_cls : ∀ (t : Rx) (p : Nat), ∀ m ∈ t.cod p, m.c = z4 ∨ ∃ n ∈ t.flat, m.c = n.c
  | .leaf n, p => by
    intro m hm
    simp only [Rx.cod] at hm
    split at hm
    · simp at hm; subst hm; exact Or.inr ⟨n, by simp [Rx.flat], rfl⟩
    · split at hm
      · simp at hm; subst hm; exact Or.inl rfl
      · split at hm
        · simp at hm; subst hm; exact Or.inl rfl
        · cases hm
  | .one n a, p => by
    intro m hm
    have h : ∀ q, m ∈ a.cod q → m.c = z4 ∨ ∃ n' ∈ (Rx.one n a).flat, m.c = n'.c := fun q hq => by
      rcases cod_cls a q m hq with h | ⟨n', h1, h2⟩
      · exact Or.inl h
      · exact Or.inr ⟨n', by simp [Rx.flat, h1], h2⟩
    simp only [Rx.cod] at hm
    split at hm
    · simp only [List.mem_cons, List.mem_append, List.not_mem_nil, or_false] at hm
      rcases hm with rfl | hm | rfl
      · exact Or.inl rfl
      · exact h _ hm
      · exact Or.inl rfl
    · split at hm
      · simp only [List.mem_cons, List.mem_append, List.not_mem_nil, or_false] at hm
        rcases hm with hm | rfl
        · exact h _ hm
        · exact Or.inl rfl
      · simp only [List.mem_cons] at hm
        rcases hm with rfl | hm
        · exact Or.inl rfl
        · exact h _ hm
  | .two n a b, p => by
    intro m hm
    have ha : ∀ q, m ∈ a.cod q → m.c = z4 ∨ ∃ n' ∈ (Rx.two n a b).flat, m.c = n'.c := fun q hq => by
      rcases cod_cls a q m hq with h | ⟨n', h1, h2⟩
      · exact Or.inl h
      · exact Or.inr ⟨n', by simp [Rx.flat, h1], h2⟩
    have hb : ∀ q, m ∈ b.cod q → m.c = z4 ∨ ∃ n' ∈ (Rx.two n a b).flat, m.c = n'.c := fun q hq => by
      rcases cod_cls b q m hq with h | ⟨n', h1, h2⟩
      · exact Or.inl h
      · exact Or.inr ⟨n', by simp [Rx.flat, h1], h2⟩
    simp only [Rx.cod] at hm
    split at hm
    · rcases List.mem_append.1 hm with hm | hm
      · exact ha _ hm
      · exact hb _ hm
    · simp only [List.mem_cons, List.mem_append] at hm
      rcases hm with rfl | hm | rfl | hm
      · exact Or.inl rfl
      · exact ha _ hm
      · exact Or.inl rfl
      · exact hb _ hm
theorem z4_wf : z4.wf := ⟨by decide, by decide, by decide, by decide⟩
theorem int_wf {z : Int} (h0 : -9223372036854775808 ≤ z) (h1 : z ≤ 9223372036854775807) : (Lit.int .i64 z).wf = true := by
  have e1 : IntKind.i64.min = -9223372036854775808 := by decide
  have e2 : IntKind.i64.max = 9223372036854775807 := by decide
  simp only [Lit.wf, e1, e2, h0, h1, decide_true, Bool.and_self]
theorem prog_wf (t : Rx) (hl : t.flat.length ≤ 60) (hw : ∀ n ∈ t.flat, n.wf) : ∀ m ∈ t.prog, m.wf := by
  intro m hm
  have hc := t.cod_len 0
  unfold Rx.prog at hm
  rcases List.mem_append.1 hm with hm | hm
  · obtain ⟨h1, h2, h3, _, _⟩ := cod_ok t 0 m hm
    refine ⟨int_wf (by omega) (by omega), ?_, int_wf (by omega) (by omega), int_wf (by omega) (by omega)⟩
    rcases cod_cls t 0 m hm with h | ⟨n, hn, h⟩
    · rw [h]; exact z4_wf
    · rw [h]; exact (hw n hn).2
  · rw [List.mem_singleton] at hm
    subst hm
    exact ⟨by decide, z4_wf, by decide, by decide⟩
end Go.Proofs.YtphcncgdodhlbaaDoor
namespace Go.Proofs.YtphcncgdodhlbaaDoor
set_option linter.unusedSimpArgs false
set_option linter.unusedVariables false
set_option maxRecDepth 100000
open Go.RowKit
/-- The pattern that is the letter a. -/
abbrev tA : Rx := .leaf ⟨1, kA⟩
theorem tA_ok : tA.Ok := rfl
theorem kA_wf : kA.wf := ⟨by decide, by decide, by decide, by decide⟩
theorem tA_wf : ∀ n ∈ tA.flat, n.wf := by
  intro n hn
  simp [Rx.flat] at hn
  subst hn
  exact ⟨by decide, kA_wf⟩
theorem tA_fault : faultL tA.flat = 0 := by
  rw [faultL_zero]
  refine ⟨by simp [Rx.flat], ?_, ?_⟩
  · intro n hn
    simp [Rx.flat] at hn
    subst hn
    exact ⟨by simp, Or.inl rfl⟩
  · have := endF_flat tA tA_ok [] [] (tA.flat.length + 1) (by omega)
    simpa [endE] using this
theorem tA_ab : EndsR [97, 98] tA 0 [1] := by
  refine ⟨by simp, fun j => ?_⟩
  simp only [Fit, if_true, List.mem_singleton]
  constructor
  · rintro rfl
    exact ⟨97, rfl, kA_ok.2, rfl⟩
  · rintro ⟨c, _, _, h⟩
    omega
theorem tA_a : EndsR [97] tA 0 [1] := by
  refine ⟨by simp, fun j => ?_⟩
  simp only [Fit, if_true, List.mem_singleton]
  constructor
  · rintro rfl
    exact ⟨97, rfl, kA_ok.2, rfl⟩
  · rintro ⟨c, _, _, h⟩
    omega
end Go.Proofs.YtphcncgdodhlbaaDoor
namespace Go.Proofs.YtphcncgdodhlbaaDoor
set_option linter.unusedSimpArgs false
set_option linter.unusedVariables false
set_option maxRecDepth 100000
open Go.RowKit
/-- An auto lies in memory, whatever it knows. -/
def AuN (c : Ax) (w : World) : Prop := ∃ g m K Mb k, AuI c g m K Mb k w
theorem AuN.below {c : Ax} {w w' : World} (h : AuN c w) (hb : Below w.heap.size w w') : AuN c w' := by
  obtain ⟨g, m, K, Mb, k, h⟩ := h
  exact ⟨g, m, K, Mb, k, h.below hb⟩
theorem AuN.size {c : Ax} {w : World} (h : AuN c w) : c.B < w.heap.size ∧ c.ab < w.heap.size ∧ c.b < w.heap.size ∧ c.B ≤ c.ab ∧ c.B ≤ c.b := by
  obtain ⟨g, m, K, Mb, k, h⟩ := h
  exact ⟨h.size, heap_lt h.au, h.blt, h.lo.2.2.1, h.lo.2.2.2⟩
theorem growF_cell (w : World) (a : Addr) (u : Value) : w.grownBy (w.setCell a u) (some a.block) :=
  ⟨rfl, rfl, rfl, by simp, fun k _ hk => heap_setCell_other w a k u (fun e => hk (by rw [e]))⟩
/-- All cells but those of one block lie as they lay. -/
structure Kd (ab : Nat) (w w' : World) : Prop where
  size : w.heap.size ≤ w'.heap.size
  same : ∀ k o, w.heap[k]? = some o → o.isCells = true → k ≠ ab → w'.heap[k]? = some o
theorem Kc.kd {c : Ax} {w w' : World} (h : Kc c w w') : Kd c.ab w w' := ⟨h.size, h.same⟩
/-- A box that is none of its own is turned. -/
theorem AuN.box {c : Ax} {w w' : World} (h : AuN c w) {x : Nat} {cs : Array Value} {T : TypeId} {o : Nat × Nat} (hx : w.heap[x]? = some (.cells cs T o)) (h1 : T ≠ 122) (h2 : T ≠ 111) (h3 : x ≠ c.b) (hg : w.grownBy w' (some x)) : AuN c w' := by
  obtain ⟨g, m, K, Mb, k, h⟩ := h
  have km : ∀ {kt M n ok}, Km w kt M n ok → Km w' kt M n ok := fun {kt M n ok} hk => hk.kept hg (by
    intro e
    injection e with e
    obtain ⟨es, cl, hh⟩ := hk.heap
    rw [e, hx] at hh
    cases hh)
  have hab : c.ab ≠ x := fun e => by
    have := h.au
    rw [e, hx] at this
    injection this with this
    injection this with _ q _
    exact h2 q
  refine ⟨g, m, K, Mb, k, ?_⟩
  exact {
    au := (hg.block _ (heap_lt h.au) (by intro e; injection e with e; exact hab e)).trans h.au
    steps := h.steps.grown hg h.blt (by intro e; injection e with e; exact h3 e.symm)
    blt := Nat.lt_of_lt_of_le h.blt hg.size
    kn := km h.kn
    k100 := h.k100
    bg := by obtain ⟨kb, h1⟩ := h.bg; exact ⟨kb, km h1⟩
    sub := h.sub
    st := fun σ p e => (hg.block _ (heap_lt (h.st σ p e)) (by
      intro e'
      injection e' with e'
      have := h.st σ p e
      rw [e', hx] at this
      injection this with this
      injection this with _ q _
      exact h1 q)).trans (h.st σ p e)
    mv := fun σ p e => by obtain ⟨kn, h1⟩ := h.mv σ p e; exact ⟨kn, km h1⟩
    inj := h.inj
    mK := h.mK
    KM := h.KM
    lo := h.lo
    loS := h.loS
    out := fun k e => ⟨Nat.lt_of_lt_of_le (h.out k e).1 hg.size, (h.out k e).2⟩
    outS := h.outS }
set_option maxHeartbeats 1000000 in
theorem finderOf_bad (ns : List Nd) (v : Value) (w : World) (h : NsIn w v ns) (hf : ¬ faultL ns = 0) :
    Calls Tryd.prog 19 #[v] w fun e w' => e = .returned (.tuple #[.agg #[.pointer none], errV (faultL ns)]) ∧ Below w.heap.size w w' := by
  have HC : Hid (∀ w', Below w.heap.size w w' → _) := fun w' hb => pof_bad ns v w' (h.below hb) hf
  rw [show errV (faultL ns) = .iface 23 (.int .i64 (faultL ns)) by unfold errV; rw [if_neg hf]] at HC ⊢
  have HB0 : Hid (∀ o, Below w.heap.size w (w.alloc o)) := fun o => (Below.refl _ _).alloc (Nat.le_refl _) o
  obtain ⟨va, vc, rfl, vm⟩ := nsIn_form h
  clear h hf
  go_enter Tryd.func19, Tryd.ntmps19
  go_wp2_with fail
  refine Calls.mono (HC.out _ (HB0.out _)) ?_
  rintro e w1 ⟨a1, c1, rfl, hb⟩
  have B1 := hid ((HB0.out _).trans (hb.mono (HB0.out _).size))
  obtain ⟨d0, f0⟩ : w1.cell? ⟨w.heap.size, 0, none⟩ = some (.pointer none) ∧ w1.frozen? ⟨w.heap.size, 0, none⟩ = false := ⟨cell_later hb (by simp), (hb.frozen (p := ⟨w.heap.size, 0, none⟩) (by simp)).trans (by simp)⟩
  clear hb HC HB0
  go_wp2
  refine bodyPost_ret (v := .tuple #[.agg #[.pointer none], .iface 23 (.int .i64 (faultL ns))]) (by simp [results, Tryd.results19, go_sem, *]) rfl ⟨rfl, ?_⟩
  exact B1.out.setCell (p := ⟨w.heap.size, 0, none⟩) (Nat.le_refl _) _
theorem goodA_of {c : Ax} (t : Rx) (hss : c.ss = t.prog) (wN : ∀ n ∈ t.flat, n.wf) (hf : faultL t.flat = 0) {w : World} (hT : Tab w) (hB : w.heap.size ≤ c.B) : c.Good := by
  obtain ⟨h60, -, -⟩ := (faultL_zero t.flat).1 hf
  refine ⟨by rw [hss]; exact prog_fault t h60, fun n hn => C4.wf_ok (prog_wf t h60 wN n (by rw [← hss]; exact hn)).2.1, Nat.lt_of_lt_of_le (tab_lt hT) hB⟩
set_option maxHeartbeats 1000000 in
theorem finderOf_ok (t : Rx) (ht : t.Ok) (v : Value) (w : World) (h : NsIn w v t.flat) (hf : faultL t.flat = 0) :
    Calls Tryd.prog 19 #[v] w fun e w' => ∃ c : Ax, c.ss = t.prog ∧ w.heap.size ≤ c.B ∧ e = .returned (.tuple #[.agg #[c.u], .nilIface]) ∧ Below w.heap.size w w' ∧ AuN c w' := by
  obtain ⟨h60, hops, -⟩ := (faultL_zero t.flat).1 hf
  have HPF := hid (prog_fault t h60)
  have HC : Hid (∀ w', Below w.heap.size w w' → _) := fun w' hb => pof_tree t ht v w' (h.below hb) hf
  have HN : Hid (∀ u w', SsIn w' u t.prog → _) := fun u w' hs => new_ok t.prog u w' HPF.out hs
  have HB0 : Hid (∀ o, Below w.heap.size w (w.alloc o)) := fun o => (Below.refl _ _).alloc (Nat.le_refl _) o
  obtain ⟨va, vc, rfl, vm⟩ := nsIn_form h
  clear h hf hops h60
  go_enter Tryd.func19, Tryd.ntmps19
  go_wp2_with fail
  refine Calls.mono (HC.out _ (HB0.out _)) ?_
  rintro e w1 ⟨u1, rfl, hs, hb⟩
  have B1 := hid ((HB0.out _).trans (hb.mono (HB0.out _).size))
  have D1 : Hid (w1.heap[w.heap.size]? = some (.cells #[.pointer none] 56 (0, 0))) := (hb.block w.heap.size (by simp)).trans (World.alloc_heap_new w _)
  have HS := hid (HN.out u1 w1 hs)
  obtain ⟨a1, c1, rfl, -⟩ := ssIn_form hs
  have HL : Hid (w.heap.size < w1.heap.size) := heap_lt D1.out
  clear hb HC HB0 HN hs
  go_wp2_with fail
  refine Calls.mono HS.out ?_
  rintro e w2 ⟨c, hss, hcB, rfl, hb, K, Mb, hA⟩
  have B2 := hid (B1.out.trans (hb.mono B1.out.size))
  have D2 := hid ((hb.block _ HL.out).trans D1.out)
  have HA : Hid (AuN c w2) := ⟨_, _, _, _, _, hA⟩
  have HCS : Hid (c.ss = t.prog ∧ c.B = w1.heap.size) := ⟨hss, hcB⟩
  have d0 := Lib.cell_of_heap D2.out 0
  simp only [List.getElem?_toArray, List.getElem?_cons_zero, List.getElem?_cons_succ] at d0
  have f0 : w2.frozen? ⟨w.heap.size, 0, none⟩ = false := Lib.frozen_of_heap D2.out 0
  clear hb hA HS hss hcB D1
  go_wp2
  refine bodyPost_ret (v := .tuple #[.agg #[c.u], .nilIface]) (by simp [results, Tryd.results19, go_sem, *]) rfl ⟨c, HCS.out.1, ?_, rfl, ?_, ?_⟩
  · rw [HCS.out.2]; exact Nat.le_of_lt HL.out
  · exact B2.out.setCell (p := ⟨w.heap.size, 0, none⟩) (Nat.le_refl _) _
  · refine HA.out.box D2.out (by decide) (by decide) ?_ (growF_cell w2 ⟨w.heap.size, 0, none⟩ _)
    have := HA.out.size
    have := HCS.out.2
    have := HL.out
    omega
end Go.Proofs.YtphcncgdodhlbaaDoor
