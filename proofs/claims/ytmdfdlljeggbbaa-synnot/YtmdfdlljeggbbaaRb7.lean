/- The landed reader: group, single with brackets; all by induction. -/
import Derived.Test.YtmdfdlljeggbbaaRb6
set_option linter.unusedSimpArgs false
set_option linter.unusedVariables false
set_option maxRecDepth 100000
namespace Go.Proofs.Ytmdfdlljeggbbaa
open Go.RowKit
def grR : Except Nat (List Rx × List UInt8) → Except Nat (Rx × List UInt8)
  | .ok (ss, r) => if r.head? = some 41 then .ok (ors ss, r.tail) else .error r.length
  | .error k => .error k
set_option maxHeartbeats 1000000 in
theorem group_any (l : List UInt8) (R0 : Except Nat (List Rx × List UInt8)) (h : Fits 35 l (orR R0)) : Fits 59 l (grR R0) := by
  intro g s ns w hm hp
  have hlt := hp.lt
  have HF := hid (h g s ns w hm hp)
  clear h hp hm
  cases R0 with
  | error k =>
    go_enter_defers Try.func59, Try.ntmps59
    go_wp2_with fail
    refine Calls.mono HF.out ?_
    rintro e w2 ⟨rfl, hs, hb2⟩
    refine door_stuck _ _ _ _ _ g _ hs ?_
    intro w6 hb6
    exact ⟨rfl, hs.below hb6, hb2.trans (hb6.mono (Nat.le_trans (Nat.le_of_lt hlt) hb2.size))⟩
  | ok p =>
    obtain ⟨ss, r⟩ := p
    by_cases hr : r.head? = some 41
    · have HR : Hid (grR (.ok (ss, r)) = .ok (ors ss, r.tail)) := by show _ = _; rw [grR, if_pos hr]
      have HT := hid (tail_len r _ hr).1
      rw [HR.out]
      clear hr
      go_enter_defers Try.func59, Try.ntmps59
      go_wp2_with fail
      refine Calls.mono HF.out ?_
      rintro e w2 ⟨rfl, hp2, hb2⟩
      obtain ⟨a2, v2, hp2, hO2⟩ := hp2
      go_wp2_with fail
      rw [HT.out] at hp2
      refine door_yes _ _ _ 41 g s a2 v2 r.tail _ hp2 ?_
      intro w4 hp4 hg4
      exact ⟨_, results_none rfl _ _ _, rfl, ⟨_, v2, hp4, hO2.keptG hg4 (Nat.lt_succ_self g)⟩, hb2.trans (below_of_grown hg4 (Nat.le_refl _) (Nat.le_of_lt hp2.lt))⟩
    · have HR : Hid (grR (.ok (ss, r)) = .error r.length) := by show _ = _; rw [grR, if_neg hr]
      rw [HR.out]
      go_enter_defers Try.func59, Try.ntmps59
      go_wp2_with fail
      refine Calls.mono HF.out ?_
      rintro e w2 ⟨rfl, hp2, hb2⟩
      obtain ⟨a2, v2, hp2, hO2⟩ := hp2
      go_wp2_with fail
      refine door_no _ _ _ 41 g s a2 v2 r _ hp2 hr ?_
      intro w4 hs hg4
      exact ⟨rfl, hs, hb2.trans (below_of_grown hg4 (Nat.le_refl _) (Nat.le_of_lt hp2.lt))⟩
set_option maxHeartbeats 1000000 in
theorem single_group (r : List UInt8) (R : Except Nat (Rx × List UInt8)) (h : Fits 59 r R) : Fits 53 (40 :: r) R := by
  intro g s ns w hm hp
  have hlt := hp.lt
  have HP := hid hp
  have HB := hid (Below.refl g w)
  have HF : Hid (∀ w5, PAt w5 g s r ns → Calls Try.prog 59 #[.pointer (some ⟨g, 0, none⟩)] w5 (TrP w5 g s ns R)) := fun w5 hp5 => h g s ns w5 (by simp at hm; omega) hp5
  clear h hp hm
  go_enter Try.func53, Try.ntmps53
  go_wp2_with fail
  refine Calls.mono (skipN g s _ ns 94 _ rfl _ HP.out (by simp)) ?_
  rintro e w1 ⟨rfl, hp, hb⟩
  replace HP := hid hp
  replace HB := hid (HB.out.trans (hb.mono (Nat.le_trans (Nat.le_of_lt hlt) HB.out.size)))
  clear hp hb
  go_wp2_with fail
  refine Calls.mono (skipN g s _ ns 36 _ rfl _ HP.out (by simp)) ?_
  rintro e w2 ⟨rfl, hp, hb⟩
  replace HP := hid hp
  replace HB := hid (HB.out.trans (hb.mono (Nat.le_trans (Nat.le_of_lt hlt) HB.out.size)))
  clear hp hb
  go_wp2_with fail
  refine Calls.mono (skipN g s _ ns 46 _ rfl _ HP.out (by simp)) ?_
  rintro e w3 ⟨rfl, hp, hb⟩
  replace HP := hid hp
  replace HB := hid (HB.out.trans (hb.mono (Nat.le_trans (Nat.le_of_lt hlt) HB.out.size)))
  clear hp hb
  go_wp2_with fail
  refine Calls.mono (skipN g s _ ns 91 _ rfl _ HP.out (by simp)) ?_
  rintro e w4 ⟨rfl, hp, hb⟩
  replace HP := hid hp
  replace HB := hid (HB.out.trans (hb.mono (Nat.le_trans (Nat.le_of_lt hlt) HB.out.size)))
  clear hp hb
  go_wp2_with fail
  refine Calls.mono (skipY g s r ns 40 _ rfl _ HP.out) ?_
  rintro e w5 ⟨rfl, hp, hb⟩
  replace HP := hid hp
  replace HB := hid (HB.out.trans hb)
  clear hp hb
  go_wp2_with fail
  refine Calls.mono (HF.out _ HP.out) ?_
  intro e w6 h6
  cases R with
  | error k =>
    obtain ⟨rfl, hs, hb6⟩ := h6
    exact ⟨rfl, rfl, hs, HB.out.trans hb6⟩
  | ok p =>
    obtain ⟨t, r2⟩ := p
    obtain ⟨rfl, hp6, hb6⟩ := h6
    go_wp2
    go_end0
    exact ⟨rfl, hp6, HB.out.trans hb6⟩
/-- What is read where no bracket opens, as a tree. -/
theorem single_fits (l : List UInt8) (h40 : l.head? ≠ some 40) : Fits 53 l (match base l with | .ok (n, r) => .ok (.leaf n, r) | .error k => .error k) := by
  intro g s ns w hm hp
  have h := single_any g s l ns (by omega) h40 w hp
  cases hb : base l with
  | error k => rw [hb] at h; exact h
  | ok p => obtain ⟨n, r⟩ := p; rw [hb] at h; exact h
theorem read_all : ∀ n, HA n ∧ HCh n ∧ (∀ l : List UInt8, l.length ≤ n → ∀ R, Alt l R → Fits 35 l (orR R)) := by
  intro n
  induction n with
  | zero =>
    have hA : HA 0 := by
      intro l hl R hR
      have : l = [] := List.eq_nil_of_length_eq_zero (by omega)
      subst this
      cases hR with
      | bad _ k h hb =>
        have hf := single_fits [] h
        rw [hb] at hf
        exact repeated_bad [] k hf
      | ok _ m l1 h hb =>
        have := base_len _ _ _ hb
        simp at this
    have hC : HCh 0 := fun l hl R hR => chain_any 0 hA l hl R hR
    exact ⟨hA, hC, fun l hl R hR => choice_any 0 hC l hl R hR⟩
  | succ n ih =>
    have hA : HA (n + 1) := by
      intro l hl R hR
      cases hR with
      | bad _ k h hb =>
        have hf := single_fits l h
        rw [hb] at hf
        exact repeated_bad l k hf
      | ok _ m l1 h hb =>
        have hf := single_fits l h
        rw [hb] at hf
        refine repeated_ok l (.leaf m) l1 hf ?_
        have := base_len _ _ _ hb
        simp [Rx.flat]
        omega
      | inBad l0 k ha =>
        have hc := ih.2.2 l0 (by simp at hl; omega) _ ha
        exact repeated_bad _ k (single_group l0 _ (group_any l0 _ hc))
      | inOpen l0 ss l1 ha hh =>
        have hc := ih.2.2 l0 (by simp at hl; omega) _ ha
        have hg := group_any l0 _ hc
        rw [grR, if_neg hh] at hg
        exact repeated_bad _ _ (single_group l0 _ hg)
      | inOk l0 ss l1 ha =>
        have hc := ih.2.2 l0 (by simp at hl; omega) _ ha
        have hg := group_any l0 _ hc
        rw [grR, if_pos (show (41 :: l1).head? = some 41 from rfl)] at hg
        refine repeated_ok _ (ors ss) l1 (single_group l0 _ hg) ?_
        have h1 := (sizes l0.length l0 (Nat.le_refl _)).2.2 ss _ ha
        have h2 := orL_len (ss.map Rx.flat)
        rw [ors_flat ss (alt_ne l0 ss _ ha)]
        simp only [List.length_map, List.length_cons] at h1 h2 ⊢
        omega
    have hC : HCh (n + 1) := fun l hl R hR => chain_any (n + 1) hA l hl R hR
    exact ⟨hA, hC, fun l hl R hR => choice_any (n + 1) hC l hl R hR⟩
end Go.Proofs.Ytmdfdlljeggbbaa
