/- What the document's own functions answer: ClassText. -/
import Derived.Test.YtmdfdlljeggbbaaMt4
set_option linter.unusedSimpArgs false
set_option linter.unusedVariables false
namespace Go.Proofs.Ytmdfdlljeggbbaa
open Go.RowKit

theorem cnt_two (p : Nat → Bool) : ∀ (n i j : Nat), i < n → j < n → i ≠ j → p i = true → p j = true → 2 ≤ cnt p n
  | 0, i, j, hi, _, _, _, _ => by omega
  | n + 1, i, j, hi, hj, hij, pi, pj => by
    have pos : ∀ m t, t < m → p t = true → 1 ≤ cnt p m := by
      intro m t ht pt
      rcases Nat.eq_zero_or_pos (cnt p m) with h0 | h0
      · have := cnt_pos p m h0 t ht
        rw [this] at pt
        cases pt
      · exact h0
    rw [cnt]
    by_cases e1 : i = n
    · subst e1
      rw [pi]
      have := pos i j (by omega) pj
      simp
      omega
    · by_cases e2 : j = n
      · subst e2
        rw [pj]
        have := pos j i (by omega) pi
        simp
        omega
      · have := cnt_two p n i j (by omega) (by omega) hij pi pj
        omega
theorem cnt_one (p : Nat → Bool) (n i j : Nat) (h : cnt p n = 1) (hi : i < n) (hj : j < n) (pi : p i = true) (pj : p j = true) : i = j := by
  by_cases e : i = j
  · exact e
  · have := cnt_two p n i j hi hj e pi pj
    omega
theorem cnt_single (p : Nat → Bool) (n t : Nat) (ht : t < n) (h : ∀ i, i < n → p i = decide (i = t)) : cnt p n = 1 := by
  have key : ∀ m, m ≤ n → cnt p m = if t < m then 1 else 0 := by
    intro m
    induction m with
    | zero => intro _; simp [cnt]
    | succ m ih =>
      intro hm
      rw [cnt, ih (by omega), h m (by omega)]
      by_cases e : m = t
      · subst e; simp
      · by_cases c : t < m
        · have : t < m + 1 := by omega
          simp [c, e, this]
        · have : ¬ t < m + 1 := by omega
          simp [c, e, this]
  rw [key n (Nat.le_refl _), if_pos ht]
theorem dotC_ok : dotC.ok := C4.not_ok (ofL_ok _)
theorem dotC_has (n : Nat) (hn : n < 256) : dotC.has n = !decide (n = 10) := by
  unfold dotC
  rw [C4.has_not (ofL_ok _), ofL_has _ n hn]
  congr 1
  simp only [List.mem_singleton, exists_eq_left]
  have : (UInt8.toNat 10 = n) ↔ (n = 10) := by
    have : UInt8.toNat 10 = 10 := rfl
    rw [this]; omega
  simp only [this]
theorem dot_iff {k : C4} (hk : k.ok) : ((((cnt k.not.has 256 : Nat) : Int) == 1) && !k.has 10) = k.eqb dotC := by
  rw [Bool.eq_iff_iff, C4.eqb_iff, Bool.and_eq_true, Bool.not_eq_true', beq_iff_eq]
  constructor
  · rintro ⟨h1, h2⟩
    have h1' : cnt k.not.has 256 = 1 := by omega
    have h3 : k.not.has 10 = true := by rw [C4.has_not hk, h2]; rfl
    apply C4.ext_has hk dotC_ok
    intro i hi
    rw [dotC_has i hi]
    by_cases e : i = 10
    · subst e; rw [h2]; rfl
    · have : k.not.has i = false := by
        cases h : k.not.has i
        · rfl
        · exact absurd (cnt_one _ 256 i 10 h1' hi (by decide) h h3) e
      rw [C4.has_not hk] at this
      simp only [e, decide_false, Bool.not_false]
      simpa using this
  · intro h
    subst h
    refine ⟨?_, by rw [dotC_has 10 (by decide)]; rfl⟩
    have := cnt_single dotC.not.has 256 10 (by decide) (fun i hi => by rw [C4.has_not dotC_ok, dotC_has i hi, Bool.not_not])
    rw [this]
    rfl
theorem runsL_none (p : Nat → Bool) : ∀ (f i : Nat), (∀ n, i ≤ n → n < 256 → p n = false) → runsL p f i = []
  | 0, i, _ => rfl
  | f + 1, i, h => by
    rw [runsL]
    by_cases hi : i < 256
    · have e := rEnd_no p i hi (h i (Nat.le_refl _) hi)
      rw [if_pos hi, e, if_neg (Nat.lt_irrefl _), List.nil_append]
      exact runsL_none p f (i + 1) (fun n h1 h2 => h n (by omega) h2)
    · rw [if_neg hi]
theorem one_run (p : Nat → Bool) (f i : Nat) (hi : i < 256) (h : cnt p 256 = 1) (pi : p i = true) : runsL p (f + 1) i = bt i := by
  have e1 := rEnd_yes p i hi pi
  have e2 : rEnd p (256 - (i + 1)) (i + 1) = i + 1 := by
    by_cases h2 : i + 1 < 256
    · apply rEnd_no p (i + 1) h2
      cases hp : p (i + 1)
      · rfl
      · exact absurd (cnt_one p 256 i (i + 1) h hi h2 pi hp) (by omega)
    · rw [show 256 - (i + 1) = 0 from by omega, rEnd]
  rw [runsL, if_pos hi, e1, e2, if_pos (Nat.lt_succ_self i), runsL_none p f (i + 1 + 1), List.append_nil]
  · simp [rt]
  · intro n h1 h2
    cases hp : p n
    · rfl
    · exact absurd (cnt_one p 256 i n h hi h2 pi hp) (by omega)
/-- What is left to be told, at a place that is in no run. -/
theorem runsL_no (p : Nat → Bool) (f i : Nat) (hi : i < 256) (h : p i = false) : runsL p (f + 1) i = runsL p f (i + 1) := by
  rw [runsL, if_pos hi, rEnd_no p i hi h, if_neg (Nat.lt_irrefl _), List.nil_append]
theorem runsL_yes (p : Nat → Bool) (f i en : Nat) (hi : i < 256) (he : rEnd p (256 - i) i = en) (hlt : i < en) : runsL p (f + 1) i = rt i (en - 1) ++ runsL p (f + 1) en := by
  have h0 : runsL p (f + 1) en = runsL p f (en + 1) := by
    have hle := rEnd_le p (256 - i) i
    have hsp := rEnd_spec p (256 - i) i
    rw [he] at hle hsp
    by_cases h : en < 256
    · exact runsL_no p f en h (hsp.2 (by omega))
    · rw [runsL, if_neg h]
      cases f with
      | zero => rfl
      | succ f => rw [runsL, if_neg (by omega)]
  rw [h0, runsL, if_pos hi, he, if_pos hlt]
theorem many_one {k : C4} (hk : k.ok) : (k.many 4 == 1) = (((cnt k.has 256 : Nat) : Int) == 1) := by rw [many_cnt hk]
end Go.Proofs.Ytmdfdlljeggbbaa
