/- Plain mathematics of classes, fourth part: a class can be read back out of its text; so two classes have other texts. -/
import Derived.Test.YtmdfdlljeggbbaaMt3
set_option linter.unusedSimpArgs false
set_option linter.unusedVariables false
namespace Go.Proofs.Ytmdfdlljeggbbaa
open Go.RowKit

def hexv (c : UInt8) : Nat := if c.toNat < 58 then c.toNat - 48 else c.toNat - 87
theorem hexv_hexd (k : Nat) (h : k < 16) : hexv (hexd k) = k := by
  have key : ∀ k : Fin 16, hexv (hexd k.val) = k.val := by decide +kernel
  exact key ⟨k, h⟩
/-- The first byte that a text tells, and what follows. -/
def one : List UInt8 → Option (Nat × List UInt8)
  | [] => none
  | c :: l =>
    if c = 92 then
      match l with
      | [] => none
      | d :: l2 =>
        if d = 120 then
          match l2 with
          | x :: y :: r => some (hexv x * 16 + hexv y, r)
          | _ => none
        else some (d.toNat, l2)
    else some (c.toNat, l)
theorem toU8_toNat (n : Nat) (h : n < 256) : n.toUInt8.toNat = n := by
  simp [Nat.toUInt8, UInt8.toNat_ofNat, Nat.mod_eq_of_lt h]
theorem one_bt (n : Nat) (h : n < 256) (l : List UInt8) : one (bt n ++ l) = some (n, l) := by
  have ht := toU8_toNat n h
  unfold bt
  split
  · show some (hexv (hexd (n / 16)) * 16 + hexv (hexd (n % 16)), l) = _
    rw [hexv_hexd _ (by omega), hexv_hexd _ (by omega), show n / 16 * 16 + n % 16 = n from by omega]
  · split
    · rename_i hs
      have : ¬ n.toUInt8 = 120 := by
        intro e
        rw [e] at hs
        exact absurd hs (by decide)
      simp only [List.cons_append, List.nil_append, one]
      rw [if_pos trivial, if_neg this, ht]
    · rename_i hs
      have : ¬ n.toUInt8 = 92 := by
        intro e
        rw [e] at hs
        exact hs (by decide)
      simp only [List.cons_append, List.nil_append, one]
      rw [if_neg this, ht]
/-- A sign other than the backslash opens no byte's text. -/
theorem bt_head (n : Nat) (l : List UInt8) (c : UInt8) (hc : c ∈ signL) (hn : c ≠ 92) : (bt n ++ l).head? ≠ some c := by
  unfold bt
  split
  · simp only [List.cons_append, List.head?_cons]
    intro e
    exact hn (Option.some.inj e).symm
  · split
    · simp only [List.cons_append, List.head?_cons]
      intro e
      exact hn (Option.some.inj e).symm
    · rename_i hs
      simp only [List.cons_append, List.head?_cons]
      intro e
      exact hs (by rw [Option.some.inj e]; exact hc)
theorem rt_head (i j : Nat) (l : List UInt8) (c : UInt8) (hc : c ∈ signL) (hn : c ≠ 92) : (rt i j ++ l).head? ≠ some c := by
  unfold rt
  split
  · exact bt_head i l c hc hn
  · split
    · rw [List.append_assoc]; exact bt_head i _ c hc hn
    · rw [List.append_assoc]; exact bt_head i _ c hc hn
theorem runsL_head (p : Nat → Bool) (c : UInt8) (hc : c ∈ signL) (hn : c ≠ 92) : ∀ (f i : Nat), (runsL p f i).head? ≠ some c
  | 0, i => by simp [runsL]
  | f + 1, i => by
    rw [runsL]
    split
    · split
      · exact rt_head _ _ _ c hc hn
      · rw [List.nil_append]; exact runsL_head p c hc hn f _
    · simp
theorem rEnd_spec (p : Nat → Bool) : ∀ (f i : Nat), (∀ j, i ≤ j → j < rEnd p f i → p j = true) ∧ (rEnd p f i < i + f → p (rEnd p f i) = false)
  | 0, i => ⟨fun j h1 h2 => by simp [rEnd] at h2; omega, fun h => by simp [rEnd] at h⟩
  | f + 1, i => by
    have ih := rEnd_spec p f (i + 1)
    rw [rEnd]
    split
    · rename_i hp
      refine ⟨fun j h1 h2 => ?_, fun h => ih.2 (by omega)⟩
      by_cases e : j = i
      · rw [e]; exact hp
      · exact ih.1 j (by omega) h2
    · rename_i hp
      exact ⟨fun j h1 h2 => by omega, fun _ => by simpa using hp⟩

/-- Which bytes a text of runs tells. -/
def dec (n : Nat) : Nat → List UInt8 → Bool
  | 0, _ => false
  | f + 1, l =>
    match one l with
    | none => false
    | some (a, r) =>
      if r.head? = some 45 then
        match one r.tail with
        | none => false
        | some (b, r3) => decide (a ≤ n ∧ n ≤ b) || dec n f r3
      else decide (a = n) || dec n f r
theorem dec_nil (n f : Nat) : dec n f [] = false := by
  cases f <;> rfl
theorem dec_one (n f a : Nat) (ha : a < 256) (r : List UInt8) (hr : r.head? ≠ some 45) : dec n (f + 1) (bt a ++ r) = (decide (a = n) || dec n f r) := by
  rw [dec, one_bt a ha r]
  simp only
  rw [if_neg hr]
theorem dec_two (n f a b : Nat) (ha : a < 256) (hb : b < 256) (r : List UInt8) : dec n (f + 1) (bt a ++ 45 :: (bt b ++ r)) = (decide (a ≤ n ∧ n ≤ b) || dec n f r) := by
  rw [dec, one_bt a ha]
  simp only [List.head?_cons, List.tail_cons, if_true]
  rw [one_bt b hb]
theorem dec_runs (p : Nat → Bool) (n : Nat) : ∀ (f i F : Nat), 256 ≤ f + i → 2 * f ≤ F → dec n F (runsL p f i) = (decide (i ≤ n ∧ n < 256) && p n)
  | 0, i, F, h, _ => by
    rw [runsL, dec_nil]
    have : ¬ (i ≤ n ∧ n < 256) := by omega
    simp [this]
  | f + 1, i, F, h, hF => by
    rw [runsL]
    by_cases hi : i < 256
    · rw [if_pos hi]
      have hle := rEnd_le p (256 - i) i
      have hsp := rEnd_spec p (256 - i) i
      generalize rEnd p (256 - i) i = e at *
      have ih := fun F' hF' => dec_runs p n f (e + 1) F' (by omega) hF'
      have hd := runsL_head p 45 (by decide) (by decide) f (e + 1)
      generalize runsL p f (e + 1) = R at *
      have tail : ∀ F', 2 * f ≤ F' → (decide (i ≤ n ∧ n < e) || dec n F' R) = (decide (i ≤ n ∧ n < 256) && p n) := by
        intro F' hF'
        rw [ih F' hF']
        by_cases c1 : i ≤ n ∧ n < e
        · have := hsp.1 n c1.1 c1.2
          have c2 : i ≤ n ∧ n < 256 := by omega
          simp [c1, c2, this]
        · by_cases c3 : n = e
          · subst c3
            by_cases c4 : n < 256
            · have := hsp.2 (by omega)
              simp [this]
            · have : ¬ (n + 1 ≤ n) := by omega
              simp [c4]
          · have : (e + 1 ≤ n ∧ n < 256) ↔ (i ≤ n ∧ n < 256) := by omega
            simp only [this, c1, decide_false, Bool.false_or]
      by_cases hg : i < e
      · rw [if_pos hg]
        unfold rt
        by_cases e1 : e - 1 = i
        · rw [if_pos e1]
          obtain ⟨F, rfl⟩ : ∃ g, F = g + 1 := ⟨F - 1, by omega⟩
          rw [dec_one n F i hi R hd, ← tail F (by omega)]
          have : (i ≤ n ∧ n < e) ↔ i = n := by omega
          simp only [this]
        · rw [if_neg e1]
          by_cases e2 : e - 1 = i + 1
          · rw [if_pos e2]
            obtain ⟨F, rfl⟩ : ∃ g, F = g + 1 + 1 := ⟨F - 2, by omega⟩
            rw [List.append_assoc, dec_one n (F + 1) i hi _ (bt_head _ _ 45 (by decide) (by decide)), dec_one n F (e - 1) (by omega) R hd, ← tail F (by omega), ← Bool.or_assoc]
            congr 1
            have : (i ≤ n ∧ n < e) ↔ (i = n ∨ e - 1 = n) := by omega
            simp only [this, Bool.decide_or]
          · rw [if_neg e2]
            obtain ⟨F, rfl⟩ : ∃ g, F = g + 1 := ⟨F - 1, by omega⟩
            rw [List.append_assoc, List.cons_append, dec_two n F i (e - 1) hi (by omega) R, ← tail F (by omega)]
            have : (i ≤ n ∧ n ≤ e - 1) ↔ (i ≤ n ∧ n < e) := by omega
            simp only [this]
      · rw [if_neg hg, List.nil_append, ← tail F (by omega)]
        have : ¬ (i ≤ n ∧ n < e) := by omega
        simp [this]
    · rw [if_neg hi, dec_nil]
      have : ¬ (i ≤ n ∧ n < 256) := by omega
      simp [this]
theorem runs_inj (p q : Nat → Bool) (h : runsL p 256 0 = runsL q 256 0) (n : Nat) (hn : n < 256) : p n = q n := by
  have h1 := dec_runs p n 256 0 512 (by omega) (by omega)
  have h2 := dec_runs q n 256 0 512 (by omega) (by omega)
  rw [h] at h1
  have h3 := h1.symm.trans h2
  have : (0 ≤ n ∧ n < 256) := by omega
  simpa [this] using h3

theorem runs256_inj {a b : C4} (ha : a.ok) (hb : b.ok) (h : runs256 a = runs256 b) : a = b := by
  apply C4.ext_has ha hb
  intro i hi
  have := runs_inj a.p b.p h i hi
  rwa [C4.p_eq a ha, C4.p_eq b hb] at this
theorem runs256_head (k : C4) (c : UInt8) (hc : c ∈ signL) (hn : c ≠ 92) : (runs256 k).head? ≠ some c := runsL_head k.p c hc hn 256 0
theorem textL_cases (k : C4) : (k = dotC ∧ textL k = [46]) ∨ textL k = runs256 k ∨ textL k = 91 :: (runs256 k ++ [93]) := by
  unfold textL
  split
  · rename_i h
    exact Or.inl ⟨(C4.eqb_iff _ _).1 h, rfl⟩
  · split
    · exact Or.inr (Or.inl rfl)
    · exact Or.inr (Or.inr rfl)
theorem textL_inj {a b : C4} (ha : a.ok) (hb : b.ok) (h : textL a = textL b) : a = b := by
  have hda := runs256_head a 46 (by decide) (by decide)
  have hdb := runs256_head b 46 (by decide) (by decide)
  have hba := runs256_head a 91 (by decide) (by decide)
  have hbb := runs256_head b 91 (by decide) (by decide)
  rcases textL_cases a with ⟨ea, ta⟩ | ta | ta <;> rcases textL_cases b with ⟨eb, tb⟩ | tb | tb <;> rw [ta, tb] at h
  · rw [ea, eb]
  · rw [← h] at hdb; exact absurd rfl hdb
  · simp at h
  · rw [h] at hda; exact absurd rfl hda
  · exact runs256_inj ha hb h
  · rw [h] at hba; exact absurd rfl hba
  · simp at h
  · rw [← h] at hbb; exact absurd rfl hbb
  · exact runs256_inj ha hb (List.append_cancel_right (List.cons.inj h).2)
theorem textL_eqb {a b : C4} (ha : a.ok) (hb : b.ok) : (textL a == textL b) = a.eqb b := by
  rw [Bool.eq_iff_iff, beq_iff_eq, C4.eqb_iff]
  exact ⟨textL_inj ha hb, fun h => by rw [h]⟩
end Go.Proofs.Ytmdfdlljeggbbaa
