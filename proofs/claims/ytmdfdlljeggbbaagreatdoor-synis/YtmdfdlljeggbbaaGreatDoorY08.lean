/- What is printed is read: plain mathematics. -/
import Derived.Test.YtmdfdlljeggbbaaGreatDoorY04
import Derived.Test.YtmdfdlljeggbbaaGreatDoorY05
namespace Go.Proofs.YtmdfdlljeggbbaaGreatDoor
set_option linter.unusedSimpArgs false
set_option linter.unusedVariables false
set_option maxRecDepth 100000
open Go.RowKit

theorem hx_hexd (k : Nat) (h : k < 16) : hx (hexd k) = some k := by
  have key : ∀ k : Fin 16, hx (hexd k.val) = some k.val := by decide +kernel
  exact key ⟨k, h⟩
theorem rd1_bt (n : Nat) (h : n < 256) (l : List UInt8) : rd1 (bt n ++ l) = .ok (n, l) := by
  have ht := toU8_toNat n h
  unfold bt
  split
  · have h1 : hx (hexd (n / 16)) = some (n / 16) := hx_hexd _ (by omega)
    have h2 : hx (hexd (n % 16)) = some (n % 16) := hx_hexd _ (by omega)
    simp only [List.cons_append, List.nil_append, rd1, rdEsc, if_true]
    rw [if_neg (by decide)]
    simp only [rdHex, h1, h2]
    rw [show n / 16 * 16 + n % 16 = n from by omega]
  · rename_i hr
    split
    · rename_i hs
      simp only [List.cons_append, List.nil_append, rd1, rdEsc, if_true]
      rw [if_pos hs, ht]
    · rename_i hs
      have : ¬ n.toUInt8 = 92 := by
        intro e
        rw [e] at hs
        exact hs (by decide)
      simp only [List.cons_append, List.nil_append, rd1]
      rw [if_neg this, if_neg (by rw [ht]; rintro (h | h | h) <;> first | omega | exact hs h), ht]
theorem addTo_ok {c : C4} (h : c.ok) (lo : Nat) : ∀ n, (addTo c lo n).ok
  | 0 => h
  | n + 1 => C4.add_ok (addTo_ok h lo n) (lo + n)
theorem addTo_has {c : C4} (h : c.ok) (lo : Nat) : ∀ n, lo + n ≤ 256 → ∀ i, i < 256 → (addTo c lo n).has i = (c.has i || decide (lo ≤ i ∧ i < lo + n))
  | 0, _, i, _ => by
    have : ¬ (lo ≤ i ∧ i < lo + 0) := by omega
    rw [addTo, decide_eq_false this, Bool.or_false]
  | n + 1, hn, i, hi => by
    rw [addTo, C4.has_add (addTo_ok h lo n) (lo + n) i (by omega) hi, addTo_has h lo n (by omega) i hi, Bool.or_assoc]
    congr 1
    rw [← Bool.decide_or]
    congr 1
    apply propext
    omega
/-- The items that a class's runs print are read back. -/
theorem items_runs (p : Nat → Bool) (r : List UInt8) : ∀ (f i F : Nat) (c : C4), c.ok → 256 ≤ f + i → 2 * f < F → ∃ c' : C4, items F c (runsL p f i ++ 93 :: r) = .ok (c', r) ∧ c'.ok ∧ ∀ n, n < 256 → c'.has n = (c.has n || (decide (i ≤ n) && p n))
  | 0, i, F, c, hc, h, hF => by
    obtain ⟨F, rfl⟩ : ∃ g, F = g + 1 := ⟨F - 1, by omega⟩
    refine ⟨c, ?_, hc, fun n hn => ?_⟩
    · rw [runsL, List.nil_append, items, if_pos (by rfl)]; rfl
    · have : ¬ i ≤ n := by omega
      simp [this]
  | f + 1, i, F, c, hc, h, hF => by
    rw [runsL]
    by_cases hi : i < 256
    · rw [if_pos hi]
      have hle := rEnd_le p (256 - i) i
      have hsp := rEnd_spec p (256 - i) i
      generalize rEnd p (256 - i) i = e at *
      have ih := fun F' (c : C4) hc hF' => items_runs p r f (e + 1) F' c hc (by omega) hF'
      have hd := runsL_head p 45 (by decide) (by decide) f (e + 1)
      generalize runsL p f (e + 1) = R at *
      have hdR : (R ++ 93 :: r).head? ≠ some 45 := by
        cases R with
        | nil => simp
        | cons a b => simpa using hd
      have tail : ∀ n, n < 256 → (decide (i ≤ n ∧ n < e) || (decide (e + 1 ≤ n) && p n)) = (decide (i ≤ n) && p n) := by
        intro n hn
        by_cases c1 : i ≤ n ∧ n < e
        · have := hsp.1 n c1.1 c1.2
          simp [c1, this]
        · by_cases c3 : n = e
          · subst c3
            have := hsp.2 (by omega)
            simp [this]
          · have : e + 1 ≤ n ↔ i ≤ n := by omega
            simp only [this, c1, decide_false, Bool.false_or]
      by_cases hg : i < e
      · rw [if_pos hg]
        unfold rt
        by_cases e1 : e - 1 = i
        · rw [if_pos e1]
          obtain ⟨F, rfl⟩ : ∃ g, F = g + 1 := ⟨F - 1, by omega⟩
          obtain ⟨c', h1, h2, h3⟩ := ih F (c.add ((i : Nat) : Int)) (C4.add_ok hc i) (by omega)
          refine ⟨c', ?_, h2, fun n hn => ?_⟩
          · rw [List.append_assoc, items, if_neg (bt_head i _ 93 (by decide) (by decide)), rd1_bt i hi]
            simp only
            rw [if_neg hdR, h1]
          · rw [h3 n hn, C4.has_add hc i n hi hn, ← tail n hn, Bool.or_assoc]
            have : (i ≤ n ∧ n < e) ↔ i = n := by omega
            simp only [this]
        · rw [if_neg e1]
          by_cases e2 : e - 1 = i + 1
          · rw [if_pos e2]
            obtain ⟨F, rfl⟩ : ∃ g, F = g + 1 + 1 := ⟨F - 2, by omega⟩
            obtain ⟨c', h1, h2, h3⟩ := ih F ((c.add ((i : Nat) : Int)).add ((e - 1 : Nat) : Int)) (C4.add_ok (C4.add_ok hc i) (e - 1)) (by omega)
            refine ⟨c', ?_, h2, fun n hn => ?_⟩
            · rw [List.append_assoc, List.append_assoc, items, if_neg (bt_head i _ 93 (by decide) (by decide)), rd1_bt i hi]
              simp only
              rw [if_neg (bt_head (e - 1) _ 45 (by decide) (by decide)), items, if_neg (bt_head (e - 1) _ 93 (by decide) (by decide)), rd1_bt (e - 1) (by omega)]
              simp only
              rw [if_neg hdR, h1]
            · rw [h3 n hn, C4.has_add (C4.add_ok hc i) (e - 1) n (by omega) hn, C4.has_add hc i n hi hn, ← tail n hn]
              simp only [Bool.or_assoc]
              congr 1
              rw [← Bool.or_assoc]
              congr 1
              have : (i ≤ n ∧ n < e) ↔ (i = n ∨ e - 1 = n) := by omega
              simp only [this, Bool.decide_or]
          · rw [if_neg e2]
            obtain ⟨F, rfl⟩ : ∃ g, F = g + 1 := ⟨F - 1, by omega⟩
            obtain ⟨c', h1, h2, h3⟩ := ih F (addTo c i (e - i)) (addTo_ok hc i _) (by omega)
            refine ⟨c', ?_, h2, fun n hn => ?_⟩
            · rw [List.append_assoc, List.append_assoc, List.cons_append, items, if_neg (bt_head i _ 93 (by decide) (by decide)), rd1_bt i hi]
              simp only
              rw [if_pos (by rfl), List.tail_cons, rd1_bt (e - 1) (by omega)]
              simp only
              rw [if_neg (by omega), show e - 1 + 1 - i = e - i from by omega, h1]
            · rw [h3 n hn, addTo_has hc i (e - i) (by omega) n hn, ← tail n hn, Bool.or_assoc, show i + (e - i) = e from by omega]
      · rw [if_neg hg, List.nil_append]
        obtain ⟨c', h1, h2, h3⟩ := ih F c hc (by omega)
        refine ⟨c', h1, h2, fun n hn => ?_⟩
        rw [h3 n hn, ← tail n hn]
        have : ¬ (i ≤ n ∧ n < e) := by omega
        simp [this]
    · rw [if_neg hi]
      obtain ⟨F, rfl⟩ : ∃ g, F = g + 1 := ⟨F - 1, by omega⟩
      refine ⟨c, ?_, hc, fun n hn => ?_⟩
      · rw [List.nil_append, items, if_pos (by rfl)]; rfl
      · have : ¬ i ≤ n := by omega
        simp [this]
theorem items_more : ∀ (f g : Nat) (c : C4) (l : List UInt8) (x : C4 × List UInt8), f ≤ g → items f c l = .ok x → items g c l = .ok x
  | 0, g, c, l, x, _, h => by simp [items] at h
  | f + 1, 0, c, l, x, hg, h => by omega
  | f + 1, g + 1, c, l, x, hg, h => by
    rw [items] at h ⊢
    split at h
    · rename_i h0; rw [if_pos h0]; exact h
    · rename_i h0
      rw [if_neg h0]
      cases h1 : rd1 l with
      | error e => rw [h1] at h; simp at h
      | ok p =>
        obtain ⟨lo, l1⟩ := p
        rw [h1] at h
        simp only at h ⊢
        split at h
        · rename_i h2
          rw [if_pos h2]
          cases h3 : rd1 l1.tail with
          | error e => rw [h3] at h; simp at h
          | ok p =>
            obtain ⟨hi, l2⟩ := p
            rw [h3] at h
            simp only at h ⊢
            split at h
            · simp at h
            · rename_i h4
              rw [if_neg h4]
              exact items_more f g _ _ _ (by omega) h
        · rename_i h2
          rw [if_neg h2]
          exact items_more f g _ _ _ (by omega) h
/-- More fuel than bytes is enough. -/
theorem items_fuel : ∀ (f g : Nat) (c : C4) (l : List UInt8), l.length < f → f ≤ g → items g c l = items f c l
  | 0, g, c, l, h, _ => by omega
  | f + 1, 0, c, l, h, hg => by omega
  | f + 1, g + 1, c, l, h, hg => by
    rw [items, items]
    split
    · rfl
    · cases h1 : rd1 l with
      | error e => rfl
      | ok p =>
        obtain ⟨lo, l1⟩ := p
        have g1 := (rd1_len l lo l1 h1).1
        simp only
        split
        · rename_i h2
          have g2 := (tail_len l1 _ h2).2
          cases h3 : rd1 l1.tail with
          | error e => rfl
          | ok p =>
            obtain ⟨hi, l2⟩ := p
            have g3 := (rd1_len _ _ _ h3).1
            simp only
            split
            · rfl
            · exact items_fuel f g _ _ (by omega) (by omega)
        · exact items_fuel f g _ _ (by omega) (by omega)
/-- A class's text is read as it. -/
theorem single_class {k : C4} (hk : k.ok) (h : (k.many 4 == 1) = true) : ∃ b, b < 256 ∧ runs256 k = bt b ∧ k = z4.add ((b : Nat) : Int) := by
  rw [many_cnt hk] at h
  have hc : cnt k.has 256 = 1 := by
    have := eq_of_beq h
    omega
  have ⟨i, hi, hp⟩ : ∃ i, i < 256 ∧ k.has i = true := by
    by_cases e : ∃ i, i < 256 ∧ k.has i = true
    · exact e
    · exfalso
      have : cnt k.has 256 = cnt (fun _ => false) 256 := by
        apply cnt_congr
        intro i hi
        cases hp : k.has i
        · rfl
        · exact absurd ⟨i, hi, hp⟩ e
      have h0 : ∀ n, cnt (fun _ => false) n = 0 := by
        intro n
        induction n with
        | zero => rfl
        | succ n ih => rw [cnt, ih]; rfl
      rw [this, h0] at hc
      omega
  have hu : k = z4.add ((i : Nat) : Int) := by
    apply C4.ext_has hk (C4.add_ok z4_ok i)
    intro j hj
    rw [C4.has_add z4_ok i j hi hj, z4_has, Bool.false_or]
    cases hj2 : k.has j
    · symm
      rw [decide_eq_false_iff_not]
      rintro rfl
      rw [hp] at hj2; cases hj2
    · symm
      rw [decide_eq_true_iff]
      exact cnt_one k.has 256 i j hc hi hj hp hj2
  refine ⟨i, hi, ?_, hu⟩
  have hz : ∀ j, j ≤ i → runsL k.has 256 0 = runsL k.has (256 - j) j := by
    intro j
    induction j with
    | zero => intro _; rfl
    | succ j ih =>
      intro hj
      have hn : k.has j = false := by
        cases hj2 : k.has j
        · rfl
        · have := cnt_one k.has 256 i j hc hi (by omega) hp hj2
          omega
      rw [ih (by omega), show 256 - j = (256 - (j + 1)) + 1 from by omega, runsL_no k.has _ j (by omega) hn]
  rw [runs256, C4.p_eq k hk, hz i (Nat.le_refl _), show 256 - i = (255 - i) + 1 from by omega, one_run k.has _ i hi hc hp]
theorem base_text {k : C4} (hk : k.ok) (r : List UInt8) : base (textL k ++ r) = .ok (⟨1, k⟩, r) := by
  by_cases hd : k.eqb dotC = true
  · rw [textL_dot k hd, (C4.eqb_iff _ _).1 hd]
    rfl
  · have hd2 : k.eqb dotC = false := Bool.eq_false_iff.2 hd
    cases h1 : (k.many 4 == 1)
    · rw [textL_more k hd2 h1]
      have hh : (runs256 k ++ 93 :: r).head? ≠ some 94 := by
        have := runs256_head k 94 (by decide) (by decide)
        cases hr : runs256 k with
        | nil => simp
        | cons a b => rw [hr] at this; simpa using this
      obtain ⟨c', i1, i2, i3⟩ := items_runs k.p r 256 0 513 z4 z4_ok (by omega) (by omega)
      have e : c' = k := by
        apply C4.ext_has i2 hk
        intro n hn
        rw [i3 n hn, z4_has, C4.p_eq k hk]
        simp
      have ei : items ((runs256 k ++ 93 :: r).length + 1) z4 (runs256 k ++ 93 :: r) = .ok (k, r) := by
        rw [e] at i1
        rcases Nat.le_total 513 ((runs256 k ++ 93 :: r).length + 1) with h | h
        · exact items_more 513 _ _ _ _ h i1
        · rw [← items_fuel ((runs256 k ++ 93 :: r).length + 1) 513 z4 _ (by omega) h]
          exact i1
      have e2 : 91 :: (runs256 k ++ [93]) ++ r = 91 :: (runs256 k ++ 93 :: r) := by simp
      rw [e2, base, if_pos (by rfl), List.tail_cons, bracket, if_neg hh, ei]
    · rw [textL_one k hd2 h1]
      obtain ⟨b, hb, e1, e2⟩ := single_class hk h1
      rw [e1, base, if_neg (bt_head b r 91 (by decide) (by decide)), if_neg (bt_head b r 46 (by decide) (by decide)), if_neg (bt_head b r 94 (by decide) (by decide)), if_neg (bt_head b r 36 (by decide) (by decide)), rd1_bt b hb]
      show Except.ok ((⟨1, z4.add ((b : Nat) : Int)⟩ : Nd), r) = _
      rw [← e2]
end Go.Proofs.YtmdfdlljeggbbaaGreatDoor
