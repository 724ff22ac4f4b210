/- The program of a tree is one, and its ends are the tree's: plain mathematics. A program, all ways at once: what is come to at one place, and the next one: plain mathematics. Sets of steps: what a program comes to at a place and at the next one hangs on the set, the byte, and whether the text begins or ends there: plain mathematics. -/
import Derived.Test.YtejbififfceamaaGreatDoorY21
import Derived.Test.YtejbififfceamaaGreatDoorY03
namespace Go.Proofs.YtejbififfceamaaGreatDoor
set_option linter.unusedSimpArgs false
set_option linter.unusedVariables false
set_option maxRecDepth 100000
open Go.RowKit
/-- What may be of a step of a part that ends at step e. -/
def StOk (e : Nat) (n : St) : Prop := (1 ≤ n.op ∧ n.op ≤ 4) ∧ (0 ≤ n.x ∧ n.x ≤ (e : Int)) ∧ (0 ≤ n.y ∧ n.y ≤ (e : Int)) ∧ (n.op ≠ 2 → n.y = 0) ∧ (n.op ≠ 1 → n.c = z4)
theorem StOk.mono {e f : Nat} {n : St} (h : StOk e n) (hf : e ≤ f) : StOk f n := by
  obtain ⟨h1, h2, h3, h4, h5⟩ := h
  exact ⟨h1, ⟨h2.1, by omega⟩, ⟨h3.1, by omega⟩, h4, h5⟩
theorem stF_ok {e x y : Nat} (hx : x ≤ e) (hy : y ≤ e) : StOk e (stF x y) := ⟨by simp, by simp; omega, by simp; omega, by simp, by simp⟩
theorem cod_ok : ∀ (t : Rx) (p : Nat), ∀ n ∈ t.cod p, StOk (p + (t.cod p).length) n
  | .leaf m, p => by
    intro n hn
    simp only [Rx.cod] at hn ⊢
    split at hn
    · simp at hn; subst hn; rename_i h; simp [h]; exact ⟨by simp, by simp; omega, by simp; omega, by simp, by simp⟩
    · rename_i h1
      split at hn
      · simp at hn; subst hn; rename_i h; simp [h]; exact ⟨by simp, by simp; omega, by simp; omega, by simp, by simp⟩
      · rename_i h8
        split at hn
        · simp at hn; subst hn; rename_i h; simp [h]; exact ⟨by simp, by simp; omega, by simp; omega, by simp, by simp⟩
        · cases hn
  | .one m a, p => by
    intro n hn
    have h1 := cod_ok a p
    have h2 := cod_ok a (p + 1)
    simp only [Rx.cod] at hn ⊢
    split at hn
    · rename_i h
      rw [if_pos h]
      simp only [List.length_cons, List.length_append, List.length_nil]
      simp only [List.mem_cons, List.mem_append, List.not_mem_nil, or_false] at hn
      rcases hn with rfl | hn | rfl
      · exact stF_ok (by omega) (by omega)
      · exact (h2 n hn).mono (by omega)
      · exact stF_ok (by omega) (by omega)
    · rename_i h
      rw [if_neg h]
      split at hn
      · rename_i h6
        rw [if_pos h6]
        simp only [List.length_cons, List.length_append, List.length_nil]
        simp only [List.mem_cons, List.mem_append, List.not_mem_nil, or_false] at hn
        rcases hn with hn | rfl
        · exact (h1 n hn).mono (by omega)
        · exact stF_ok (by omega) (by omega)
      · rename_i h6
        rw [if_neg h6]
        simp only [List.length_cons]
        simp only [List.mem_cons] at hn
        rcases hn with rfl | hn
        · exact stF_ok (by omega) (by omega)
        · exact (h2 n hn).mono (by omega)
  | .two m a b, p => by
    intro n hn
    have h1 := cod_ok a p
    have h2 := cod_ok a (p + 1)
    have h3 := cod_ok b (p + (a.cod p).length)
    have h4 := cod_ok b (p + 1 + (a.cod (p + 1)).length + 1)
    simp only [Rx.cod] at hn ⊢
    split at hn
    · rename_i h
      rw [if_pos h, List.length_append]
      rcases List.mem_append.1 hn with hn | hn
      · exact (h1 n hn).mono (by omega)
      · exact (h3 n hn).mono (by omega)
    · rename_i h
      rw [if_neg h]
      simp only [List.length_cons, List.length_append]
      simp only [List.mem_cons, List.mem_append] at hn
      rcases hn with rfl | hn | rfl | hn
      · exact stF_ok (by omega) (by omega)
      · exact (h2 n hn).mono (by omega)
      · exact stF_ok (by omega) (by omega)
      · exact (h4 n hn).mono (by omega)
theorem prog_len (t : Rx) : t.prog.length = (t.cod 0).length + 1 := by simp [Rx.prog]
theorem stScan_of (N : Nat) : ∀ (l : List St), (∀ n ∈ l, stBad N n = 0) → stScan N l = 0
  | [], _ => rfl
  | a :: r, h => by rw [stScan, if_pos (h a (by simp))]; exact stScan_of N r (fun n hn => h n (by simp [hn]))
theorem z4_eqb : z4.eqb z4 = true := by decide
/-- The program of a valid pattern is one. -/
theorem prog_fault (t : Rx) (hl : t.flat.length ≤ 60) : stepsF t.prog = 0 := by
  have hc := t.cod_len 0
  have hp := prog_len t
  unfold stepsF
  rw [if_neg (by omega), if_neg (by omega)]
  refine stScan_of _ _ fun n hn => ?_
  unfold Rx.prog at hn
  rcases List.mem_append.1 hn with hn | hn
  · obtain ⟨h1, h2, h3, h4, h5⟩ := cod_ok t 0 n hn
    refine stBad_ok ?_ ?_
    · unfold stRange
      omega
    · rintro (⟨ha, hb⟩ | ⟨ha, hb⟩ | ⟨ha, hb⟩)
      · rw [h5 ha] at hb
        exact hb z4_eqb
      · exact hb (h4 ha)
      · omega
  · rw [List.mem_singleton] at hn
    subst hn
    refine stBad_ok ?_ ?_
    · unfold stRange
      simp
    · rintro (⟨ha, hb⟩ | ⟨ha, hb⟩ | ⟨ha, hb⟩)
      · exact hb z4_eqb
      · exact hb rfl
      · exact hb rfl
theorem prog_seg (t : Rx) : Seg t.prog 0 (t.cod 0) := by
  have : Seg t.prog 0 t.prog := fun i n hi => by rw [Nat.zero_add]; exact hi
  exact this.left
theorem prog_done (t : Rx) : t.prog[(t.cod 0).length]? = some stD := by simp [Rx.prog]
theorem prog_five (t : Rx) {k : Nat} {n : St} (h : t.prog[k]? = some n) (h5 : n.op = 5) : k = (t.cod 0).length := by
  rcases Nat.lt_trichotomy k (t.cod 0).length with hk | hk | hk
  · unfold Rx.prog at h
    rw [List.getElem?_append_left hk] at h
    have := (cod_ok t 0 n (List.mem_of_getElem? h)).1
    omega
  · exact hk
  · rw [List.getElem?_eq_none (by rw [prog_len]; omega)] at h
    cases h
/-- Spots and steps. -/
theorem spot_div {N k a : Nat} (ha : a < N) : (k * N + a) / N = k ∧ (k * N + a) % N = a := by
  have hN : 0 < N := by omega
  refine ⟨?_, ?_⟩
  · rw [Nat.mul_comm, Nat.mul_add_div hN, Nat.div_eq_of_lt ha, Nat.add_zero]
  · rw [Nat.mul_comm, Nat.mul_add_mod, Nat.mod_eq_of_lt ha]
theorem nx_stp (ss : List St) (s : List UInt8) {k a q' : Nat} (ha : a ≤ s.length) : q' ∈ nx ss s (k * (s.length + 1) + a) ↔ ∃ k' a', Stp ss s k a k' a' ∧ a' ≤ s.length ∧ q' = k' * (s.length + 1) + a' := by
  obtain ⟨hd, hm⟩ := spot_div (N := s.length + 1) (k := k) (a := a) (by omega)
  unfold nx Stp
  rw [hd, hm]
  cases hn : ss[k]? with
  | none => simp
  | some n =>
    simp only [Option.some.injEq, exists_eq_left']
    by_cases h1 : n.op = 1
    · rw [if_pos h1]
      have e : ∀ k' a', ((n.op = 1 ∧ k' = n.x.toNat ∧ a' = a + 1 ∧ ∃ c, s[a]? = some c ∧ n.c.has c.toNat = true) ∨ (n.op = 2 ∧ (k' = n.x.toNat ∨ k' = n.y.toNat) ∧ a' = a) ∨ (n.op = 3 ∧ k' = n.x.toNat ∧ a' = a ∧ a = 0) ∨ (n.op = 4 ∧ k' = n.x.toNat ∧ a' = a ∧ a = s.length)) ↔ (k' = n.x.toNat ∧ a' = a + 1 ∧ ∃ c, s[a]? = some c ∧ n.c.has c.toNat = true) := by
        intro k' a'
        constructor
        · rintro (⟨_, h⟩ | ⟨h, _⟩ | ⟨h, _⟩ | ⟨h, _⟩)
          · exact h
          · omega
          · omega
          · omega
        · intro h
          exact Or.inl ⟨h1, h⟩
      simp only [e]
      cases hc : s[a]? with
      | none => simp
      | some c =>
        have hlt : a < s.length := by
          rcases Nat.lt_or_ge a s.length with h' | h'
          · exact h'
          · rw [List.getElem?_eq_none h'] at hc; cases hc
        simp only [Option.some.injEq, exists_eq_left']
        by_cases hh : n.c.has c.toNat = true
        · rw [if_pos hh, List.mem_singleton]
          constructor
          · rintro rfl
            exact ⟨_, _, ⟨rfl, rfl, hh⟩, by omega, by omega⟩
          · rintro ⟨k', a', ⟨rfl, rfl, _⟩, _, rfl⟩
            omega
        · rw [if_neg hh]
          constructor
          · intro h; cases h
          · rintro ⟨k', a', ⟨_, _, h⟩, _⟩
            exact absurd h hh
    · rw [if_neg h1]
      by_cases h2 : n.op = 2
      · rw [if_pos h2, List.mem_cons, List.mem_singleton]
        constructor
        · rintro (rfl | rfl)
          · exact ⟨_, _, Or.inr (Or.inl ⟨h2, Or.inl rfl, rfl⟩), ha, rfl⟩
          · exact ⟨_, _, Or.inr (Or.inl ⟨h2, Or.inr rfl, rfl⟩), ha, rfl⟩
        · rintro ⟨k', a', h | ⟨_, h, rfl⟩ | h | h, _, rfl⟩
          · exact absurd h.1 h1
          · rcases h with rfl | rfl
            · exact Or.inl rfl
            · exact Or.inr rfl
          · have := h.1; omega
          · have := h.1; omega
      · rw [if_neg h2]
        by_cases h3 : n.op = 3
        · rw [if_pos h3]
          by_cases h0 : a = 0
          · rw [if_pos h0, List.mem_singleton]
            constructor
            · rintro rfl
              exact ⟨_, _, Or.inr (Or.inr (Or.inl ⟨h3, rfl, rfl, h0⟩)), ha, rfl⟩
            · rintro ⟨k', a', h | h | ⟨_, rfl, rfl, _⟩ | h, _, rfl⟩
              · exact absurd h.1 h1
              · exact absurd h.1 h2
              · rfl
              · have := h.1; omega
          · rw [if_neg h0]
            constructor
            · intro h; cases h
            · rintro ⟨k', a', h | h | ⟨_, _, _, h⟩ | h, _⟩
              · exact absurd h.1 h1
              · exact absurd h.1 h2
              · exact absurd h h0
              · have := h.1; omega
        · rw [if_neg h3]
          by_cases h4 : n.op = 4
          · rw [if_pos h4]
            by_cases h0 : a = s.length
            · rw [if_pos h0, List.mem_singleton]
              constructor
              · rintro rfl
                exact ⟨_, _, Or.inr (Or.inr (Or.inr ⟨h4, rfl, rfl, h0⟩)), ha, rfl⟩
              · rintro ⟨k', a', h | h | h | ⟨_, rfl, rfl, _⟩, _, rfl⟩
                · exact absurd h.1 h1
                · exact absurd h.1 h2
                · exact absurd h.1 h3
                · rfl
            · rw [if_neg h0]
              constructor
              · intro h; cases h
              · rintro ⟨k', a', h | h | h | ⟨_, _, _, h⟩, _⟩
                · exact absurd h.1 h1
                · exact absurd h.1 h2
                · exact absurd h.1 h3
                · exact absurd h h0
          · rw [if_neg h4]
            constructor
            · intro h; cases h
            · rintro ⟨k', a', h | h | h | h, _⟩
              · exact absurd h.1 h1
              · exact absurd h.1 h2
              · exact absurd h.1 h3
              · exact absurd h.1 h4
theorem rch_pth (ss : List St) (s : List UInt8) {i q : Nat} (hi : i ≤ s.length) (h : Rch ss s i q) : ∃ n k a, a ≤ s.length ∧ q = k * (s.length + 1) + a ∧ Pth ss s n 0 i k a := by
  induction h with
  | base => exact ⟨0, 0, i, hi, by simp, .nil _ _⟩
  | step q q' _ hn ih =>
    obtain ⟨n, k, a, ha, rfl, hp⟩ := ih
    obtain ⟨k', a', hs, ha', rfl⟩ := (nx_stp ss s ha).1 hn
    exact ⟨n + 1, k', a', ha', rfl, hp.trans (.one hs)⟩
theorem stp_le {ss : List St} {s : List UInt8} {k a k' a' : Nat} (ha : a ≤ s.length) (h : Stp ss s k a k' a') : a' ≤ s.length := by
  obtain ⟨n, _, ⟨_, _, h2, c, hc, _⟩ | ⟨_, _, h2⟩ | ⟨_, _, h2, _⟩ | ⟨_, _, h2, _⟩⟩ := h
  · have hlt : a < s.length := by
      rcases Nat.lt_or_ge a s.length with h' | h'
      · exact h'
      · rw [List.getElem?_eq_none h'] at hc; cases hc
    omega
  · omega
  · omega
  · omega
theorem pth_rch {ss : List St} {s : List UInt8} {q0 n k a k' a' : Nat} (h : Pth ss s n k a k' a') : a ≤ s.length → Rch ss s q0 (k * (s.length + 1) + a) → a' ≤ s.length ∧ Rch ss s q0 (k' * (s.length + 1) + a') := by
  induction h with
  | nil k a => exact fun h1 h2 => ⟨h1, h2⟩
  | cons m k a k1 a1 k' a' hs _ ih =>
    intro h1 h2
    have h3 := stp_le h1 hs
    exact ih h3 (.step _ _ h2 ((nx_stp ss s h1).2 ⟨k1, a1, hs, h3, rfl⟩))
/-- THE PROGRAM FITS WHAT THE PATTERN FITS. -/
theorem run_fit (t : Rx) (ht : t.Ok) (ho : ∀ n ∈ t.flat, 1 ≤ n.op ∧ n.op ≤ 9) (s : List UInt8) (i j : Nat) (hi : i ≤ s.length) : (∃ q, Rch t.prog s i q ∧ dn t.prog s q = true ∧ q % (s.length + 1) = j) ↔ Fit s t i j := by
  constructor
  · rintro ⟨q, hq, hd, rfl⟩
    obtain ⟨n, k, a, ha, rfl, hp⟩ := rch_pth t.prog s hi hq
    obtain ⟨h1, h2⟩ := spot_div (N := s.length + 1) (k := k) (a := a) (by omega)
    unfold dn at hd
    rw [h1] at hd
    rw [h2]
    cases hn : t.prog[k]? with
    | none => rw [hn] at hd; cases hd
    | some x =>
      rw [hn] at hd
      have hk := prog_five t hn (by simpa using hd)
      subst hk
      obtain ⟨j, m, _, hf, hr⟩ := path_fit t.prog s t ht ho 0 (prog_seg t) n i _ a hi hp (by omega)
      rw [Nat.zero_add] at hr
      cases hr with
      | nil => exact hf
      | cons m _ _ k1 a1 _ _ hs _ =>
        obtain ⟨y, hy, hc⟩ := hs
        rw [prog_done] at hy
        obtain rfl := Option.some.inj hy
        rcases hc with ⟨h, _⟩ | ⟨h, _⟩ | ⟨h, _⟩ | ⟨h, _⟩ <;> simp at h
  · intro hf
    have hj := (fit_le s t i j hf).2
    obtain ⟨m, hp⟩ := fit_path t.prog s t ht ho 0 i j (prog_seg t) hf
    rw [Nat.zero_add] at hp
    obtain ⟨_, hr⟩ := pth_rch (q0 := i) hp hi (by rw [Nat.zero_mul, Nat.zero_add]; exact .base)
    obtain ⟨h1, h2⟩ := spot_div (N := s.length + 1) (k := (t.cod 0).length) (a := j) (by omega)
    refine ⟨_, hr, ?_, h2⟩
    unfold dn
    rw [h1, prog_done]
    rfl
theorem run_ends (t : Rx) (ht : t.Ok) (ho : ∀ n ∈ t.flat, 1 ≤ n.op ∧ n.op ≤ 9) (s : List UInt8) (i : Nat) (hi : i ≤ s.length) (l : List Nat) : RunR t.prog s i l ↔ EndsR s t i l := by
  unfold RunR EndsR
  simp only [run_fit t ht ho s i _ hi]
end Go.Proofs.YtejbififfceamaaGreatDoor
namespace Go.Proofs.YtejbififfceamaaGreatDoor
set_option linter.unusedSimpArgs false
set_option linter.unusedVariables false
set_option maxRecDepth 100000
open Go.RowKit

/-- As many steps as one likes at one place. -/
inductive Sta (ss : List St) (s : List UInt8) (a : Nat) : Nat → Nat → Prop
  | nil (k : Nat) : Sta ss s a k k
  | cons (k k1 k2 : Nat) : Stp ss s k a k1 a → Sta ss s a k1 k2 → Sta ss s a k k2
theorem Sta.snoc {ss : List St} {s : List UInt8} {a k k1 k2 : Nat} (h : Sta ss s a k k1) (h2 : Stp ss s k1 a k2 a) : Sta ss s a k k2 := by
  induction h with
  | nil k => exact .cons _ _ _ h2 (.nil _)
  | cons k k1 k2 h _ ih => exact .cons _ _ _ h (ih h2)
theorem Sta.trans {ss : List St} {s : List UInt8} {a k k1 k2 : Nat} (h : Sta ss s a k k1) (h2 : Sta ss s a k1 k2) : Sta ss s a k k2 := by
  induction h with
  | nil k => exact h2
  | cons k k1 k2 h _ ih => exact .cons _ _ _ h (ih h2)
/-- What is seen, S, has become S' by going on from the steps K. -/
structure Vst (ss : List St) (s : List UInt8) (a : Nat) (S S' K : List Nat) : Prop where
  pre : ∃ m, S' = S ++ m
  has : ∀ k ∈ K, k ∈ S'
  sound : ∀ x ∈ S', x ∈ S ∨ ∃ k ∈ K, Sta ss s a k x
  shut : ∀ x ∈ S', x ∈ S ∨ ∀ y, Stp ss s x a y a → y ∈ S'
theorem Vst.sub {ss : List St} {s : List UInt8} {a : Nat} {S S' K : List Nat} (h : Vst ss s a S S' K) : ∀ x ∈ S, x ∈ S' := fun x hx => by
  obtain ⟨m, rfl⟩ := h.pre
  simp [hx]
theorem Vst.refl (ss : List St) (s : List UInt8) (a : Nat) (S K : List Nat) (h : ∀ k ∈ K, k ∈ S) : Vst ss s a S S K := ⟨⟨[], by simp⟩, h, fun x hx => Or.inl hx, fun x hx => Or.inl hx⟩
theorem Vst.comp {ss : List St} {s : List UInt8} {a : Nat} {S S1 S2 K L : List Nat} (h : Vst ss s a S S1 K) (g : Vst ss s a S1 S2 L) : Vst ss s a S S2 (K ++ L) where
  pre := by
    obtain ⟨m, rfl⟩ := h.pre
    obtain ⟨m', rfl⟩ := g.pre
    exact ⟨m ++ m', by simp⟩
  has := fun k hk => by
    rcases List.mem_append.1 hk with hk | hk
    · exact g.sub k (h.has k hk)
    · exact g.has k hk
  sound := fun x hx => by
    rcases g.sound x hx with h1 | ⟨k, hk, h1⟩
    · rcases h.sound x h1 with h2 | ⟨k, hk, h2⟩
      · exact Or.inl h2
      · exact Or.inr ⟨k, by simp [hk], h2⟩
    · exact Or.inr ⟨k, by simp [hk], h1⟩
  shut := fun x hx => by
    rcases g.shut x hx with h1 | h1
    · rcases h.shut x h1 with h2 | h2
      · exact Or.inl h2
      · exact Or.inr fun y hy => g.sub y (h2 y hy)
    · exact Or.inr h1
/-- One that was not seen is entered; behind it are K. -/
theorem Vst.enter {ss : List St} {s : List UInt8} {a k : Nat} {S S' K : List Nat} (h : Vst ss s a (S ++ [k]) S' K) (hK : ∀ y, Stp ss s k a y a ↔ y ∈ K) : Vst ss s a S S' [k] where
  pre := by
    obtain ⟨m, rfl⟩ := h.pre
    exact ⟨k :: m, by simp⟩
  has := fun x hx => by
    rw [List.mem_singleton.1 hx]
    exact h.sub k (by simp)
  sound := fun x hx => by
    rcases h.sound x hx with h1 | ⟨y, hy, h1⟩
    · rcases List.mem_append.1 h1 with h2 | h2
      · exact Or.inl h2
      · rw [List.mem_singleton.1 h2]
        exact Or.inr ⟨k, by simp, .nil _⟩
    · exact Or.inr ⟨k, by simp, .cons _ _ _ ((hK y).2 hy) h1⟩
  shut := fun x hx => by
    rcases h.shut x hx with h1 | h1
    · rcases List.mem_append.1 h1 with h2 | h2
      · exact Or.inl h2
      · rw [List.mem_singleton.1 h2]
        exact Or.inr fun y hy => h.has y ((hK y).1 hy)
    · exact Or.inr h1
/-- F is what is come to from b, at a place. -/
def Clo (ss : List St) (s : List UInt8) (a : Nat) (b F : List Nat) : Prop := ∀ k, k ∈ F ↔ ∃ k0 ∈ b, Sta ss s a k0 k
theorem Vst.clo {ss : List St} {s : List UInt8} {a : Nat} {b F : List Nat} (h : Vst ss s a [] F b) : Clo ss s a b F := by
  intro k
  constructor
  · intro hk
    rcases h.sound k hk with h1 | h1
    · cases h1
    · exact h1
  · rintro ⟨k0, hk0, h1⟩
    have h2 := h.has k0 hk0
    clear hk0
    induction h1 with
    | nil k => exact h2
    | cons k k1 k2 hs _ ih =>
      refine ih ?_
      rcases h.shut k h2 with h3 | h3
      · cases h3
      · exact h3 k1 hs
/-- What is come to from step 0 at place i. -/
inductive Rc (ss : List St) (s : List UInt8) (i : Nat) : Nat → Nat → Prop
  | base : Rc ss s i 0 i
  | step (k a k' a' : Nat) : Rc ss s i k a → Stp ss s k a k' a' → Rc ss s i k' a'
theorem Rc.sta {ss : List St} {s : List UInt8} {i k a k' : Nat} (h : Rc ss s i k a) (h2 : Sta ss s a k k') : Rc ss s i k' a := by
  induction h2 with
  | nil k => exact h
  | cons k k1 k2 hs _ ih => exact ih (.step _ _ _ _ h hs)
theorem Rc.le {ss : List St} {s : List UInt8} {i k a : Nat} (hi : i ≤ s.length) (h : Rc ss s i k a) : i ≤ a ∧ a ≤ s.length := by
  induction h with
  | base => exact ⟨Nat.le_refl _, hi⟩
  | step k a k' a' _ hs ih =>
    refine ⟨?_, stp_le ih.2 hs⟩
    obtain ⟨n, _, ⟨_, _, h, _⟩ | ⟨_, _, h⟩ | ⟨_, _, h, _⟩ | ⟨_, _, h, _⟩⟩ := hs <;> omega
theorem stp_place {ss : List St} {s : List UInt8} {k a k' a' : Nat} (hs : Stp ss s k a k' a') : a' = a ∨ a' = a + 1 := by
  obtain ⟨n, _, ⟨_, _, h, _⟩ | ⟨_, _, h⟩ | ⟨_, _, h, _⟩ | ⟨_, _, h, _⟩⟩ := hs <;> omega
/-- The last byte that was taken. -/
theorem Rc.last {ss : List St} {s : List UInt8} {i k a : Nat} (h : Rc ss s i k a) : (a = i ∧ Sta ss s a 0 k) ∨ ∃ a0 k0 k1, a = a0 + 1 ∧ Rc ss s i k0 a0 ∧ Stp ss s k0 a0 k1 (a0 + 1) ∧ Sta ss s a k1 k := by
  induction h with
  | base => exact Or.inl ⟨rfl, .nil _⟩
  | step k a k' a' hr hs ih =>
    rcases stp_place hs with rfl | rfl
    · rcases ih with ⟨h1, h2⟩ | ⟨a0, k0, k1, h1, h2, h3, h4⟩
      · exact Or.inl ⟨h1, h2.snoc hs⟩
      · exact Or.inr ⟨a0, k0, k1, h1, h2, h3, h4.snoc hs⟩
    · exact Or.inr ⟨a, k, k', rfl, hr, hs, .nil _⟩
/-- b is where the program begins at place a. -/
def Bgn (ss : List St) (s : List UInt8) (i a : Nat) (b : List Nat) : Prop := ∀ k, Rc ss s i k a ↔ ∃ k0 ∈ b, Sta ss s a k0 k
/-- b' is where it goes on behind the byte at a place. -/
def Tkn (ss : List St) (s : List UInt8) (a : Nat) (F b' : List Nat) : Prop := ∀ k', k' ∈ b' ↔ ∃ k ∈ F, Stp ss s k a k' (a + 1)
theorem bgn_init (ss : List St) (s : List UInt8) (i : Nat) (hi : i ≤ s.length) : Bgn ss s i i [0] := by
  intro k
  constructor
  · intro h
    rcases h.last with ⟨_, h1⟩ | ⟨a0, k0, k1, h1, h2, _, _⟩
    · exact ⟨0, by simp, h1⟩
    · have := (h2.le hi).1
      omega
  · rintro ⟨k0, hk, h⟩
    rw [List.mem_singleton.1 hk] at h
    exact Rc.base.sta h
theorem Bgn.clo {ss : List St} {s : List UInt8} {i a : Nat} {b F : List Nat} (h : Bgn ss s i a b) (hF : Clo ss s a b F) (k : Nat) : k ∈ F ↔ Rc ss s i k a := (hF k).trans (h k).symm
theorem Bgn.next {ss : List St} {s : List UInt8} {i a : Nat} {b F b' : List Nat} (hia : i ≤ a) (h : Bgn ss s i a b) (hF : Clo ss s a b F) (hT : Tkn ss s a F b') : Bgn ss s i (a + 1) b' := by
  intro k
  constructor
  · intro hr
    rcases hr.last with ⟨h1, _⟩ | ⟨a0, k0, k1, h1, h2, h3, h4⟩
    · omega
    · obtain rfl : a0 = a := by omega
      exact ⟨k1, (hT k1).2 ⟨k0, (h.clo hF k0).2 h2, h3⟩, h4⟩
  · rintro ⟨k1, hk1, h4⟩
    obtain ⟨k0, hk0, h3⟩ := (hT k1).1 hk1
    exact (Rc.step _ _ _ _ ((h.clo hF k0).1 hk0) h3).sta h4
/-- A place at which it is done. -/
def Dne (ss : List St) (k : Nat) : Prop := ∃ n, ss[k]? = some n ∧ n.op = 5
theorem rc_rch {ss : List St} {s : List UInt8} {i k a : Nat} (hi : i ≤ s.length) (h : Rc ss s i k a) : Rch ss s i (k * (s.length + 1) + a) := by
  induction h with
  | base => simpa using Rch.base
  | step k a k' a' hr hs ih =>
    have ha := (hr.le hi).2
    exact .step _ _ ih ((nx_stp ss s ha).2 ⟨k', a', hs, stp_le ha hs, rfl⟩)
theorem pth_rc {ss : List St} {s : List UInt8} {i m k a k' a' : Nat} (h : Pth ss s m k a k' a') : Rc ss s i k a → Rc ss s i k' a' := by
  induction h with
  | nil k a => exact id
  | cons m k a k1 a1 k' a' hs _ ih => exact fun hr => ih (.step _ _ _ _ hr hs)
theorem run_mem {ss : List St} {s : List UInt8} {i : Nat} (hi : i ≤ s.length) {l : List Nat} (hl : RunR ss s i l) (j : Nat) : j ∈ l ↔ ∃ k, Rc ss s i k j ∧ Dne ss k := by
  rw [hl.2 j]
  constructor
  · rintro ⟨q, hq, hd, rfl⟩
    obtain ⟨n, k, a, ha, rfl, hp⟩ := rch_pth ss s hi hq
    have hsd := spot_div (N := s.length + 1) (k := k) (a := a) (by omega)
    rw [hsd.2]
    refine ⟨k, pth_rc hp .base, ?_⟩
    unfold dn at hd
    rw [hsd.1] at hd
    cases hn : ss[k]? with
    | none => rw [hn] at hd; cases hd
    | some n => rw [hn] at hd; exact ⟨n, hn, of_decide_eq_true hd⟩
  · rintro ⟨k, hr, n, hn, h5⟩
    have ha := (hr.le hi).2
    have hsd := spot_div (N := s.length + 1) (k := k) (a := j) (by omega)
    refine ⟨_, rc_rch hi hr, ?_, hsd.2⟩
    unfold dn
    rw [hsd.1, hn]
    exact decide_eq_true h5
/-- The ends ahead of a place. -/
def ahead (l : List Nat) (a : Nat) : List Nat := l.filter fun j => decide (j < a)
theorem ahead_yes {l : List Nat} (hl : l.Pairwise (· < ·)) (a : Nat) (ha : a ∈ l) : ahead l (a + 1) = ahead l a ++ [a] := by
  induction l with
  | nil => cases ha
  | cons x r ih =>
    rw [List.pairwise_cons] at hl
    rcases List.mem_cons.1 ha with rfl | ha
    · have h1 : ahead r (a + 1) = [] := List.filter_eq_nil_iff.2 fun j hj => by
        have := hl.1 j hj
        simp
        omega
      have h2 : ahead r a = [] := List.filter_eq_nil_iff.2 fun j hj => by
        have := hl.1 j hj
        simp
        omega
      unfold ahead at h1 h2 ⊢
      simp [h1, h2]
    · have hx := hl.1 a ha
      have := ih hl.2 ha
      unfold ahead at this ⊢
      simp [this, show x < a + 1 by omega, hx]
theorem ahead_no {l : List Nat} (a : Nat) (ha : ¬ a ∈ l) : ahead l (a + 1) = ahead l a := by
  unfold ahead
  refine List.filter_congr fun j hj => ?_
  have : j ≠ a := fun e => ha (e ▸ hj)
  rw [decide_eq_decide]
  omega
theorem ahead_all {l : List Nat} (a : Nat) (h : ∀ j ∈ l, j < a) : ahead l a = l := List.filter_eq_self.2 fun j hj => decide_eq_true (h j hj)
theorem ahead_none {l : List Nat} (a : Nat) (h : ∀ j ∈ l, a ≤ j) : ahead l a = [] := List.filter_eq_nil_iff.2 fun j hj => by
  have := h j hj
  simp
  omega
/-- Where nothing is begun nothing is come to, there and behind. -/
theorem Bgn.none {ss : List St} {s : List UInt8} {i a : Nat} (h : Bgn ss s i a []) (hia : i ≤ a) : ∀ k a', Rc ss s i k a' → a' < a := by
  have key : ∀ d k, ¬ Rc ss s i k (a + d) := by
    intro d
    induction d with
    | zero =>
      intro k hr
      obtain ⟨k0, hk0, _⟩ := (h k).1 hr
      cases hk0
    | succ d ih =>
      intro k hr
      rcases hr.last with ⟨h1, _⟩ | ⟨a0, k0, k1, h1, h2, _, _⟩
      · omega
      · obtain rfl : a0 = a + d := by omega
        exact ih k0 h2
  intro k a' hr
  rcases Nat.lt_or_ge a' a with h1 | h1
  · exact h1
  · obtain ⟨d, rfl⟩ : ∃ d, a' = a + d := ⟨a' - a, by omega⟩
    exact absurd hr (key d k)
/-- Numbers below N, each once, are N at most. -/
theorem nodup_le (N : Nat) : ∀ (l : List Nat), l.Nodup → (∀ x ∈ l, x < N) → l.length ≤ N := by
  induction N with
  | zero =>
    intro l _ h
    cases l with
    | nil => simp
    | cons x r => exact absurd (h x (by simp)) (by omega)
  | succ N ih =>
    intro l hn h
    have h1 := ih (l.erase N) (hn.erase N) fun x hx => by
      have h2 := h x (List.mem_of_mem_erase hx)
      have h3 : x ≠ N := fun e => by
        subst e
        exact hn.not_mem_erase hx
      omega
    by_cases hN : N ∈ l
    · rw [List.length_erase_of_mem hN] at h1
      omega
    · rw [List.erase_of_not_mem hN] at h1
      omega
end Go.Proofs.YtejbififfceamaaGreatDoor
namespace Go.Proofs.YtejbififfceamaaGreatDoor
set_option linter.unusedSimpArgs false
set_option linter.unusedVariables false
set_option maxRecDepth 100000
open Go.RowKit

theorem stp_stay {ss : List St} {s : List UInt8} {a k y : Nat} {n : St} (hn : ss[k]? = some n) : Stp ss s k a y a ↔ (n.op = 2 ∧ (y = n.x.toNat ∨ y = n.y.toNat)) ∨ (n.op = 3 ∧ y = n.x.toNat ∧ a = 0) ∨ (n.op = 4 ∧ y = n.x.toNat ∧ a = s.length) := by
  constructor
  · rintro ⟨n', hn', h⟩
    rw [hn] at hn'
    obtain rfl := Option.some.inj hn'
    rcases h with ⟨_, _, h, _⟩ | ⟨h1, h2, _⟩ | ⟨h1, h2, _, h3⟩ | ⟨h1, h2, _, h3⟩
    · omega
    · exact Or.inl ⟨h1, h2⟩
    · exact Or.inr (Or.inl ⟨h1, h2, h3⟩)
    · exact Or.inr (Or.inr ⟨h1, h2, h3⟩)
  · rintro (⟨h1, h2⟩ | ⟨h1, h2, h3⟩ | ⟨h1, h2, h3⟩)
    · exact ⟨n, hn, Or.inr (Or.inl ⟨h1, h2, rfl⟩)⟩
    · exact ⟨n, hn, Or.inr (Or.inr (Or.inl ⟨h1, h2, rfl, h3⟩))⟩
    · exact ⟨n, hn, Or.inr (Or.inr (Or.inr ⟨h1, h2, rfl, h3⟩))⟩
/-- A text and a place of it that begin and end as told. -/
def tx : Bool → Bool → List UInt8
  | true, true => []
  | true, false => [0]
  | false, true => [0]
  | false, false => [0, 0]
def pc : Bool → Nat
  | true => 0
  | false => 1
theorem tx_first (fi : Bool) : pc fi = 0 ↔ fi = true := by cases fi <;> simp [pc]
theorem tx_last (fi la : Bool) : pc fi = (tx fi la).length ↔ la = true := by cases fi <;> cases la <;> simp [pc, tx]
theorem sta_same {ss : List St} {s s' : List UInt8} {a a' : Nat} (h0 : a = 0 ↔ a' = 0) (h1 : a = s.length ↔ a' = s'.length) {k k' : Nat} (h : Sta ss s a k k') : Sta ss s' a' k k' := by
  induction h with
  | nil k => exact .nil _
  | cons k k1 k2 hs _ ih =>
    refine .cons _ k1 _ ?_ ih
    obtain ⟨n, hn, _⟩ := id hs
    rw [stp_stay hn] at hs ⊢
    rw [← h0, ← h1]
    exact hs
theorem fun_ext {p q : Nat → Bool} (h : ∀ j, p j = true ↔ q j = true) : p = q := by
  funext j
  have := h j
  cases hp : p j <;> cases hq : q j <;> simp_all
/-- What is come to at a place, from some steps on. -/
noncomputable def cloF (ss : List St) (fi la : Bool) (b : Nat → Bool) : Nat → Bool := fun k => @decide (∃ k0, b k0 = true ∧ Sta ss (tx fi la) (pc fi) k0 k) (Classical.propDecidable _)
theorem cloF_iff {ss : List St} {fi la : Bool} {b : Nat → Bool} {k : Nat} : cloF ss fi la b k = true ↔ ∃ k0, b k0 = true ∧ Sta ss (tx fi la) (pc fi) k0 k := @decide_eq_true_iff _ (Classical.propDecidable _)
/-- Step k takes the byte c, and goes on at k'. -/
def Tks (ss : List St) (c k k' : Nat) : Prop := ∃ n, ss[k]? = some n ∧ n.op = 1 ∧ n.c.has c = true ∧ k' = n.x.toNat
/-- Where it goes on behind a byte. -/
noncomputable def takF (ss : List St) (c : Nat) (p : Nat → Bool) : Nat → Bool := fun k' => @decide (∃ k, p k = true ∧ Tks ss c k k') (Classical.propDecidable _)
theorem takF_iff {ss : List St} {c : Nat} {p : Nat → Bool} {k' : Nat} : takF ss c p k' = true ↔ ∃ k, p k = true ∧ Tks ss c k k' := @decide_eq_true_iff _ (Classical.propDecidable _)
noncomputable def takL (ss : List St) (c : Nat) (l : List Nat) : Nat → Bool := fun k' => @decide (∃ k ∈ l, Tks ss c k k') (Classical.propDecidable _)
theorem takL_iff {ss : List St} {c : Nat} {l : List Nat} {k' : Nat} : takL ss c l k' = true ↔ ∃ k ∈ l, Tks ss c k k' := @decide_eq_true_iff _ (Classical.propDecidable _)
noncomputable def donF (ss : List St) (p : Nat → Bool) : Bool := @decide (∃ k, p k = true ∧ Dne ss k) (Classical.propDecidable _)
theorem donF_iff {ss : List St} {p : Nat → Bool} : donF ss p = true ↔ ∃ k, p k = true ∧ Dne ss k := @decide_eq_true_iff _ (Classical.propDecidable _)
noncomputable def begS (ss : List St) (fi la : Bool) : Nat → Bool := cloF ss fi la (withP noP 0)
noncomputable def nxtS (ss : List St) (p : Nat → Bool) (c : Nat) (fi la : Bool) : Nat → Bool := cloF ss fi la (takF ss c p)
/-- A set of the program's steps. -/
def Sub (ss : List St) (p : Nat → Bool) : Prop := ∀ k, p k = true → k < ss.length
/-- Each step leads to one. -/
def Leads (ss : List St) : Prop := ∀ (k : Nat) (n : St), ss[k]? = some n → (n.op = 1 ∨ n.op = 2 ∨ n.op = 3 ∨ n.op = 4 → n.x.toNat < ss.length) ∧ (n.op = 2 → n.y.toNat < ss.length)
theorem sta_lt {ss : List St} (hL : Leads ss) {s : List UInt8} {a k k' : Nat} (h : Sta ss s a k k') (hk : k < ss.length) : k' < ss.length := by
  induction h with
  | nil k => exact hk
  | cons k k1 k2 hs _ ih =>
    refine ih ?_
    obtain ⟨n, hn, _⟩ := id hs
    rw [stp_stay hn] at hs
    have := hL k n hn
    rcases hs with ⟨h1, h2 | h2⟩ | ⟨h1, h2, _⟩ | ⟨h1, h2, _⟩
    · rw [h2]; exact this.1 (by omega)
    · rw [h2]; exact this.2 h1
    · rw [h2]; exact this.1 (by omega)
    · rw [h2]; exact this.1 (by omega)
theorem clo_sub {ss : List St} (hL : Leads ss) {fi la : Bool} {b : Nat → Bool} (hb : Sub ss b) : Sub ss (cloF ss fi la b) := fun k hk => by
  obtain ⟨k0, h0, h1⟩ := cloF_iff.1 hk
  exact sta_lt hL h1 (hb k0 h0)
theorem tak_sub {ss : List St} (hL : Leads ss) {c : Nat} {p : Nat → Bool} : Sub ss (takF ss c p) := fun k hk => by
  obtain ⟨k0, _, n, hn, h1, _, rfl⟩ := takF_iff.1 hk
  exact (hL k0 n hn).1 (Or.inl h1)
theorem takL_sub {ss : List St} (hL : Leads ss) {c : Nat} {l : List Nat} : Sub ss (takL ss c l) := fun k hk => by
  obtain ⟨k0, _, n, hn, h1, _, rfl⟩ := takL_iff.1 hk
  exact (hL k0 n hn).1 (Or.inl h1)
theorem zero_sub {ss : List St} (h : 0 < ss.length) : Sub ss (withP noP 0) := fun k hk => by
  simp [withP, noP] at hk
  omega
theorem beg_sub {ss : List St} (hL : Leads ss) (h : 0 < ss.length) (fi la : Bool) : Sub ss (begS ss fi la) := clo_sub hL (zero_sub h)
theorem nxt_sub {ss : List St} (hL : Leads ss) (p : Nat → Bool) (c : Nat) (fi la : Bool) : Sub ss (nxtS ss p c fi la) := clo_sub hL (tak_sub hL)
/-- The elements of a set, as a list. -/
theorem el_in {ss : List St} (hl : ss.length ≤ 200) {p : Nat → Bool} (hp : Sub ss p) (k : Nat) : k ∈ el p 256 ↔ p k = true := by
  rw [el_mem]
  constructor
  · exact fun h => h.2
  · exact fun h => ⟨by have := hp k h; omega, h⟩
theorem clo_list {ss : List St} (hl : ss.length ≤ 200) {fi la : Bool} {b : Nat → Bool} (hb : Sub ss b) {S : List Nat} (h : Vst ss (tx fi la) (pc fi) [] S (el b 256)) : (fun j => decide (j ∈ S)) = cloF ss fi la b := fun_ext fun j => by
  rw [decide_eq_true_iff, cloF_iff, h.clo j]
  constructor
  · rintro ⟨k0, h1, h2⟩
    exact ⟨k0, (el_in hl hb k0).1 h1, h2⟩
  · rintro ⟨k0, h1, h2⟩
    exact ⟨k0, (el_in hl hb k0).2 h1, h2⟩
theorem tak_list {ss : List St} (hl : ss.length ≤ 200) {c : Nat} {p : Nat → Bool} (hp : Sub ss p) : takL ss c (el p 256) = takF ss c p := fun_ext fun j => by
  rw [takL_iff, takF_iff]
  constructor
  · rintro ⟨k0, h1, h2⟩
    exact ⟨k0, (el_in hl hp k0).1 h1, h2⟩
  · rintro ⟨k0, h1, h2⟩
    exact ⟨k0, (el_in hl hp k0).2 h1, h2⟩
theorem takL_nil (ss : List St) (c : Nat) : takL ss c [] = noP := fun_ext fun j => by
  rw [takL_iff]
  simp [noP]
theorem takL_yes {ss : List St} {c x : Nat} {l : List Nat} {n : St} (hn : ss[x]? = some n) (h1 : n.op = 1) (hc : n.c.has c = true) : takL ss c (l ++ [x]) = withP (takL ss c l) n.x.toNat := fun_ext fun j => by
  unfold withP
  rw [Bool.or_eq_true, takL_iff, takL_iff, decide_eq_true_iff]
  constructor
  · rintro ⟨k, hk, ht⟩
    rcases List.mem_append.1 hk with hk | hk
    · exact Or.inl ⟨k, hk, ht⟩
    · rw [List.mem_singleton.1 hk] at ht
      obtain ⟨m, hm, _, _, e⟩ := ht
      rw [hn] at hm
      obtain rfl := Option.some.inj hm
      exact Or.inr e
  · rintro (⟨k, hk, ht⟩ | e)
    · exact ⟨k, List.mem_append.2 (Or.inl hk), ht⟩
    · exact ⟨x, by simp, n, hn, h1, hc, e⟩
theorem takL_no {ss : List St} {c x : Nat} {l : List Nat} {n : St} (hn : ss[x]? = some n) (h : ¬ (n.op = 1 ∧ n.c.has c = true)) : takL ss c (l ++ [x]) = takL ss c l := fun_ext fun j => by
  rw [takL_iff, takL_iff]
  constructor
  · rintro ⟨k, hk, ht⟩
    rcases List.mem_append.1 hk with hk | hk
    · exact ⟨k, hk, ht⟩
    · rw [List.mem_singleton.1 hk] at ht
      obtain ⟨m, hm, h1, h2, e⟩ := ht
      rw [hn] at hm
      obtain rfl := Option.some.inj hm
      exact absurd ⟨h1, h2⟩ h
  · rintro ⟨k, hk, ht⟩
    exact ⟨k, List.mem_append.2 (Or.inl hk), ht⟩
/-- What is come to from step 0 at place i, at place a. -/
noncomputable def curS (ss : List St) (s : List UInt8) (i a : Nat) : Nat → Bool := fun k => @decide (Rc ss s i k a) (Classical.propDecidable _)
theorem curS_iff {ss : List St} {s : List UInt8} {i a k : Nat} : curS ss s i a k = true ↔ Rc ss s i k a := @decide_eq_true_iff _ (Classical.propDecidable _)
theorem cur_beg (ss : List St) (s : List UInt8) (i : Nat) (hi : i ≤ s.length) : curS ss s i i = begS ss (decide (i = 0)) (decide (i = s.length)) := fun_ext fun k => by
  unfold begS
  rw [curS_iff, cloF_iff, bgn_init ss s i hi k]
  have e0 : i = 0 ↔ pc (decide (i = 0)) = 0 := by rw [tx_first, decide_eq_true_iff]
  have e1 : i = s.length ↔ pc (decide (i = 0)) = (tx (decide (i = 0)) (decide (i = s.length))).length := by rw [tx_last, decide_eq_true_iff]
  constructor
  · rintro ⟨k0, hk, h⟩
    rw [List.mem_singleton.1 hk] at h
    exact ⟨0, by simp [withP], sta_same e0 e1 h⟩
  · rintro ⟨k0, hk, h⟩
    have : k0 = 0 := by simpa [withP, noP] using hk
    subst this
    exact ⟨0, by simp, sta_same e0.symm e1.symm h⟩
theorem cur_next (ss : List St) (s : List UInt8) (i a : Nat) (hia : i ≤ a) (c : UInt8) (hc : s[a]? = some c) : curS ss s i (a + 1) = nxtS ss (curS ss s i a) c.toNat false (decide (a + 1 = s.length)) := fun_ext fun k => by
  unfold nxtS
  rw [curS_iff, cloF_iff]
  have e0 : a + 1 = 0 ↔ pc false = 0 := by simp [pc]
  have e1 : a + 1 = s.length ↔ pc false = (tx false (decide (a + 1 = s.length))).length := by rw [tx_last, decide_eq_true_iff]
  constructor
  · intro hr
    rcases hr.last with ⟨h1, _⟩ | ⟨a0, k0, k1, h1, h2, h3, h4⟩
    · omega
    · obtain rfl : a0 = a := by omega
      refine ⟨k1, takF_iff.2 ⟨k0, curS_iff.2 h2, ?_⟩, sta_same e0 e1 h4⟩
      obtain ⟨n, hn, ⟨q1, q2, _, c', q3, q4⟩ | ⟨_, _, h⟩ | ⟨_, _, h, _⟩ | ⟨_, _, h, _⟩⟩ := h3
      · rw [hc] at q3
        obtain rfl := Option.some.inj q3
        exact ⟨n, hn, q1, q4, q2⟩
      · omega
      · omega
      · omega
  · rintro ⟨k1, hk1, h4⟩
    obtain ⟨k0, hk0, n, hn, q1, q2, q3⟩ := takF_iff.1 hk1
    exact (Rc.step _ _ _ _ (curS_iff.1 hk0) ⟨n, hn, Or.inl ⟨q1, q3, rfl, c, hc, q2⟩⟩).sta (sta_same e0.symm e1.symm h4)
theorem cur_done {ss : List St} {s : List UInt8} {i : Nat} (hi : i ≤ s.length) {l : List Nat} (hl : RunR ss s i l) (a : Nat) : donF ss (curS ss s i a) = true ↔ a ∈ l := by
  rw [donF_iff, run_mem hi hl a]
  constructor
  · rintro ⟨k, h1, h2⟩
    exact ⟨k, curS_iff.1 h1, h2⟩
  · rintro ⟨k, h1, h2⟩
    exact ⟨k, curS_iff.2 h1, h2⟩
/-- Where nothing is come to nothing is, there and behind. -/
theorem cur_none {ss : List St} {s : List UInt8} {i a : Nat} (hia : i ≤ a) (h : curS ss s i a = noP) : ∀ k a', Rc ss s i k a' → a' < a := by
  refine Bgn.none (fun k => ⟨fun hr => ?_, fun ⟨k0, hk, _⟩ => by cases hk⟩) hia
  have : curS ss s i a k = true := curS_iff.2 hr
  rw [h] at this
  cases this
/-- The ends are all there, where nothing is come to, or the text ends. -/
theorem cur_all {ss : List St} {s : List UInt8} {i a : Nat} (hi : i ≤ s.length) (hia : i ≤ a) {l : List Nat} (hl : RunR ss s i l) (h : curS ss s i a = noP) : ahead l a = l := ahead_all a fun j hj => by
  obtain ⟨k, hr, _⟩ := (run_mem hi hl j).1 hj
  exact cur_none hia h k j hr
theorem cur_last {ss : List St} {s : List UInt8} {i : Nat} (hi : i ≤ s.length) {l : List Nat} (hl : RunR ss s i l) : ahead l (s.length + 1) = l := ahead_all _ fun j hj => by
  obtain ⟨k, hr, _⟩ := (run_mem hi hl j).1 hj
  have := (hr.le hi).2
  omega
theorem cur_begin {ss : List St} {s : List UInt8} {i : Nat} (hi : i ≤ s.length) {l : List Nat} (hl : RunR ss s i l) : ahead l i = [] := ahead_none i fun j hj => by
  obtain ⟨k, hr, _⟩ := (run_mem hi hl j).1 hj
  exact (hr.le hi).1
theorem cur_sub {ss : List St} (hL : Leads ss) (h0 : 0 < ss.length) {s : List UInt8} {i a : Nat} : Sub ss (curS ss s i a) := by
  have key : ∀ k a, Rc ss s i k a → k < ss.length := fun k a h => by
    induction h with
    | base => exact h0
    | step k a k' a' _ hs ih =>
      obtain ⟨n, hn, ⟨q1, q2, _, _⟩ | ⟨q1, q2 | q2, _⟩ | ⟨q1, q2, _, _⟩ | ⟨q1, q2, _, _⟩⟩ := hs
      · rw [q2]; exact (hL k n hn).1 (by omega)
      · rw [q2]; exact (hL k n hn).1 (by omega)
      · rw [q2]; exact (hL k n hn).2 q1
      · rw [q2]; exact (hL k n hn).1 (by omega)
      · rw [q2]; exact (hL k n hn).1 (by omega)
  exact fun k hk => key k a (curS_iff.1 hk)
end Go.Proofs.YtejbififfceamaaGreatDoor
