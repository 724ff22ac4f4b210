/- The program of a tree is one, and its ends are the tree's: plain mathematics. A program, all ways at once: what is come to at one place, and the next one: plain mathematics. The landed sim: check, isDone. class.Has. -/
import Derived.Test.YtopoiljgghglaaaDoorY08
import Derived.Test.YtopoiljgghglaaaDoorY04
import Derived.Test.YtopoiljgghglaaaDoorY01
namespace Go.Proofs.YtopoiljgghglaaaDoor
set_option linter.unusedSimpArgs false
set_option linter.unusedVariables false
set_option maxRecDepth 100000
open Go.RowKit
/-- What may be of a step of a part that ends at step e. -/
def StOk (e : Nat) (n : St) : Prop := (1 ≤ n.op ∧ n.op ≤ 4) ∧ (0 ≤ n.x ∧ n.x ≤ (e : Int)) ∧ (0 ≤ n.y ∧ n.y ≤ (e : Int)) ∧ (n.op ≠ 2 → n.y = 0) ∧ (n.op ≠ 1 → n.c = z4)
theorem StOk.mono {e f : Nat} {n : St} (h : StOk e n) (hf : e ≤ f) : StOk f n := by
  obtain ⟨h1, h2, h3, h4, h5⟩ := h
  exact ⟨h1, ⟨h2.1, by omega⟩, ⟨h3.1, by omega⟩, h4, h5⟩
theorem stF_ok {e x y : Nat} (hx : x ≤ e) (hy : y ≤ e) : StOk e (stF x y) := ⟨by simp, by simp; omega, by simp; omega, by simp, by simp⟩
theorem cod_ok : ∀ (t : Rx) (p : Nat), ∀ n ∈ t.cod p, StOk (p + (t.cod p).length) n
  | .leaf m, p => by
    intro n hn
    simp only [Rx.cod] at hn ⊢
    split at hn
    · simp at hn; subst hn; rename_i h; simp [h]; exact ⟨by simp, by simp; omega, by simp; omega, by simp, by simp⟩
    · rename_i h1
      split at hn
      · simp at hn; subst hn; rename_i h; simp [h]; exact ⟨by simp, by simp; omega, by simp; omega, by simp, by simp⟩
      · rename_i h8
        split at hn
        · simp at hn; subst hn; rename_i h; simp [h]; exact ⟨by simp, by simp; omega, by simp; omega, by simp, by simp⟩
        · cases hn
  | .one m a, p => by
    intro n hn
    have h1 := cod_ok a p
    have h2 := cod_ok a (p + 1)
    simp only [Rx.cod] at hn ⊢
    split at hn
    · rename_i h
      rw [if_pos h]
      simp only [List.length_cons, List.length_append, List.length_nil]
      simp only [List.mem_cons, List.mem_append, List.not_mem_nil, or_false] at hn
      rcases hn with rfl | hn | rfl
      · exact stF_ok (by omega) (by omega)
      · exact (h2 n hn).mono (by omega)
      · exact stF_ok (by omega) (by omega)
    · rename_i h
      rw [if_neg h]
      split at hn
      · rename_i h6
        rw [if_pos h6]
        simp only [List.length_cons, List.length_append, List.length_nil]
        simp only [List.mem_cons, List.mem_append, List.not_mem_nil, or_false] at hn
        rcases hn with hn | rfl
        · exact (h1 n hn).mono (by omega)
        · exact stF_ok (by omega) (by omega)
      · rename_i h6
        rw [if_neg h6]
        simp only [List.length_cons]
        simp only [List.mem_cons] at hn
        rcases hn with rfl | hn
        · exact stF_ok (by omega) (by omega)
        · exact (h2 n hn).mono (by omega)
  | .two m a b, p => by
    intro n hn
    have h1 := cod_ok a p
    have h2 := cod_ok a (p + 1)
    have h3 := cod_ok b (p + (a.cod p).length)
    have h4 := cod_ok b (p + 1 + (a.cod (p + 1)).length + 1)
    simp only [Rx.cod] at hn ⊢
    split at hn
    · rename_i h
      rw [if_pos h, List.length_append]
      rcases List.mem_append.1 hn with hn | hn
      · exact (h1 n hn).mono (by omega)
      · exact (h3 n hn).mono (by omega)
    · rename_i h
      rw [if_neg h]
      simp only [List.length_cons, List.length_append]
      simp only [List.mem_cons, List.mem_append] at hn
      rcases hn with rfl | hn | rfl | hn
      · exact stF_ok (by omega) (by omega)
      · exact (h2 n hn).mono (by omega)
      · exact stF_ok (by omega) (by omega)
      · exact (h4 n hn).mono (by omega)
theorem prog_len (t : Rx) : t.prog.length = (t.cod 0).length + 1 := by simp [Rx.prog]
theorem stScan_of (N : Nat) : ∀ (l : List St), (∀ n ∈ l, stBad N n = 0) → stScan N l = 0
  | [], _ => rfl
  | a :: r, h => by rw [stScan, if_pos (h a (by simp))]; exact stScan_of N r (fun n hn => h n (by simp [hn]))
theorem z4_eqb : z4.eqb z4 = true := by decide
/-- The program of a valid pattern is one. -/
theorem prog_fault (t : Rx) (hl : t.flat.length ≤ 60) : stepsF t.prog = 0 := by
  have hc := t.cod_len 0
  have hp := prog_len t
  unfold stepsF
  rw [if_neg (by omega), if_neg (by omega)]
  refine stScan_of _ _ fun n hn => ?_
  unfold Rx.prog at hn
  rcases List.mem_append.1 hn with hn | hn
  · obtain ⟨h1, h2, h3, h4, h5⟩ := cod_ok t 0 n hn
    refine stBad_ok ?_ ?_
    · unfold stRange
      omega
    · rintro (⟨ha, hb⟩ | ⟨ha, hb⟩ | ⟨ha, hb⟩)
      · rw [h5 ha] at hb
        exact hb z4_eqb
      · exact hb (h4 ha)
      · omega
  · rw [List.mem_singleton] at hn
    subst hn
    refine stBad_ok ?_ ?_
    · unfold stRange
      simp
    · rintro (⟨ha, hb⟩ | ⟨ha, hb⟩ | ⟨ha, hb⟩)
      · exact hb z4_eqb
      · exact hb rfl
      · exact hb rfl
theorem prog_seg (t : Rx) : Seg t.prog 0 (t.cod 0) := by
  have : Seg t.prog 0 t.prog := fun i n hi => by rw [Nat.zero_add]; exact hi
  exact this.left
theorem prog_done (t : Rx) : t.prog[(t.cod 0).length]? = some stD := by simp [Rx.prog]
theorem prog_five (t : Rx) {k : Nat} {n : St} (h : t.prog[k]? = some n) (h5 : n.op = 5) : k = (t.cod 0).length := by
  rcases Nat.lt_trichotomy k (t.cod 0).length with hk | hk | hk
  · unfold Rx.prog at h
    rw [List.getElem?_append_left hk] at h
    have := (cod_ok t 0 n (List.mem_of_getElem? h)).1
    omega
  · exact hk
  · rw [List.getElem?_eq_none (by rw [prog_len]; omega)] at h
    cases h
/-- Spots and steps. -/
theorem spot_div {N k a : Nat} (ha : a < N) : (k * N + a) / N = k ∧ (k * N + a) % N = a := by
  have hN : 0 < N := by omega
  refine ⟨?_, ?_⟩
  · rw [Nat.mul_comm, Nat.mul_add_div hN, Nat.div_eq_of_lt ha, Nat.add_zero]
  · rw [Nat.mul_comm, Nat.mul_add_mod, Nat.mod_eq_of_lt ha]
theorem nx_stp (ss : List St) (s : List UInt8) {k a q' : Nat} (ha : a ≤ s.length) : q' ∈ nx ss s (k * (s.length + 1) + a) ↔ ∃ k' a', Stp ss s k a k' a' ∧ a' ≤ s.length ∧ q' = k' * (s.length + 1) + a' := by
  obtain ⟨hd, hm⟩ := spot_div (N := s.length + 1) (k := k) (a := a) (by omega)
  unfold nx Stp
  rw [hd, hm]
  cases hn : ss[k]? with
  | none => simp
  | some n =>
    simp only [Option.some.injEq, exists_eq_left']
    by_cases h1 : n.op = 1
    · rw [if_pos h1]
      have e : ∀ k' a', ((n.op = 1 ∧ k' = n.x.toNat ∧ a' = a + 1 ∧ ∃ c, s[a]? = some c ∧ n.c.has c.toNat = true) ∨ (n.op = 2 ∧ (k' = n.x.toNat ∨ k' = n.y.toNat) ∧ a' = a) ∨ (n.op = 3 ∧ k' = n.x.toNat ∧ a' = a ∧ a = 0) ∨ (n.op = 4 ∧ k' = n.x.toNat ∧ a' = a ∧ a = s.length)) ↔ (k' = n.x.toNat ∧ a' = a + 1 ∧ ∃ c, s[a]? = some c ∧ n.c.has c.toNat = true) := by
        intro k' a'
        constructor
        · rintro (⟨_, h⟩ | ⟨h, _⟩ | ⟨h, _⟩ | ⟨h, _⟩)
          · exact h
          · omega
          · omega
          · omega
        · intro h
          exact Or.inl ⟨h1, h⟩
      simp only [e]
      cases hc : s[a]? with
      | none => simp
      | some c =>
        have hlt : a < s.length := by
          rcases Nat.lt_or_ge a s.length with h' | h'
          · exact h'
          · rw [List.getElem?_eq_none h'] at hc; cases hc
        simp only [Option.some.injEq, exists_eq_left']
        by_cases hh : n.c.has c.toNat = true
        · rw [if_pos hh, List.mem_singleton]
          constructor
          · rintro rfl
            exact ⟨_, _, ⟨rfl, rfl, hh⟩, by omega, by omega⟩
          · rintro ⟨k', a', ⟨rfl, rfl, _⟩, _, rfl⟩
            omega
        · rw [if_neg hh]
          constructor
          · intro h; cases h
          · rintro ⟨k', a', ⟨_, _, h⟩, _⟩
            exact absurd h hh
    · rw [if_neg h1]
      by_cases h2 : n.op = 2
      · rw [if_pos h2, List.mem_cons, List.mem_singleton]
        constructor
        · rintro (rfl | rfl)
          · exact ⟨_, _, Or.inr (Or.inl ⟨h2, Or.inl rfl, rfl⟩), ha, rfl⟩
          · exact ⟨_, _, Or.inr (Or.inl ⟨h2, Or.inr rfl, rfl⟩), ha, rfl⟩
        · rintro ⟨k', a', h | ⟨_, h, rfl⟩ | h | h, _, rfl⟩
          · exact absurd h.1 h1
          · rcases h with rfl | rfl
            · exact Or.inl rfl
            · exact Or.inr rfl
          · have := h.1; omega
          · have := h.1; omega
      · rw [if_neg h2]
        by_cases h3 : n.op = 3
        · rw [if_pos h3]
          by_cases h0 : a = 0
          · rw [if_pos h0, List.mem_singleton]
            constructor
            · rintro rfl
              exact ⟨_, _, Or.inr (Or.inr (Or.inl ⟨h3, rfl, rfl, h0⟩)), ha, rfl⟩
            · rintro ⟨k', a', h | h | ⟨_, rfl, rfl, _⟩ | h, _, rfl⟩
              · exact absurd h.1 h1
              · exact absurd h.1 h2
              · rfl
              · have := h.1; omega
          · rw [if_neg h0]
            constructor
            · intro h; cases h
            · rintro ⟨k', a', h | h | ⟨_, _, _, h⟩ | h, _⟩
              · exact absurd h.1 h1
              · exact absurd h.1 h2
              · exact absurd h h0
              · have := h.1; omega
        · rw [if_neg h3]
          by_cases h4 : n.op = 4
          · rw [if_pos h4]
            by_cases h0 : a = s.length
            · rw [if_pos h0, List.mem_singleton]
              constructor
              · rintro rfl
                exact ⟨_, _, Or.inr (Or.inr (Or.inr ⟨h4, rfl, rfl, h0⟩)), ha, rfl⟩
              · rintro ⟨k', a', h | h | h | ⟨_, rfl, rfl, _⟩, _, rfl⟩
                · exact absurd h.1 h1
                · exact absurd h.1 h2
                · exact absurd h.1 h3
                · rfl
            · rw [if_neg h0]
              constructor
              · intro h; cases h
              · rintro ⟨k', a', h | h | h | ⟨_, _, _, h⟩, _⟩
                · exact absurd h.1 h1
                · exact absurd h.1 h2
                · exact absurd h.1 h3
                · exact absurd h h0
          · rw [if_neg h4]
            constructor
            · intro h; cases h
            · rintro ⟨k', a', h | h | h | h, _⟩
              · exact absurd h.1 h1
              · exact absurd h.1 h2
              · exact absurd h.1 h3
              · exact absurd h.1 h4
theorem rch_pth (ss : List St) (s : List UInt8) {i q : Nat} (hi : i ≤ s.length) (h : Rch ss s i q) : ∃ n k a, a ≤ s.length ∧ q = k * (s.length + 1) + a ∧ Pth ss s n 0 i k a := by
  induction h with
  | base => exact ⟨0, 0, i, hi, by simp, .nil _ _⟩
  | step q q' _ hn ih =>
    obtain ⟨n, k, a, ha, rfl, hp⟩ := ih
    obtain ⟨k', a', hs, ha', rfl⟩ := (nx_stp ss s ha).1 hn
    exact ⟨n + 1, k', a', ha', rfl, hp.trans (.one hs)⟩
theorem stp_le {ss : List St} {s : List UInt8} {k a k' a' : Nat} (ha : a ≤ s.length) (h : Stp ss s k a k' a') : a' ≤ s.length := by
  obtain ⟨n, _, ⟨_, _, h2, c, hc, _⟩ | ⟨_, _, h2⟩ | ⟨_, _, h2, _⟩ | ⟨_, _, h2, _⟩⟩ := h
  · have hlt : a < s.length := by
      rcases Nat.lt_or_ge a s.length with h' | h'
      · exact h'
      · rw [List.getElem?_eq_none h'] at hc; cases hc
    omega
  · omega
  · omega
  · omega
theorem pth_rch {ss : List St} {s : List UInt8} {q0 n k a k' a' : Nat} (h : Pth ss s n k a k' a') : a ≤ s.length → Rch ss s q0 (k * (s.length + 1) + a) → a' ≤ s.length ∧ Rch ss s q0 (k' * (s.length + 1) + a') := by
  induction h with
  | nil k a => exact fun h1 h2 => ⟨h1, h2⟩
  | cons m k a k1 a1 k' a' hs _ ih =>
    intro h1 h2
    have h3 := stp_le h1 hs
    exact ih h3 (.step _ _ h2 ((nx_stp ss s h1).2 ⟨k1, a1, hs, h3, rfl⟩))
/-- THE PROGRAM FITS WHAT THE PATTERN FITS. -/
theorem run_fit (t : Rx) (ht : t.Ok) (ho : ∀ n ∈ t.flat, 1 ≤ n.op ∧ n.op ≤ 9) (s : List UInt8) (i j : Nat) (hi : i ≤ s.length) : (∃ q, Rch t.prog s i q ∧ dn t.prog s q = true ∧ q % (s.length + 1) = j) ↔ Fit s t i j := by
  constructor
  · rintro ⟨q, hq, hd, rfl⟩
    obtain ⟨n, k, a, ha, rfl, hp⟩ := rch_pth t.prog s hi hq
    obtain ⟨h1, h2⟩ := spot_div (N := s.length + 1) (k := k) (a := a) (by omega)
    unfold dn at hd
    rw [h1] at hd
    rw [h2]
    cases hn : t.prog[k]? with
    | none => rw [hn] at hd; cases hd
    | some x =>
      rw [hn] at hd
      have hk := prog_five t hn (by simpa using hd)
      subst hk
      obtain ⟨j, m, _, hf, hr⟩ := path_fit t.prog s t ht ho 0 (prog_seg t) n i _ a hi hp (by omega)
      rw [Nat.zero_add] at hr
      cases hr with
      | nil => exact hf
      | cons m _ _ k1 a1 _ _ hs _ =>
        obtain ⟨y, hy, hc⟩ := hs
        rw [prog_done] at hy
        obtain rfl := Option.some.inj hy
        rcases hc with ⟨h, _⟩ | ⟨h, _⟩ | ⟨h, _⟩ | ⟨h, _⟩ <;> simp at h
  · intro hf
    have hj := (fit_le s t i j hf).2
    obtain ⟨m, hp⟩ := fit_path t.prog s t ht ho 0 i j (prog_seg t) hf
    rw [Nat.zero_add] at hp
    obtain ⟨_, hr⟩ := pth_rch (q0 := i) hp hi (by rw [Nat.zero_mul, Nat.zero_add]; exact .base)
    obtain ⟨h1, h2⟩ := spot_div (N := s.length + 1) (k := (t.cod 0).length) (a := j) (by omega)
    refine ⟨_, hr, ?_, h2⟩
    unfold dn
    rw [h1, prog_done]
    rfl
theorem run_ends (t : Rx) (ht : t.Ok) (ho : ∀ n ∈ t.flat, 1 ≤ n.op ∧ n.op ≤ 9) (s : List UInt8) (i : Nat) (hi : i ≤ s.length) (l : List Nat) : RunR t.prog s i l ↔ EndsR s t i l := by
  unfold RunR EndsR
  simp only [run_fit t ht ho s i _ hi]
end Go.Proofs.YtopoiljgghglaaaDoor
namespace Go.Proofs.YtopoiljgghglaaaDoor
set_option linter.unusedSimpArgs false
set_option linter.unusedVariables false
set_option maxRecDepth 100000
open Go.RowKit

/-- As many steps as one likes at one place. -/
inductive Sta (ss : List St) (s : List UInt8) (a : Nat) : Nat → Nat → Prop
  | nil (k : Nat) : Sta ss s a k k
  | cons (k k1 k2 : Nat) : Stp ss s k a k1 a → Sta ss s a k1 k2 → Sta ss s a k k2
theorem Sta.snoc {ss : List St} {s : List UInt8} {a k k1 k2 : Nat} (h : Sta ss s a k k1) (h2 : Stp ss s k1 a k2 a) : Sta ss s a k k2 := by
  induction h with
  | nil k => exact .cons _ _ _ h2 (.nil _)
  | cons k k1 k2 h _ ih => exact .cons _ _ _ h (ih h2)
theorem Sta.trans {ss : List St} {s : List UInt8} {a k k1 k2 : Nat} (h : Sta ss s a k k1) (h2 : Sta ss s a k1 k2) : Sta ss s a k k2 := by
  induction h with
  | nil k => exact h2
  | cons k k1 k2 h _ ih => exact .cons _ _ _ h (ih h2)
/-- What is seen, S, has become S' by going on from the steps K. -/
structure Vst (ss : List St) (s : List UInt8) (a : Nat) (S S' K : List Nat) : Prop where
  pre : ∃ m, S' = S ++ m
  has : ∀ k ∈ K, k ∈ S'
  sound : ∀ x ∈ S', x ∈ S ∨ ∃ k ∈ K, Sta ss s a k x
  shut : ∀ x ∈ S', x ∈ S ∨ ∀ y, Stp ss s x a y a → y ∈ S'
theorem Vst.sub {ss : List St} {s : List UInt8} {a : Nat} {S S' K : List Nat} (h : Vst ss s a S S' K) : ∀ x ∈ S, x ∈ S' := fun x hx => by
  obtain ⟨m, rfl⟩ := h.pre
  simp [hx]
theorem Vst.refl (ss : List St) (s : List UInt8) (a : Nat) (S K : List Nat) (h : ∀ k ∈ K, k ∈ S) : Vst ss s a S S K := ⟨⟨[], by simp⟩, h, fun x hx => Or.inl hx, fun x hx => Or.inl hx⟩
theorem Vst.comp {ss : List St} {s : List UInt8} {a : Nat} {S S1 S2 K L : List Nat} (h : Vst ss s a S S1 K) (g : Vst ss s a S1 S2 L) : Vst ss s a S S2 (K ++ L) where
  pre := by
    obtain ⟨m, rfl⟩ := h.pre
    obtain ⟨m', rfl⟩ := g.pre
    exact ⟨m ++ m', by simp⟩
  has := fun k hk => by
    rcases List.mem_append.1 hk with hk | hk
    · exact g.sub k (h.has k hk)
    · exact g.has k hk
  sound := fun x hx => by
    rcases g.sound x hx with h1 | ⟨k, hk, h1⟩
    · rcases h.sound x h1 with h2 | ⟨k, hk, h2⟩
      · exact Or.inl h2
      · exact Or.inr ⟨k, by simp [hk], h2⟩
    · exact Or.inr ⟨k, by simp [hk], h1⟩
  shut := fun x hx => by
    rcases g.shut x hx with h1 | h1
    · rcases h.shut x h1 with h2 | h2
      · exact Or.inl h2
      · exact Or.inr fun y hy => g.sub y (h2 y hy)
    · exact Or.inr h1
/-- One that was not seen is entered; behind it are K. -/
theorem Vst.enter {ss : List St} {s : List UInt8} {a k : Nat} {S S' K : List Nat} (h : Vst ss s a (S ++ [k]) S' K) (hK : ∀ y, Stp ss s k a y a ↔ y ∈ K) : Vst ss s a S S' [k] where
  pre := by
    obtain ⟨m, rfl⟩ := h.pre
    exact ⟨k :: m, by simp⟩
  has := fun x hx => by
    rw [List.mem_singleton.1 hx]
    exact h.sub k (by simp)
  sound := fun x hx => by
    rcases h.sound x hx with h1 | ⟨y, hy, h1⟩
    · rcases List.mem_append.1 h1 with h2 | h2
      · exact Or.inl h2
      · rw [List.mem_singleton.1 h2]
        exact Or.inr ⟨k, by simp, .nil _⟩
    · exact Or.inr ⟨k, by simp, .cons _ _ _ ((hK y).2 hy) h1⟩
  shut := fun x hx => by
    rcases h.shut x hx with h1 | h1
    · rcases List.mem_append.1 h1 with h2 | h2
      · exact Or.inl h2
      · rw [List.mem_singleton.1 h2]
        exact Or.inr fun y hy => h.has y ((hK y).1 hy)
    · exact Or.inr h1
/-- F is what is come to from b, at a place. -/
def Clo (ss : List St) (s : List UInt8) (a : Nat) (b F : List Nat) : Prop := ∀ k, k ∈ F ↔ ∃ k0 ∈ b, Sta ss s a k0 k
theorem Vst.clo {ss : List St} {s : List UInt8} {a : Nat} {b F : List Nat} (h : Vst ss s a [] F b) : Clo ss s a b F := by
  intro k
  constructor
  · intro hk
    rcases h.sound k hk with h1 | h1
    · cases h1
    · exact h1
  · rintro ⟨k0, hk0, h1⟩
    have h2 := h.has k0 hk0
    clear hk0
    induction h1 with
    | nil k => exact h2
    | cons k k1 k2 hs _ ih =>
      refine ih ?_
      rcases h.shut k h2 with h3 | h3
      · cases h3
      · exact h3 k1 hs
/-- What is come to from step 0 at place i. -/
inductive Rc (ss : List St) (s : List UInt8) (i : Nat) : Nat → Nat → Prop
  | base : Rc ss s i 0 i
  | step (k a k' a' : Nat) : Rc ss s i k a → Stp ss s k a k' a' → Rc ss s i k' a'
theorem Rc.sta {ss : List St} {s : List UInt8} {i k a k' : Nat} (h : Rc ss s i k a) (h2 : Sta ss s a k k') : Rc ss s i k' a := by
  induction h2 with
  | nil k => exact h
  | cons k k1 k2 hs _ ih => exact ih (.step _ _ _ _ h hs)
theorem Rc.le {ss : List St} {s : List UInt8} {i k a : Nat} (hi : i ≤ s.length) (h : Rc ss s i k a) : i ≤ a ∧ a ≤ s.length := by
  induction h with
  | base => exact ⟨Nat.le_refl _, hi⟩
  | step k a k' a' _ hs ih =>
    refine ⟨?_, stp_le ih.2 hs⟩
    obtain ⟨n, _, ⟨_, _, h, _⟩ | ⟨_, _, h⟩ | ⟨_, _, h, _⟩ | ⟨_, _, h, _⟩⟩ := hs <;> omega
theorem stp_place {ss : List St} {s : List UInt8} {k a k' a' : Nat} (hs : Stp ss s k a k' a') : a' = a ∨ a' = a + 1 := by
  obtain ⟨n, _, ⟨_, _, h, _⟩ | ⟨_, _, h⟩ | ⟨_, _, h, _⟩ | ⟨_, _, h, _⟩⟩ := hs <;> omega
/-- The last byte that was taken. -/
theorem Rc.last {ss : List St} {s : List UInt8} {i k a : Nat} (h : Rc ss s i k a) : (a = i ∧ Sta ss s a 0 k) ∨ ∃ a0 k0 k1, a = a0 + 1 ∧ Rc ss s i k0 a0 ∧ Stp ss s k0 a0 k1 (a0 + 1) ∧ Sta ss s a k1 k := by
  induction h with
  | base => exact Or.inl ⟨rfl, .nil _⟩
  | step k a k' a' hr hs ih =>
    rcases stp_place hs with rfl | rfl
    · rcases ih with ⟨h1, h2⟩ | ⟨a0, k0, k1, h1, h2, h3, h4⟩
      · exact Or.inl ⟨h1, h2.snoc hs⟩
      · exact Or.inr ⟨a0, k0, k1, h1, h2, h3, h4.snoc hs⟩
    · exact Or.inr ⟨a, k, k', rfl, hr, hs, .nil _⟩
/-- b is where the program begins at place a. -/
def Bgn (ss : List St) (s : List UInt8) (i a : Nat) (b : List Nat) : Prop := ∀ k, Rc ss s i k a ↔ ∃ k0 ∈ b, Sta ss s a k0 k
/-- b' is where it goes on behind the byte at a place. -/
def Tkn (ss : List St) (s : List UInt8) (a : Nat) (F b' : List Nat) : Prop := ∀ k', k' ∈ b' ↔ ∃ k ∈ F, Stp ss s k a k' (a + 1)
theorem bgn_init (ss : List St) (s : List UInt8) (i : Nat) (hi : i ≤ s.length) : Bgn ss s i i [0] := by
  intro k
  constructor
  · intro h
    rcases h.last with ⟨_, h1⟩ | ⟨a0, k0, k1, h1, h2, _, _⟩
    · exact ⟨0, by simp, h1⟩
    · have := (h2.le hi).1
      omega
  · rintro ⟨k0, hk, h⟩
    rw [List.mem_singleton.1 hk] at h
    exact Rc.base.sta h
theorem Bgn.clo {ss : List St} {s : List UInt8} {i a : Nat} {b F : List Nat} (h : Bgn ss s i a b) (hF : Clo ss s a b F) (k : Nat) : k ∈ F ↔ Rc ss s i k a := (hF k).trans (h k).symm
theorem Bgn.next {ss : List St} {s : List UInt8} {i a : Nat} {b F b' : List Nat} (hia : i ≤ a) (h : Bgn ss s i a b) (hF : Clo ss s a b F) (hT : Tkn ss s a F b') : Bgn ss s i (a + 1) b' := by
  intro k
  constructor
  · intro hr
    rcases hr.last with ⟨h1, _⟩ | ⟨a0, k0, k1, h1, h2, h3, h4⟩
    · omega
    · obtain rfl : a0 = a := by omega
      exact ⟨k1, (hT k1).2 ⟨k0, (h.clo hF k0).2 h2, h3⟩, h4⟩
  · rintro ⟨k1, hk1, h4⟩
    obtain ⟨k0, hk0, h3⟩ := (hT k1).1 hk1
    exact (Rc.step _ _ _ _ ((h.clo hF k0).1 hk0) h3).sta h4
/-- A place at which it is done. -/
def Dne (ss : List St) (k : Nat) : Prop := ∃ n, ss[k]? = some n ∧ n.op = 5
theorem rc_rch {ss : List St} {s : List UInt8} {i k a : Nat} (hi : i ≤ s.length) (h : Rc ss s i k a) : Rch ss s i (k * (s.length + 1) + a) := by
  induction h with
  | base => simpa using Rch.base
  | step k a k' a' hr hs ih =>
    have ha := (hr.le hi).2
    exact .step _ _ ih ((nx_stp ss s ha).2 ⟨k', a', hs, stp_le ha hs, rfl⟩)
theorem pth_rc {ss : List St} {s : List UInt8} {i m k a k' a' : Nat} (h : Pth ss s m k a k' a') : Rc ss s i k a → Rc ss s i k' a' := by
  induction h with
  | nil k a => exact id
  | cons m k a k1 a1 k' a' hs _ ih => exact fun hr => ih (.step _ _ _ _ hr hs)
theorem run_mem {ss : List St} {s : List UInt8} {i : Nat} (hi : i ≤ s.length) {l : List Nat} (hl : RunR ss s i l) (j : Nat) : j ∈ l ↔ ∃ k, Rc ss s i k j ∧ Dne ss k := by
  rw [hl.2 j]
  constructor
  · rintro ⟨q, hq, hd, rfl⟩
    obtain ⟨n, k, a, ha, rfl, hp⟩ := rch_pth ss s hi hq
    have hsd := spot_div (N := s.length + 1) (k := k) (a := a) (by omega)
    rw [hsd.2]
    refine ⟨k, pth_rc hp .base, ?_⟩
    unfold dn at hd
    rw [hsd.1] at hd
    cases hn : ss[k]? with
    | none => rw [hn] at hd; cases hd
    | some n => rw [hn] at hd; exact ⟨n, hn, of_decide_eq_true hd⟩
  · rintro ⟨k, hr, n, hn, h5⟩
    have ha := (hr.le hi).2
    have hsd := spot_div (N := s.length + 1) (k := k) (a := j) (by omega)
    refine ⟨_, rc_rch hi hr, ?_, hsd.2⟩
    unfold dn
    rw [hsd.1, hn]
    exact decide_eq_true h5
/-- The ends ahead of a place. -/
def ahead (l : List Nat) (a : Nat) : List Nat := l.filter fun j => decide (j < a)
theorem ahead_yes {l : List Nat} (hl : l.Pairwise (· < ·)) (a : Nat) (ha : a ∈ l) : ahead l (a + 1) = ahead l a ++ [a] := by
  induction l with
  | nil => cases ha
  | cons x r ih =>
    rw [List.pairwise_cons] at hl
    rcases List.mem_cons.1 ha with rfl | ha
    · have h1 : ahead r (a + 1) = [] := List.filter_eq_nil_iff.2 fun j hj => by
        have := hl.1 j hj
        simp
        omega
      have h2 : ahead r a = [] := List.filter_eq_nil_iff.2 fun j hj => by
        have := hl.1 j hj
        simp
        omega
      unfold ahead at h1 h2 ⊢
      simp [h1, h2]
    · have hx := hl.1 a ha
      have := ih hl.2 ha
      unfold ahead at this ⊢
      simp [this, show x < a + 1 by omega, hx]
theorem ahead_no {l : List Nat} (a : Nat) (ha : ¬ a ∈ l) : ahead l (a + 1) = ahead l a := by
  unfold ahead
  refine List.filter_congr fun j hj => ?_
  have : j ≠ a := fun e => ha (e ▸ hj)
  rw [decide_eq_decide]
  omega
theorem ahead_all {l : List Nat} (a : Nat) (h : ∀ j ∈ l, j < a) : ahead l a = l := List.filter_eq_self.2 fun j hj => decide_eq_true (h j hj)
theorem ahead_none {l : List Nat} (a : Nat) (h : ∀ j ∈ l, a ≤ j) : ahead l a = [] := List.filter_eq_nil_iff.2 fun j hj => by
  have := h j hj
  simp
  omega
/-- Where nothing is begun nothing is come to, there and behind. -/
theorem Bgn.none {ss : List St} {s : List UInt8} {i a : Nat} (h : Bgn ss s i a []) (hia : i ≤ a) : ∀ k a', Rc ss s i k a' → a' < a := by
  have key : ∀ d k, ¬ Rc ss s i k (a + d) := by
    intro d
    induction d with
    | zero =>
      intro k hr
      obtain ⟨k0, hk0, _⟩ := (h k).1 hr
      cases hk0
    | succ d ih =>
      intro k hr
      rcases hr.last with ⟨h1, _⟩ | ⟨a0, k0, k1, h1, h2, _, _⟩
      · omega
      · obtain rfl : a0 = a + d := by omega
        exact ih k0 h2
  intro k a' hr
  rcases Nat.lt_or_ge a' a with h1 | h1
  · exact h1
  · obtain ⟨d, rfl⟩ : ∃ d, a' = a + d := ⟨a' - a, by omega⟩
    exact absurd hr (key d k)
/-- Numbers below N, each once, are N at most. -/
theorem nodup_le (N : Nat) : ∀ (l : List Nat), l.Nodup → (∀ x ∈ l, x < N) → l.length ≤ N := by
  induction N with
  | zero =>
    intro l _ h
    cases l with
    | nil => simp
    | cons x r => exact absurd (h x (by simp)) (by omega)
  | succ N ih =>
    intro l hn h
    have h1 := ih (l.erase N) (hn.erase N) fun x hx => by
      have h2 := h x (List.mem_of_mem_erase hx)
      have h3 : x ≠ N := fun e => by
        subst e
        exact hn.not_mem_erase hx
      omega
    by_cases hN : N ∈ l
    · rw [List.length_erase_of_mem hN] at h1
      omega
    · rw [List.erase_of_not_mem hN] at h1
      omega
end Go.Proofs.YtopoiljgghglaaaDoor
namespace Go.Proofs.YtopoiljgghglaaaDoor
set_option linter.unusedSimpArgs false
set_option linter.unusedVariables false
set_option maxRecDepth 100000
open Go.RowKit
/-- A runner. -/
abbrev rnV (v : Value) (s : ByteArray) : Value := .agg #[v, .string s]
set_option maxHeartbeats 1000000 in
theorem scheck_any (ss : List St) (v : Value) (s : ByteArray) (i : Int) (w : World) (hS : SsIn w v ss) (hs : s.size ≤ maxLen) :
    Calls Tryd.prog 19 #[v, .string s, .int .i64 i] w fun e w' => e = .returned (errV (simE ss s.size i)) ∧ Below w.heap.size w w' := by
  have HC := hid (pcheck_any ss v w hS)
  obtain ⟨a, cap, rfl, hm⟩ := ssIn_form hS
  unfold maxLen at hs
  clear hS
  by_cases hf : stepsF ss = 0
  · rw [show errV (stepsF ss) = .nilIface by rw [hf]; rfl] at HC
    by_cases h4 : 400 < s.size
    · have HF : Hid (simE ss s.size i = 3) := by show _ = _; unfold simE; rw [if_pos hf, if_pos h4]
      have g4 : (400 : Int) < (s.size : Int) := by omega
      clear hf h4
      go_enter Tryd.func19, Tryd.ntmps19
      go_wp2_with fail
      refine Calls.mono HC.out ?_
      rintro e w1 ⟨rfl, hb⟩
      go_wp2
      go_ret
      exact ⟨by rw [HF.out]; rfl, hb⟩
    · have g4 : (s.size : Int) ≤ 400 := by omega
      by_cases h0 : 0 ≤ i
      · by_cases h1 : i ≤ (s.size : Int)
        · have HF : Hid (simE ss s.size i = 0) := by show _ = _; unfold simE; rw [if_pos hf, if_neg h4, if_pos ⟨h0, h1⟩]
          clear hf h4
          go_enter Tryd.func19, Tryd.ntmps19
          go_wp2_with fail
          refine Calls.mono HC.out ?_
          rintro e w1 ⟨rfl, hb⟩
          go_wp2
          go_ret
          exact ⟨by rw [HF.out]; rfl, hb⟩
        · have HF : Hid (simE ss s.size i = 1) := by show _ = _; unfold simE; rw [if_pos hf, if_neg h4, if_neg (by omega)]
          clear hf h4
          go_enter Tryd.func19, Tryd.ntmps19
          go_wp2_with fail
          refine Calls.mono HC.out ?_
          rintro e w1 ⟨rfl, hb⟩
          go_wp2
          go_ret
          exact ⟨by rw [HF.out]; rfl, hb⟩
      · have HF : Hid (simE ss s.size i = 1) := by show _ = _; unfold simE; rw [if_pos hf, if_neg h4, if_neg (by omega)]
        clear hf h4
        go_enter Tryd.func19, Tryd.ntmps19
        go_wp2_with fail
        refine Calls.mono HC.out ?_
        rintro e w1 ⟨rfl, hb⟩
        go_wp2
        go_ret
        exact ⟨by rw [HF.out]; rfl, hb⟩
  · have HF : Hid (simE ss s.size i = stepsF ss) := by show _ = _; unfold simE; rw [if_neg hf]
    rw [show errV (stepsF ss) = .iface 41 (.int .i64 (stepsF ss)) by unfold errV; rw [if_neg hf]] at HC
    go_enter Tryd.func19, Tryd.ntmps19
    go_wp2_with fail
    refine Calls.mono HC.out ?_
    rintro e w1 ⟨rfl, hb⟩
    go_wp2
    go_ret
    exact ⟨by rw [HF.out]; unfold errV; rw [if_neg hf]; rfl, hb⟩
/-- What isDone answers. -/
def DnP (ss : List St) (F : List Nat) (w : World) (e : Ending) (w' : World) : Prop := ∃ y, e = .returned (.bool y) ∧ (y = true ↔ ∃ k ∈ F, Dne ss k) ∧ Below w.heap.size w w'
set_option maxHeartbeats 2000000 in
theorem isDone_any (ss : List St) (b off cap : Nat) (h200 : ss.length ≤ 200) (s : ByteArray) (F : List Nat) (hF : ∀ x ∈ F, x < ss.length) (g o c : Nat) (hlen : F.length ≤ 200) (w : World) (hlt : b < w.heap.size) (hN : SsAt w b off ss) (hg : g < w.heap.size) (hI : IsAt w g o F) :
    Calls Tryd.prog 39 #[rnV (.slice (some ⟨b, off, none⟩) ss.length cap) s, .slice (some ⟨g, o, none⟩) F.length c] w (DnP ss F w) := by
  obtain ⟨ob, hob⟩ : ∃ ob : Obj, ob = .cells #[.slice (some ⟨b, off, none⟩) ss.length cap, .string s] 60 := ⟨_, rfl⟩
  have hB0 : Below w.heap.size w (w.alloc ob) := (Below.refl _ _).alloc (Nat.le_refl _) _
  have cr : (w.alloc ob).cell? ⟨w.heap.size, 0, none⟩ = some (.slice (some ⟨b, off, none⟩) ss.length cap) := by rw [hob]; simp
  have HN := hid (hN.below hB0 hlt)
  have HI := hid (hI.below hB0 hg)
  have HF := hid hF
  clear hN hI hF
  go_enter Tryd.func39, Tryd.ntmps39
  go_wp2_with fail
  rw [← hob]
  clear hob
  go_loopw [9] (fun v wr => ∃ i : Nat, i ≤ F.length ∧ v = .int .i64 i ∧ wr = w.alloc ob ∧ Hid (∀ k ∈ F.take i, ¬ Dne ss k)) (fun v _ => F.length - (intOf v).toNat)
  case atStart => exact ⟨0, by omega, rfl, rfl, fun k hk => by simp at hk⟩
  case round =>
    obtain ⟨i, hi, rfl, rfl, HS⟩ := hrel
    by_cases hil : i < F.length
    · obtain ⟨x, hx⟩ : ∃ x, F[i]? = some x := ⟨F[i], List.getElem?_eq_getElem hil⟩
      have hxF : x ∈ F := List.mem_of_getElem? hx
      have hxl := HF.out x hxF
      obtain ⟨n, hn⟩ : ∃ n, ss[x]? = some n := ⟨ss[x], List.getElem?_eq_getElem hxl⟩
      have ci := HI.out i x hx
      obtain ⟨c0, -⟩ := HN.out x n hn
      have g1 : (i : Int) < (F.length : Int) := by omega
      have g2 : (x : Int) < (ss.length : Int) := by omega
      by_cases h5 : n.op = 5
      · rw [h5] at c0
        have HY : Hid (∃ k ∈ F, Dne ss k) := ⟨x, hxF, n, hn, h5⟩
        clear hx hxF hn h5
        go_wp2
        go_ret
        exact ⟨true, rfl, by simp [HY.out], hB0⟩
      · have e5 : (n.op == 5) = false := by rw [beq_eq_false_iff_ne]; exact h5
        have HS2 : Hid (∀ k ∈ F.take (i + 1), ¬ Dne ss k) := by
          intro k hk
          rw [List.take_add_one, hx] at hk
          rcases List.mem_append.1 hk with hk | hk
          · exact HS.out k hk
          · simp at hk
            subst hk
            rintro ⟨n', hn', h5'⟩
            rw [hn] at hn'
            injection hn' with hn'
            exact h5 (hn' ▸ h5')
        clear hx hxF hn h5
        go_wp2
        exact ⟨⟨i + 1, by omega, by go_num, by first | rfl | trivial, HS2⟩, by simp [intOf]; omega⟩
    · have he : i = F.length := by omega
      have g1 : ¬ (i : Int) < (F.length : Int) := by omega
      have HY : Hid (∀ k ∈ F, ¬ Dne ss k) := fun k hk => HS.out k (by rw [he, List.take_length]; exact hk)
      clear HS he
      go_wp2
      go_ret
      refine ⟨false, rfl, ⟨fun h => (by cases h), fun ⟨k, hk, hd⟩ => absurd hd (HY.out k hk)⟩, hB0⟩
end Go.Proofs.YtopoiljgghglaaaDoor
namespace Go.Proofs.YtopoiljgghglaaaDoor
set_option linter.unusedSimpArgs false
set_option linter.unusedVariables false
set_option maxRecDepth 100000
open Go.RowKit
set_option maxHeartbeats 400000 in
theorem has_any (k : C4) (x : Int) (w : World) (h : 0 ≤ x) (h2 : x < 256) :
    Calls Tryd.prog 50 #[k.v, .int .u8 x] w fun e w' => e = .returned (.bool (k.hasI x)) ∧ Below w.heap.size w w' := by
  have hw := k.get (x/64).toNat (by omega)
  go_enter Tryd.func50, Tryd.ntmps50
  go_wp2
  go_ret
  exact ⟨rfl, (Below.refl _ _).alloc (Nat.le_refl _) _⟩
end Go.Proofs.YtopoiljgghglaaaDoor
