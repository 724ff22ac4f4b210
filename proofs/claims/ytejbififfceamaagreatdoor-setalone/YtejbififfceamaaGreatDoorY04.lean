/- Valid patterns as trees; turned, they are turned back. Rows of the call's own, and what they keep. No function of the program. A pattern's text. Plain mathematics of classes, fourth part: a class can be read back out of its text; so two classes have other texts. -/
import Derived.Test.YtejbififfceamaaGreatDoorY02
import Derived.Test.YtejbififfceamaaGreatDoorY03
import Derived.OwnWalk
import Derived.Deep.Onto
namespace Go.Proofs.YtejbififfceamaaGreatDoor
set_option linter.unusedSimpArgs false
set_option linter.unusedVariables false
set_option maxRecDepth 100000
open Go.RowKit

/-- A valid pattern as a tree. -/
inductive Rx where
  | leaf : Nd → Rx
  | one : Nd → Rx → Rx
  | two : Nd → Rx → Rx → Rx
def Rx.flat : Rx → List Nd
  | .leaf n => [n]
  | .one n a => n :: a.flat
  | .two n a b => n :: (a.flat ++ b.flat)
def Rx.Ok : Rx → Prop
  | .leaf n => prt n.op = 0
  | .one n a => prt n.op = 1 ∧ a.Ok
  | .two n a b => prt n.op = 2 ∧ a.Ok ∧ b.Ok
def Rx.turn : Rx → Rx
  | .leaf n => .leaf n.flip
  | .one n a => .one n.flip a.turn
  | .two n a b => if n.op = 3 then .two n.flip b.turn a.turn else .two n.flip a.turn b.turn
def Rx.emp : Rx → Bool
  | .leaf n => !decide (n.op = 1)
  | .one n a => if n.op = 6 then a.emp else true
  | .two n a b => if n.op = 3 then a.emp && b.emp else a.emp || b.emp
theorem Rx.flat_pos : ∀ t : Rx, 0 < t.flat.length
  | .leaf n => by simp [Rx.flat]
  | .one n a => by simp [Rx.flat]
  | .two n a b => by simp [Rx.flat]
theorem get_mid (p q : List Nd) (n : Nd) : (p ++ n :: q)[p.length]? = some n := by
  rw [List.getElem?_append_right (Nat.le_refl _)]; simp
/-- The end of a tree's part. -/
theorem endF_flat : ∀ (t : Rx), t.Ok → ∀ (p q : List Nd) (f : Nat), t.flat.length ≤ f → endF (p ++ t.flat ++ q) f p.length = some (p.length + t.flat.length)
  | .leaf n, h, p, q, f, hf => by
    obtain ⟨f, rfl⟩ : ∃ g, f = g + 1 := ⟨f - 1, by simp [Rx.flat] at hf; omega⟩
    have e : p ++ (Rx.leaf n).flat ++ q = p ++ n :: q := by simp [Rx.flat]
    rw [e, endF, get_mid]
    simp only
    rw [if_pos (show prt n.op = 0 from h)]
    simp [Rx.flat]
  | .one n a, h, p, q, f, hf => by
    obtain ⟨f, rfl⟩ : ∃ g, f = g + 1 := ⟨f - 1, by simp [Rx.flat] at hf; omega⟩
    have ih := endF_flat a h.2 (p ++ [n]) q f (by simp [Rx.flat] at hf; omega)
    have e : p ++ (Rx.one n a).flat ++ q = p ++ n :: (a.flat ++ q) := by simp [Rx.flat]
    have e' : p ++ [n] ++ a.flat ++ q = p ++ n :: (a.flat ++ q) := by simp
    rw [e'] at ih
    rw [e, endF, get_mid]
    simp only
    rw [if_neg (by have := h.1; omega), if_pos h.1]
    rw [show p.length + 1 = (p ++ [n]).length from by simp, ih]
    simp [Rx.flat]; omega
  | .two n a b, h, p, q, f, hf => by
    obtain ⟨f, rfl⟩ : ∃ g, f = g + 1 := ⟨f - 1, by simp [Rx.flat] at hf; omega⟩
    have ih := endF_flat a h.2.1 (p ++ [n]) (b.flat ++ q) f (by simp [Rx.flat] at hf; omega)
    have ih2 := endF_flat b h.2.2 (p ++ [n] ++ a.flat) q f (by simp [Rx.flat] at hf; omega)
    have e : p ++ (Rx.two n a b).flat ++ q = p ++ n :: (a.flat ++ (b.flat ++ q)) := by simp [Rx.flat]
    have e' : p ++ [n] ++ a.flat ++ (b.flat ++ q) = p ++ n :: (a.flat ++ (b.flat ++ q)) := by simp
    have e2 : p ++ [n] ++ a.flat ++ b.flat ++ q = p ++ n :: (a.flat ++ (b.flat ++ q)) := by simp
    rw [e'] at ih
    rw [e2] at ih2
    rw [e, endF, get_mid]
    simp only
    rw [if_neg (by have := h.1; omega), if_neg (by have := h.1; omega)]
    rw [show p.length + 1 = (p ++ [n]).length from by simp, ih]
    rw [Option.bind_some, show (p ++ [n]).length + a.flat.length = (p ++ [n] ++ a.flat).length from by simp; omega, ih2]
    simp [Rx.flat]; omega
/-- A valid part is a tree's. -/
theorem part_tree (ns : List Nd) : ∀ (f i j : Nat), endF ns f i = some j → ∃ t : Rx, t.Ok ∧ ∃ q, ns.drop i = t.flat ++ q ∧ j = i + t.flat.length
  | 0, i, j, h => by simp [endF] at h
  | f + 1, i, j, h => by
    obtain ⟨n, hn, hil, hc⟩ := part_cases ns f i j h
    have hd : ns.drop i = n :: ns.drop (i + 1) := by
      rw [List.drop_eq_getElem_cons hil]
      rw [List.getElem?_eq_getElem hil] at hn
      rw [Option.some.inj hn]
    rcases hc with ⟨h0, rfl⟩ | ⟨h0, h1⟩ | ⟨h0, k, h1, h2⟩
    · exact ⟨.leaf n, h0, _, hd, rfl⟩
    · obtain ⟨t, ht, q, e, ej⟩ := part_tree ns f _ _ h1
      exact ⟨.one n t, ⟨h0, ht⟩, q, by rw [hd, e]; simp [Rx.flat], by rw [ej]; simp [Rx.flat]; omega⟩
    · obtain ⟨t, ht, q, e, ek⟩ := part_tree ns f _ _ h1
      obtain ⟨u, hu, r, e2, ej⟩ := part_tree ns f _ _ h2
      have hq : q = ns.drop k := by
        have : (ns.drop (i + 1)).drop t.flat.length = q := by rw [e]; simp
        rw [← this, List.drop_drop, ek]
      refine ⟨.two n t u, ⟨h0, ht, hu⟩, r, ?_, ?_⟩
      · rw [hd, e, hq, e2]; simp [Rx.flat]
      · rw [ej, ek]; simp [Rx.flat]; omega
theorem tree_of (ns : List Nd) (hv : endE ns 0 = some ns.length) : ∃ t : Rx, t.Ok ∧ ns = t.flat := by
  obtain ⟨t, ht, q, e, ej⟩ := part_tree ns _ 0 _ hv
  refine ⟨t, ht, ?_⟩
  rw [List.drop_zero] at e
  have : q = [] := by
    apply List.eq_nil_of_length_eq_zero
    have := congrArg List.length e
    simp at this
    omega
  rw [e, this, List.append_nil]
theorem endE_flat (t : Rx) (ht : t.Ok) : endE t.flat 0 = some t.flat.length := by
  have := endF_flat t ht [] [] (t.flat.length + 1) (by omega)
  simpa [endE] using this
theorem endE_mid (t : Rx) (ht : t.Ok) (p q : List Nd) : endE (p ++ t.flat ++ q) p.length = some (p.length + t.flat.length) :=
  endF_flat t ht p q _ (by simp; omega)
theorem flip_prt (op : Int) : prt (flipOp op) = prt op := by
  unfold flipOp
  split
  · rename_i h; subst h; rfl
  · split
    · rename_i h; subst h; rfl
    · rfl
theorem flip_flip (n : Nd) : n.flip.flip = n := by
  obtain ⟨op, c⟩ := n
  simp only [Nd.flip, Nd.mk.injEq, and_true]
  unfold flipOp
  by_cases h8 : op = 8
  · subst h8; rfl
  · by_cases h9 : op = 9
    · subst h9; rfl
    · simp [h8, h9]
theorem flip_eq {op : Int} (k : Int) (hk : k ≠ 8) (hk' : k ≠ 9) : flipOp op = k ↔ op = k := by
  unfold flipOp
  by_cases h8 : op = 8
  · subst h8; simp; omega
  · by_cases h9 : op = 9
    · subst h9; simp; omega
    · simp [h8, h9]
theorem turF_flat : ∀ (t : Rx), t.Ok → ∀ (p q : List Nd) (f : Nat), t.flat.length ≤ f → turF (p ++ t.flat ++ q) f p.length = t.turn.flat
  | .leaf n, h, p, q, f, hf => by
    obtain ⟨f, rfl⟩ : ∃ g, f = g + 1 := ⟨f - 1, by simp [Rx.flat] at hf; omega⟩
    have e : p ++ (Rx.leaf n).flat ++ q = p ++ n :: q := by simp [Rx.flat]
    have h0 : prt n.op = 0 := h
    have e3 : ¬ n.op = 3 := by intro e; rw [e] at h0; simp [prt] at h0
    have e4 : ¬ n.op = 4 := by intro e; rw [e] at h0; simp [prt] at h0
    rw [e, turF_at _ f _ n (get_mid p q n), if_neg (by omega), if_neg e3, if_neg e4]
    simp [Rx.flat, Rx.turn]
  | .one n a, h, p, q, f, hf => by
    obtain ⟨f, rfl⟩ : ∃ g, f = g + 1 := ⟨f - 1, by simp [Rx.flat] at hf; omega⟩
    have ih := turF_flat a h.2 (p ++ [n]) q f (by simp [Rx.flat] at hf; omega)
    have e : p ++ (Rx.one n a).flat ++ q = p ++ n :: (a.flat ++ q) := by simp [Rx.flat]
    have e' : p ++ [n] ++ a.flat ++ q = p ++ n :: (a.flat ++ q) := by simp
    rw [e'] at ih
    rw [e, turF_at _ f _ n (get_mid p _ n), if_pos h.1]
    rw [show p.length + 1 = (p ++ [n]).length from by simp, ih]
    simp [Rx.flat, Rx.turn]
  | .two n a b, h, p, q, f, hf => by
    obtain ⟨f, rfl⟩ : ∃ g, f = g + 1 := ⟨f - 1, by simp [Rx.flat] at hf; omega⟩
    have ih := turF_flat a h.2.1 (p ++ [n]) (b.flat ++ q) f (by simp [Rx.flat] at hf; omega)
    have ih2 := turF_flat b h.2.2 (p ++ [n] ++ a.flat) q f (by simp [Rx.flat] at hf; omega)
    have ie := endE_mid a h.2.1 (p ++ [n]) (b.flat ++ q)
    have e : p ++ (Rx.two n a b).flat ++ q = p ++ n :: (a.flat ++ (b.flat ++ q)) := by simp [Rx.flat]
    have e' : p ++ [n] ++ a.flat ++ (b.flat ++ q) = p ++ n :: (a.flat ++ (b.flat ++ q)) := by simp
    have e2 : p ++ [n] ++ a.flat ++ b.flat ++ q = p ++ n :: (a.flat ++ (b.flat ++ q)) := by simp
    rw [e'] at ih ie
    rw [e2] at ih2
    rw [e, turF_at _ f _ n (get_mid p _ n), if_neg (by have := h.1; omega)]
    rw [show p.length + 1 = (p ++ [n]).length from by simp, ih, ie, Option.getD_some]
    rw [show (p ++ [n]).length + a.flat.length = (p ++ [n] ++ a.flat).length from by simp; omega, ih2]
    rcases (prt_two n.op).1 h.1 with e3 | e4
    · rw [if_pos e3, Rx.turn, if_pos e3, Rx.flat]
    · rw [if_neg (by omega), if_pos e4, Rx.turn, if_neg (by omega), Rx.flat]
theorem empF_flat : ∀ (t : Rx), t.Ok → ∀ (p q : List Nd) (f : Nat), t.flat.length ≤ f → empF (p ++ t.flat ++ q) f p.length = t.emp
  | .leaf n, h, p, q, f, hf => by
    obtain ⟨f, rfl⟩ : ∃ g, f = g + 1 := ⟨f - 1, by simp [Rx.flat] at hf; omega⟩
    have e : p ++ (Rx.leaf n).flat ++ q = p ++ n :: q := by simp [Rx.flat]
    have h0 : prt n.op = 0 := h
    have e3 : ¬ n.op = 3 := by intro e; rw [e] at h0; simp [prt] at h0
    have e4 : ¬ n.op = 4 := by intro e; rw [e] at h0; simp [prt] at h0
    have e6 : ¬ n.op = 6 := by intro e; rw [e] at h0; simp [prt] at h0
    rw [e, empF_at _ f _ n (get_mid p q n), if_neg e3, if_neg e4, if_neg e6, Rx.emp]
    by_cases h1 : n.op = 1 <;> simp [h1]
  | .one n a, h, p, q, f, hf => by
    obtain ⟨f, rfl⟩ : ∃ g, f = g + 1 := ⟨f - 1, by simp [Rx.flat] at hf; omega⟩
    have ih := empF_flat a h.2 (p ++ [n]) q f (by simp [Rx.flat] at hf; omega)
    have e : p ++ (Rx.one n a).flat ++ q = p ++ n :: (a.flat ++ q) := by simp [Rx.flat]
    have e' : p ++ [n] ++ a.flat ++ q = p ++ n :: (a.flat ++ q) := by simp
    have h0 := (prt_one n.op).1 h.1
    rw [e'] at ih
    rw [e, empF_at _ f _ n (get_mid p _ n), if_neg (by omega), if_neg (by omega), if_neg (by omega)]
    rw [show p.length + 1 = (p ++ [n]).length from by simp, ih, Rx.emp]
  | .two n a b, h, p, q, f, hf => by
    obtain ⟨f, rfl⟩ : ∃ g, f = g + 1 := ⟨f - 1, by simp [Rx.flat] at hf; omega⟩
    have ih := empF_flat a h.2.1 (p ++ [n]) (b.flat ++ q) f (by simp [Rx.flat] at hf; omega)
    have ih2 := empF_flat b h.2.2 (p ++ [n] ++ a.flat) q f (by simp [Rx.flat] at hf; omega)
    have ie := endE_mid a h.2.1 (p ++ [n]) (b.flat ++ q)
    have e : p ++ (Rx.two n a b).flat ++ q = p ++ n :: (a.flat ++ (b.flat ++ q)) := by simp [Rx.flat]
    have e' : p ++ [n] ++ a.flat ++ (b.flat ++ q) = p ++ n :: (a.flat ++ (b.flat ++ q)) := by simp
    have e2 : p ++ [n] ++ a.flat ++ b.flat ++ q = p ++ n :: (a.flat ++ (b.flat ++ q)) := by simp
    rw [e'] at ih ie
    rw [e2] at ih2
    have h0 := (prt_two n.op).1 h.1
    rw [e, empF_at _ f _ n (get_mid p _ n), if_neg (by omega)]
    rw [show p.length + 1 = (p ++ [n]).length from by simp, ih, ie, Option.getD_some]
    rw [show (p ++ [n]).length + a.flat.length = (p ++ [n] ++ a.flat).length from by simp; omega, ih2, Rx.emp]
    rcases h0 with e3 | e4
    · rw [if_pos e3, if_pos e3]
    · rw [if_neg (by omega), if_pos e4, if_neg (by omega)]
theorem Rx.turn_ok : ∀ t : Rx, t.Ok → t.turn.Ok
  | .leaf n, h => by show prt (flipOp n.op) = 0; rw [flip_prt]; exact h
  | .one n a, h => ⟨(flip_prt n.op).trans h.1, turn_ok a h.2⟩
  | .two n a b, h => by
    unfold Rx.turn
    split
    · exact ⟨(flip_prt n.op).trans h.1, turn_ok b h.2.2, turn_ok a h.2.1⟩
    · exact ⟨(flip_prt n.op).trans h.1, turn_ok a h.2.1, turn_ok b h.2.2⟩
theorem Rx.turn_turn : ∀ t : Rx, t.turn.turn = t
  | .leaf n => by simp [Rx.turn, flip_flip]
  | .one n a => by simp [Rx.turn, flip_flip, turn_turn a]
  | .two n a b => by
    have hf : n.flip.op = 3 ↔ n.op = 3 := flip_eq 3 (by decide) (by decide)
    by_cases h3 : n.op = 3
    · rw [Rx.turn, if_pos h3, Rx.turn, if_pos (hf.2 h3), flip_flip, turn_turn a, turn_turn b]
    · rw [Rx.turn, if_neg h3, Rx.turn, if_neg (fun e => h3 (hf.1 e)), flip_flip, turn_turn a, turn_turn b]
theorem Rx.turn_emp : ∀ t : Rx, t.turn.emp = t.emp
  | .leaf n => by
    have hf : n.flip.op = 1 ↔ n.op = 1 := flip_eq 1 (by decide) (by decide)
    simp [Rx.turn, Rx.emp, hf]
  | .one n a => by
    have hf : n.flip.op = 6 ↔ n.op = 6 := flip_eq 6 (by decide) (by decide)
    simp [Rx.turn, Rx.emp, hf, turn_emp a]
  | .two n a b => by
    have hf : n.flip.op = 3 ↔ n.op = 3 := flip_eq 3 (by decide) (by decide)
    by_cases h3 : n.op = 3
    · rw [Rx.turn, if_pos h3, Rx.emp, if_pos (hf.2 h3), Rx.emp, if_pos h3, turn_emp a, turn_emp b, Bool.and_comm]
    · rw [Rx.turn, if_neg h3, Rx.emp, if_neg (fun e => h3 (hf.1 e)), Rx.emp, if_neg h3, turn_emp a, turn_emp b]
theorem turE_flat (t : Rx) (ht : t.Ok) : turF t.flat (t.flat.length + 1) 0 = t.turn.flat := by
  have := turF_flat t ht [] [] (t.flat.length + 1) (by omega)
  simpa using this
theorem empE_flat (t : Rx) (ht : t.Ok) : empE t.flat = t.emp := by
  have := empF_flat t ht [] [] (t.flat.length + 1) (by omega)
  simpa [empE] using this
/-- Turned, the nodes are the same but for their order and Begin and End. -/
theorem Rx.turn_mem : ∀ (t : Rx) (n : Nd), n ∈ t.turn.flat ↔ n.flip ∈ t.flat
  | .leaf m, n => by
    simp only [Rx.turn, Rx.flat, List.mem_singleton]
    constructor
    · rintro rfl; exact flip_flip m
    · intro h; rw [← h, flip_flip]
  | .one m a, n => by
    simp only [Rx.turn, Rx.flat, List.mem_cons, turn_mem a n]
    constructor
    · rintro (rfl | h)
      · exact Or.inl (flip_flip m)
      · exact Or.inr h
    · rintro (h | h)
      · exact Or.inl (by rw [← h, flip_flip])
      · exact Or.inr h
  | .two m a b, n => by
    have hm : n = m.flip ↔ n.flip = m := ⟨by rintro rfl; exact flip_flip m, by intro h; rw [← h, flip_flip]⟩
    by_cases h3 : m.op = 3
    · rw [Rx.turn, if_pos h3]
      simp only [Rx.flat, List.mem_cons, List.mem_append, turn_mem a n, turn_mem b n, hm]
      constructor
      · rintro (h | h | h) <;> simp [h]
      · rintro (h | h | h) <;> simp [h]
    · rw [Rx.turn, if_neg h3]
      simp only [Rx.flat, List.mem_cons, List.mem_append, turn_mem a n, turn_mem b n, hm]
theorem scanL_zero : ∀ (ns : List Nd), scanL ns = 0 ↔ ∀ n ∈ ns, (1 ≤ n.op ∧ n.op ≤ 9) ∧ (n.op = 1 ∨ n.c.eqb z4 = true)
  | [] => by simp [scanL]
  | n :: r => by
    rw [scanL]
    simp only [List.mem_cons, forall_eq_or_imp, ← scanL_zero r]
    by_cases h : n.op < 1 ∨ 9 < n.op
    · rw [if_pos h]
      simp
      omega
    · rw [if_neg h]
      by_cases h2 : ¬ n.op = 1 ∧ ¬ n.c.eqb z4 = true
      · rw [if_pos h2]
        simp [h2.1, h2.2]
      · rw [if_neg h2]
        have h3 : n.op = 1 ∨ n.c.eqb z4 = true := by
          rcases Classical.em (n.op = 1) with e | e
          · exact Or.inl e
          · exact Or.inr (Classical.byContradiction fun e' => h2 ⟨e, e'⟩)
        have h4 : 1 ≤ n.op ∧ n.op ≤ 9 := by omega
        simp only [h3, h4, and_self, true_and]
theorem faultL_zero (ns : List Nd) : faultL ns = 0 ↔ ns.length ≤ 60 ∧ (∀ n ∈ ns, (1 ≤ n.op ∧ n.op ≤ 9) ∧ (n.op = 1 ∨ n.c.eqb z4 = true)) ∧ endE ns 0 = some ns.length := by
  rw [faultL, ← scanL_zero]
  by_cases h : 60 < ns.length
  · rw [if_pos h]; simp; omega
  · rw [if_neg h]
    by_cases h2 : scanL ns = 0
    · rw [if_neg (by simp [h2])]
      by_cases h3 : endE ns 0 = some ns.length
      · have h4 : ns ≠ [] := by rintro rfl; rw [endE_nil] at h3; cases h3
        rw [if_neg (by simp [h3, h4])]
        simp [h2, h3]; omega
      · rw [if_pos (Or.inr h3)]; simp [h3]
    · rw [if_pos (by simp [h2])]
      simp [h2]
/-- A pattern without a fault, turned. -/
theorem turn_good (ns : List Nd) (h : faultL ns = 0) : faultL (turF ns (ns.length + 1) 0) = 0 := by
  obtain ⟨h1, h2, h3⟩ := (faultL_zero ns).1 h
  obtain ⟨t, ht, rfl⟩ := tree_of ns h3
  have hl := turF_len t.flat _ 0 _ (Nat.le_refl _) h3
  rw [turE_flat t ht] at hl ⊢
  refine (faultL_zero _).2 ⟨by omega, ?_, endE_flat _ (Rx.turn_ok t ht)⟩
  intro n hn
  have := h2 n.flip ((Rx.turn_mem t n).1 hn)
  have h8 : n.flip.c = n.c := rfl
  have h9 : n.flip.op = 1 ↔ n.op = 1 := flip_eq 1 (by decide) (by decide)
  rw [h8, h9] at this
  refine ⟨?_, this.2⟩
  have e : n.flip.op = flipOp n.op := rfl
  rw [e] at this
  unfold flipOp at this
  split at this
  · omega
  · split at this
    · omega
    · exact this.1
theorem turn_twice (ns : List Nd) (h : endE ns 0 = some ns.length) : turF (turF ns (ns.length + 1) 0) ((turF ns (ns.length + 1) 0).length + 1) 0 = ns := by
  obtain ⟨t, ht, rfl⟩ := tree_of ns h
  rw [turE_flat t ht, turE_flat t.turn (Rx.turn_ok t ht), Rx.turn_turn]
theorem turn_empE (ns : List Nd) (h : endE ns 0 = some ns.length) : empE (turF ns (ns.length + 1) 0) = empE ns := by
  obtain ⟨t, ht, rfl⟩ := tree_of ns h
  rw [turE_flat t ht, empE_flat _ (Rx.turn_ok t ht), empE_flat _ ht, Rx.turn_emp]
end Go.Proofs.YtejbififfceamaaGreatDoor
namespace Go.Proofs.YtejbififfceamaaGreatDoor
set_option linter.unusedSimpArgs false
set_option linter.unusedVariables false
set_option maxRecDepth 100000
open Go.RowKit
theorem hp_lt {W : World} {k : Nat} {o : Obj} (h : W.heap[k]? = some o) : k < W.heap.size := (Array.getElem?_eq_some_iff.1 h).1
/-- A row of the call's own lies as it lay. -/
theorem owns_same {w w' : World} {B : Nat} {T : TypeId} {n : Nat} {v : Value} {k : Nat} {xs : List Value} (h : w.ownsRow B T n v k xs) (hs : ∀ g, v.ownBlock = some g → w'.heap[g]? = w.heap[g]?) : w'.ownsRow B T n v k xs := by
  refine ⟨h.1, ?_⟩
  rcases h.2 with h0 | ⟨g, cap, cur, hv, hb, hg, hr⟩
  · exact Or.inl h0
  · exact Or.inr ⟨g, cap, cur, hv, hb, (hs g (by rw [hv]; rfl)).trans hg, hr⟩
theorem owns_block {w : World} {B : Nat} {T : TypeId} {n : Nat} {v : Value} {k : Nat} {xs : List Value} (h : w.ownsRow B T n v k xs) {g : Nat} (e : v.ownBlock = some g) : B ≤ g ∧ g < w.heap.size ∧ ∃ cur, w.heap[g]? = some (.cells cur T (0, 0)) := by
  rcases h.2 with ⟨hv, _⟩ | ⟨b, cap, cur, hv, hb, hh, _⟩
  · rw [hv] at e; cases e
  · rw [hv] at e
    injection e with e
    simp only at e
    subst e
    exact ⟨hb, (Array.getElem?_eq_some_iff.1 hh).1, cur, hh⟩
theorem type_ne {w : World} {a b : Nat} {c d : Array Value} {T U : TypeId} {o p : Nat × Nat} (ha : w.heap[a]? = some (.cells c T o)) (hb : w.heap[b]? = some (.cells d U p)) (h : T ≠ U) : a ≠ b := by
  rintro rfl
  rw [ha] at hb
  injection hb with hb
  injection hb with _ hb _
  exact h hb
theorem But.grown {w w' : World} {row : Option Nat} {F : Nat → Prop} (h : w.grownBy w' row) (hF : ∀ k, row = some k → F k) : But F w w' := ⟨h.os, h.tape, h.output, h.size, fun k hk hn => h.block k hk (fun e => hn (hF k e.symm))⟩
/-- Rows of other types lie as they lay, where a box is turned. -/
theorem owns_other {w w' : World} {B b n k : Nat} {T U : TypeId} {v : Value} {xs : List Value} {cs : Array Value} (h : w.ownsRow B T n v k xs) (hb : w.heap[b]? = some (.cells cs U (0, 0))) (hne : T ≠ U) (hg : w.grownBy w' (some b)) : w'.ownsRow B T n v k xs :=
  owns_same h (fun g e => hg.block g (owns_block h e).2.1 (by
    intro e'
    injection e' with e'
    obtain ⟨_, _, cur, hc⟩ := owns_block h e
    exact type_ne hc hb hne e'))
/-- Rows of other types lie as they lay, where a row is grown. -/
theorem owns_row {w w' : World} {B B' n n' k k' : Nat} {T U : TypeId} {v u : Value} {xs ys : List Value} (h : w.ownsRow B T n v k xs) (hu : w.ownsRow B' U n' u k' ys) (hne : T ≠ U) (hg : w.grownBy w' u.ownBlock) : w'.ownsRow B T n v k xs :=
  owns_same h (fun g e => hg.block g (owns_block h e).2.1 (by
    intro e'
    obtain ⟨_, _, cur, hc⟩ := owns_block h e
    obtain ⟨_, _, cur', hc'⟩ := owns_block hu e'.symm
    exact type_ne hc hc' hne rfl))
theorem box_row {w w' : World} {B' n' k' b : Nat} {T U : TypeId} {u : Value} {ys : List Value} {cs : Array Value} (h : w.heap[b]? = some (.cells cs T (0, 0))) (hu : w.ownsRow B' U n' u k' ys) (hne : T ≠ U) (hg : w.grownBy w' u.ownBlock) : w'.heap[b]? = some (.cells cs T (0, 0)) :=
  (hg.block b (hp_lt h) (by
    intro e'
    obtain ⟨_, _, cur', hc'⟩ := owns_block hu e'.symm
    exact type_ne h hc' hne rfl)).trans h
theorem owns_below {w w' : World} {B n k : Nat} {T : TypeId} {v : Value} {xs : List Value} (h : w.ownsRow B T n v k xs) (hb : Below w.heap.size w w') : w'.ownsRow B T n v k xs := owns_same h (fun g e => hb.block g (owns_block h e).2.1)
theorem owns_grown {w w' : World} {B n k : Nat} {T : TypeId} {v : Value} {xs : List Value} (h : w.ownsRow B T n v k xs) (hB : B ≤ w.heap.size) (hg : w.grownBy w' v.ownBlock) : Below B w w' :=
  ⟨hg.os, hg.tape, hg.output, hg.size, fun k hk => hg.block k (by omega) (fun e => by have := (owns_block h e.symm).1; omega)⟩
theorem owns_form {w : World} {B n k : Nat} {T : TypeId} {v : Value} {xs : List Value} (h : w.ownsRow B T n v k xs) : ∃ a cap, v = .slice a k cap := by
  rcases h.2 with ⟨hv, h0⟩ | ⟨g, cap, cur, hv, _⟩
  · exact ⟨none, 0, by rw [hv, h0]⟩
  · exact ⟨_, _, hv⟩
theorem grown_cellR (w : World) (a : Addr) (u : Value) : w.grownBy (w.setCell a u) (some a.block) :=
  ⟨rfl, rfl, rfl, by simp, fun k _ hk => heap_setCell_other w a k u (fun e => hk (by rw [e]))⟩
end Go.Proofs.YtejbififfceamaaGreatDoor
namespace Go.Proofs.YtejbififfceamaaGreatDoor
set_option linter.unusedSimpArgs false
set_option linter.unusedVariables false
set_option maxRecDepth 100000
open Go.RowKit

/-- The node at a tree's top. -/
def Rx.top : Rx → Nd
  | .leaf n => n
  | .one n _ => n
  | .two n _ _ => n
/-- Does a part want brackets? -/
def brk (parent op : Int) (second : Bool) : Bool :=
  if op = 2 then !decide (parent = 4) else if op = 4 then !second || !decide (parent = 4) else if op = 3 then (decide (parent = 3) && !second) || decide (parent = 5) || decide (parent = 6) || decide (parent = 7) else false
def brT (x : Bool) (s : List UInt8) : List UInt8 := if x then 40 :: (s ++ [41]) else s
def signT (op : Int) : UInt8 := if op = 5 then 42 else if op = 6 then 43 else 63
/-- The text. -/
def Rx.txt : Rx → List UInt8
  | .leaf n => if n.op = 1 then textL n.c else if n.op = 8 then [94] else if n.op = 9 then [36] else []
  | .one n a => brT (brk n.op a.top.op false) a.txt ++ [signT n.op]
  | .two n a b => brT (brk n.op a.top.op false) a.txt ++ ((if n.op = 4 then [124] else []) ++ brT (brk n.op b.top.op true) b.txt)
theorem Rx.flat_top (t : Rx) : ∃ r, t.flat = t.top :: r := by cases t <;> exact ⟨_, rfl⟩
theorem brT_len (x : Bool) (s : List UInt8) : (brT x s).length ≤ s.length + 2 := by
  cases x <;> simp [brT]
theorem textL_len (k : C4) : (textL k).length ≤ 2306 := by
  have := runs256_len k
  unfold textL
  split
  · simp
  · split
    · omega
    · simp; omega
theorem Rx.txt_len : ∀ t : Rx, t.txt.length ≤ 2400 * t.flat.length
  | .leaf n => by
    have := textL_len n.c
    unfold Rx.txt
    split
    · simp [Rx.flat]; omega
    · split
      · simp [Rx.flat]
      · split <;> simp [Rx.flat]
  | .one n a => by
    have := txt_len a
    have := brT_len (brk n.op a.top.op false) a.txt
    simp [Rx.txt, Rx.flat]; omega
  | .two n a b => by
    have := txt_len a
    have := txt_len b
    have := brT_len (brk n.op a.top.op false) a.txt
    have := brT_len (brk n.op b.top.op true) b.txt
    have : (if n.op = 4 then [(124 : UInt8)] else []).length ≤ 1 := by split <;> simp
    simp [Rx.txt, Rx.flat]; omega
end Go.Proofs.YtejbififfceamaaGreatDoor
namespace Go.Proofs.YtejbififfceamaaGreatDoor
set_option linter.unusedSimpArgs false
set_option linter.unusedVariables false
open Go.RowKit

def hexv (c : UInt8) : Nat := if c.toNat < 58 then c.toNat - 48 else c.toNat - 87
theorem hexv_hexd (k : Nat) (h : k < 16) : hexv (hexd k) = k := by
  have key : ∀ k : Fin 16, hexv (hexd k.val) = k.val := by decide +kernel
  exact key ⟨k, h⟩
/-- The first byte that a text tells, and what follows. -/
def one : List UInt8 → Option (Nat × List UInt8)
  | [] => none
  | c :: l =>
    if c = 92 then
      match l with
      | [] => none
      | d :: l2 =>
        if d = 120 then
          match l2 with
          | x :: y :: r => some (hexv x * 16 + hexv y, r)
          | _ => none
        else some (d.toNat, l2)
    else some (c.toNat, l)
theorem toU8_toNat (n : Nat) (h : n < 256) : n.toUInt8.toNat = n := by
  simp [Nat.toUInt8, UInt8.toNat_ofNat, Nat.mod_eq_of_lt h]
theorem one_bt (n : Nat) (h : n < 256) (l : List UInt8) : one (bt n ++ l) = some (n, l) := by
  have ht := toU8_toNat n h
  unfold bt
  split
  · show some (hexv (hexd (n / 16)) * 16 + hexv (hexd (n % 16)), l) = _
    rw [hexv_hexd _ (by omega), hexv_hexd _ (by omega), show n / 16 * 16 + n % 16 = n from by omega]
  · split
    · rename_i hs
      have : ¬ n.toUInt8 = 120 := by
        intro e
        rw [e] at hs
        exact absurd hs (by decide)
      simp only [List.cons_append, List.nil_append, one]
      rw [if_pos trivial, if_neg this, ht]
    · rename_i hs
      have : ¬ n.toUInt8 = 92 := by
        intro e
        rw [e] at hs
        exact hs (by decide)
      simp only [List.cons_append, List.nil_append, one]
      rw [if_neg this, ht]
/-- A sign other than the backslash opens no byte's text. -/
theorem bt_head (n : Nat) (l : List UInt8) (c : UInt8) (hc : c ∈ signL) (hn : c ≠ 92) : (bt n ++ l).head? ≠ some c := by
  unfold bt
  split
  · simp only [List.cons_append, List.head?_cons]
    intro e
    exact hn (Option.some.inj e).symm
  · split
    · simp only [List.cons_append, List.head?_cons]
      intro e
      exact hn (Option.some.inj e).symm
    · rename_i hs
      simp only [List.cons_append, List.head?_cons]
      intro e
      exact hs (by rw [Option.some.inj e]; exact hc)
theorem rt_head (i j : Nat) (l : List UInt8) (c : UInt8) (hc : c ∈ signL) (hn : c ≠ 92) : (rt i j ++ l).head? ≠ some c := by
  unfold rt
  split
  · exact bt_head i l c hc hn
  · split
    · rw [List.append_assoc]; exact bt_head i _ c hc hn
    · rw [List.append_assoc]; exact bt_head i _ c hc hn
theorem runsL_head (p : Nat → Bool) (c : UInt8) (hc : c ∈ signL) (hn : c ≠ 92) : ∀ (f i : Nat), (runsL p f i).head? ≠ some c
  | 0, i => by simp [runsL]
  | f + 1, i => by
    rw [runsL]
    split
    · split
      · exact rt_head _ _ _ c hc hn
      · rw [List.nil_append]; exact runsL_head p c hc hn f _
    · simp
theorem rEnd_spec (p : Nat → Bool) : ∀ (f i : Nat), (∀ j, i ≤ j → j < rEnd p f i → p j = true) ∧ (rEnd p f i < i + f → p (rEnd p f i) = false)
  | 0, i => ⟨fun j h1 h2 => by simp [rEnd] at h2; omega, fun h => by simp [rEnd] at h⟩
  | f + 1, i => by
    have ih := rEnd_spec p f (i + 1)
    rw [rEnd]
    split
    · rename_i hp
      refine ⟨fun j h1 h2 => ?_, fun h => ih.2 (by omega)⟩
      by_cases e : j = i
      · rw [e]; exact hp
      · exact ih.1 j (by omega) h2
    · rename_i hp
      exact ⟨fun j h1 h2 => by omega, fun _ => by simpa using hp⟩

/-- Which bytes a text of runs tells. -/
def dec (n : Nat) : Nat → List UInt8 → Bool
  | 0, _ => false
  | f + 1, l =>
    match one l with
    | none => false
    | some (a, r) =>
      if r.head? = some 45 then
        match one r.tail with
        | none => false
        | some (b, r3) => decide (a ≤ n ∧ n ≤ b) || dec n f r3
      else decide (a = n) || dec n f r
theorem dec_nil (n f : Nat) : dec n f [] = false := by
  cases f <;> rfl
theorem dec_one (n f a : Nat) (ha : a < 256) (r : List UInt8) (hr : r.head? ≠ some 45) : dec n (f + 1) (bt a ++ r) = (decide (a = n) || dec n f r) := by
  rw [dec, one_bt a ha r]
  simp only
  rw [if_neg hr]
theorem dec_two (n f a b : Nat) (ha : a < 256) (hb : b < 256) (r : List UInt8) : dec n (f + 1) (bt a ++ 45 :: (bt b ++ r)) = (decide (a ≤ n ∧ n ≤ b) || dec n f r) := by
  rw [dec, one_bt a ha]
  simp only [List.head?_cons, List.tail_cons, if_true]
  rw [one_bt b hb]
theorem dec_runs (p : Nat → Bool) (n : Nat) : ∀ (f i F : Nat), 256 ≤ f + i → 2 * f ≤ F → dec n F (runsL p f i) = (decide (i ≤ n ∧ n < 256) && p n)
  | 0, i, F, h, _ => by
    rw [runsL, dec_nil]
    have : ¬ (i ≤ n ∧ n < 256) := by omega
    simp [this]
  | f + 1, i, F, h, hF => by
    rw [runsL]
    by_cases hi : i < 256
    · rw [if_pos hi]
      have hle := rEnd_le p (256 - i) i
      have hsp := rEnd_spec p (256 - i) i
      generalize rEnd p (256 - i) i = e at *
      have ih := fun F' hF' => dec_runs p n f (e + 1) F' (by omega) hF'
      have hd := runsL_head p 45 (by decide) (by decide) f (e + 1)
      generalize runsL p f (e + 1) = R at *
      have tail : ∀ F', 2 * f ≤ F' → (decide (i ≤ n ∧ n < e) || dec n F' R) = (decide (i ≤ n ∧ n < 256) && p n) := by
        intro F' hF'
        rw [ih F' hF']
        by_cases c1 : i ≤ n ∧ n < e
        · have := hsp.1 n c1.1 c1.2
          have c2 : i ≤ n ∧ n < 256 := by omega
          simp [c1, c2, this]
        · by_cases c3 : n = e
          · subst c3
            by_cases c4 : n < 256
            · have := hsp.2 (by omega)
              simp [this]
            · have : ¬ (n + 1 ≤ n) := by omega
              simp [c4]
          · have : (e + 1 ≤ n ∧ n < 256) ↔ (i ≤ n ∧ n < 256) := by omega
            simp only [this, c1, decide_false, Bool.false_or]
      by_cases hg : i < e
      · rw [if_pos hg]
        unfold rt
        by_cases e1 : e - 1 = i
        · rw [if_pos e1]
          obtain ⟨F, rfl⟩ : ∃ g, F = g + 1 := ⟨F - 1, by omega⟩
          rw [dec_one n F i hi R hd, ← tail F (by omega)]
          have : (i ≤ n ∧ n < e) ↔ i = n := by omega
          simp only [this]
        · rw [if_neg e1]
          by_cases e2 : e - 1 = i + 1
          · rw [if_pos e2]
            obtain ⟨F, rfl⟩ : ∃ g, F = g + 1 + 1 := ⟨F - 2, by omega⟩
            rw [List.append_assoc, dec_one n (F + 1) i hi _ (bt_head _ _ 45 (by decide) (by decide)), dec_one n F (e - 1) (by omega) R hd, ← tail F (by omega), ← Bool.or_assoc]
            congr 1
            have : (i ≤ n ∧ n < e) ↔ (i = n ∨ e - 1 = n) := by omega
            simp only [this, Bool.decide_or]
          · rw [if_neg e2]
            obtain ⟨F, rfl⟩ : ∃ g, F = g + 1 := ⟨F - 1, by omega⟩
            rw [List.append_assoc, List.cons_append, dec_two n F i (e - 1) hi (by omega) R, ← tail F (by omega)]
            have : (i ≤ n ∧ n ≤ e - 1) ↔ (i ≤ n ∧ n < e) := by omega
            simp only [this]
      · rw [if_neg hg, List.nil_append, ← tail F (by omega)]
        have : ¬ (i ≤ n ∧ n < e) := by omega
        simp [this]
    · rw [if_neg hi, dec_nil]
      have : ¬ (i ≤ n ∧ n < 256) := by omega
      simp [this]
theorem runs_inj (p q : Nat → Bool) (h : runsL p 256 0 = runsL q 256 0) (n : Nat) (hn : n < 256) : p n = q n := by
  have h1 := dec_runs p n 256 0 512 (by omega) (by omega)
  have h2 := dec_runs q n 256 0 512 (by omega) (by omega)
  rw [h] at h1
  have h3 := h1.symm.trans h2
  have : (0 ≤ n ∧ n < 256) := by omega
  simpa [this] using h3

theorem runs256_inj {a b : C4} (ha : a.ok) (hb : b.ok) (h : runs256 a = runs256 b) : a = b := by
  apply C4.ext_has ha hb
  intro i hi
  have := runs_inj a.p b.p h i hi
  rwa [C4.p_eq a ha, C4.p_eq b hb] at this
theorem runs256_head (k : C4) (c : UInt8) (hc : c ∈ signL) (hn : c ≠ 92) : (runs256 k).head? ≠ some c := runsL_head k.p c hc hn 256 0
theorem textL_cases (k : C4) : (k = dotC ∧ textL k = [46]) ∨ textL k = runs256 k ∨ textL k = 91 :: (runs256 k ++ [93]) := by
  unfold textL
  split
  · rename_i h
    exact Or.inl ⟨(C4.eqb_iff _ _).1 h, rfl⟩
  · split
    · exact Or.inr (Or.inl rfl)
    · exact Or.inr (Or.inr rfl)
theorem textL_inj {a b : C4} (ha : a.ok) (hb : b.ok) (h : textL a = textL b) : a = b := by
  have hda := runs256_head a 46 (by decide) (by decide)
  have hdb := runs256_head b 46 (by decide) (by decide)
  have hba := runs256_head a 91 (by decide) (by decide)
  have hbb := runs256_head b 91 (by decide) (by decide)
  rcases textL_cases a with ⟨ea, ta⟩ | ta | ta <;> rcases textL_cases b with ⟨eb, tb⟩ | tb | tb <;> rw [ta, tb] at h
  · rw [ea, eb]
  · rw [← h] at hdb; exact absurd rfl hdb
  · simp at h
  · rw [h] at hda; exact absurd rfl hda
  · exact runs256_inj ha hb h
  · rw [h] at hba; exact absurd rfl hba
  · simp at h
  · rw [← h] at hbb; exact absurd rfl hbb
  · exact runs256_inj ha hb (List.append_cancel_right (List.cons.inj h).2)
theorem textL_eqb {a b : C4} (ha : a.ok) (hb : b.ok) : (textL a == textL b) = a.eqb b := by
  rw [Bool.eq_iff_iff, beq_iff_eq, C4.eqb_iff]
  exact ⟨textL_inj ha hb, fun h => by rw [h]⟩
end Go.Proofs.YtejbififfceamaaGreatDoor
