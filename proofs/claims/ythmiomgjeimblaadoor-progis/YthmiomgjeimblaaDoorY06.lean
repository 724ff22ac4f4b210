/- Valid patterns as trees; turned, they are turned back. A pattern's text. Small facts on lists of nodes in memory. -/
import Derived.Test.YthmiomgjeimblaaDoorY02
namespace Go.Proofs.YthmiomgjeimblaaDoor
set_option linter.unusedSimpArgs false
set_option linter.unusedVariables false
set_option maxRecDepth 100000
open Go.RowKit

/-- A valid pattern as a tree. -/
inductive Rx where
  | leaf : Nd → Rx
  | one : Nd → Rx → Rx
  | two : Nd → Rx → Rx → Rx
def Rx.flat : Rx → List Nd
  | .leaf n => [n]
  | .one n a => n :: a.flat
  | .two n a b => n :: (a.flat ++ b.flat)
def Rx.Ok : Rx → Prop
  | .leaf n => prt n.op = 0
  | .one n a => prt n.op = 1 ∧ a.Ok
  | .two n a b => prt n.op = 2 ∧ a.Ok ∧ b.Ok
def Rx.turn : Rx → Rx
  | .leaf n => .leaf n.flip
  | .one n a => .one n.flip a.turn
  | .two n a b => if n.op = 3 then .two n.flip b.turn a.turn else .two n.flip a.turn b.turn
def Rx.emp : Rx → Bool
  | .leaf n => !decide (n.op = 1)
  | .one n a => if n.op = 6 then a.emp else true
  | .two n a b => if n.op = 3 then a.emp && b.emp else a.emp || b.emp
theorem Rx.flat_pos : ∀ t : Rx, 0 < t.flat.length
  | .leaf n => by simp [Rx.flat]
  | .one n a => by simp [Rx.flat]
  | .two n a b => by simp [Rx.flat]
theorem get_mid (p q : List Nd) (n : Nd) : (p ++ n :: q)[p.length]? = some n := by
  rw [List.getElem?_append_right (Nat.le_refl _)]; simp
/-- The end of a tree's part. -/
theorem endF_flat : ∀ (t : Rx), t.Ok → ∀ (p q : List Nd) (f : Nat), t.flat.length ≤ f → endF (p ++ t.flat ++ q) f p.length = some (p.length + t.flat.length)
  | .leaf n, h, p, q, f, hf => by
    obtain ⟨f, rfl⟩ : ∃ g, f = g + 1 := ⟨f - 1, by simp [Rx.flat] at hf; omega⟩
    have e : p ++ (Rx.leaf n).flat ++ q = p ++ n :: q := by simp [Rx.flat]
    rw [e, endF, get_mid]
    simp only
    rw [if_pos (show prt n.op = 0 from h)]
    simp [Rx.flat]
  | .one n a, h, p, q, f, hf => by
    obtain ⟨f, rfl⟩ : ∃ g, f = g + 1 := ⟨f - 1, by simp [Rx.flat] at hf; omega⟩
    have ih := endF_flat a h.2 (p ++ [n]) q f (by simp [Rx.flat] at hf; omega)
    have e : p ++ (Rx.one n a).flat ++ q = p ++ n :: (a.flat ++ q) := by simp [Rx.flat]
    have e' : p ++ [n] ++ a.flat ++ q = p ++ n :: (a.flat ++ q) := by simp
    rw [e'] at ih
    rw [e, endF, get_mid]
    simp only
    rw [if_neg (by have := h.1; omega), if_pos h.1]
    rw [show p.length + 1 = (p ++ [n]).length from by simp, ih]
    simp [Rx.flat]; omega
  | .two n a b, h, p, q, f, hf => by
    obtain ⟨f, rfl⟩ : ∃ g, f = g + 1 := ⟨f - 1, by simp [Rx.flat] at hf; omega⟩
    have ih := endF_flat a h.2.1 (p ++ [n]) (b.flat ++ q) f (by simp [Rx.flat] at hf; omega)
    have ih2 := endF_flat b h.2.2 (p ++ [n] ++ a.flat) q f (by simp [Rx.flat] at hf; omega)
    have e : p ++ (Rx.two n a b).flat ++ q = p ++ n :: (a.flat ++ (b.flat ++ q)) := by simp [Rx.flat]
    have e' : p ++ [n] ++ a.flat ++ (b.flat ++ q) = p ++ n :: (a.flat ++ (b.flat ++ q)) := by simp
    have e2 : p ++ [n] ++ a.flat ++ b.flat ++ q = p ++ n :: (a.flat ++ (b.flat ++ q)) := by simp
    rw [e'] at ih
    rw [e2] at ih2
    rw [e, endF, get_mid]
    simp only
    rw [if_neg (by have := h.1; omega), if_neg (by have := h.1; omega)]
    rw [show p.length + 1 = (p ++ [n]).length from by simp, ih]
    rw [Option.bind_some, show (p ++ [n]).length + a.flat.length = (p ++ [n] ++ a.flat).length from by simp; omega, ih2]
    simp [Rx.flat]; omega
/-- A valid part is a tree's. -/
theorem part_tree (ns : List Nd) : ∀ (f i j : Nat), endF ns f i = some j → ∃ t : Rx, t.Ok ∧ ∃ q, ns.drop i = t.flat ++ q ∧ j = i + t.flat.length
  | 0, i, j, h => by simp [endF] at h
  | f + 1, i, j, h => by
    obtain ⟨n, hn, hil, hc⟩ := part_cases ns f i j h
    have hd : ns.drop i = n :: ns.drop (i + 1) := by
      rw [List.drop_eq_getElem_cons hil]
      rw [List.getElem?_eq_getElem hil] at hn
      rw [Option.some.inj hn]
    rcases hc with ⟨h0, rfl⟩ | ⟨h0, h1⟩ | ⟨h0, k, h1, h2⟩
    · exact ⟨.leaf n, h0, _, hd, rfl⟩
    · obtain ⟨t, ht, q, e, ej⟩ := part_tree ns f _ _ h1
      exact ⟨.one n t, ⟨h0, ht⟩, q, by rw [hd, e]; simp [Rx.flat], by rw [ej]; simp [Rx.flat]; omega⟩
    · obtain ⟨t, ht, q, e, ek⟩ := part_tree ns f _ _ h1
      obtain ⟨u, hu, r, e2, ej⟩ := part_tree ns f _ _ h2
      have hq : q = ns.drop k := by
        have : (ns.drop (i + 1)).drop t.flat.length = q := by rw [e]; simp
        rw [← this, List.drop_drop, ek]
      refine ⟨.two n t u, ⟨h0, ht, hu⟩, r, ?_, ?_⟩
      · rw [hd, e, hq, e2]; simp [Rx.flat]
      · rw [ej, ek]; simp [Rx.flat]; omega
theorem tree_of (ns : List Nd) (hv : endE ns 0 = some ns.length) : ∃ t : Rx, t.Ok ∧ ns = t.flat := by
  obtain ⟨t, ht, q, e, ej⟩ := part_tree ns _ 0 _ hv
  refine ⟨t, ht, ?_⟩
  rw [List.drop_zero] at e
  have : q = [] := by
    apply List.eq_nil_of_length_eq_zero
    have := congrArg List.length e
    simp at this
    omega
  rw [e, this, List.append_nil]
theorem endE_flat (t : Rx) (ht : t.Ok) : endE t.flat 0 = some t.flat.length := by
  have := endF_flat t ht [] [] (t.flat.length + 1) (by omega)
  simpa [endE] using this
theorem endE_mid (t : Rx) (ht : t.Ok) (p q : List Nd) : endE (p ++ t.flat ++ q) p.length = some (p.length + t.flat.length) :=
  endF_flat t ht p q _ (by simp; omega)
theorem flip_prt (op : Int) : prt (flipOp op) = prt op := by
  unfold flipOp
  split
  · rename_i h; subst h; rfl
  · split
    · rename_i h; subst h; rfl
    · rfl
theorem flip_flip (n : Nd) : n.flip.flip = n := by
  obtain ⟨op, c⟩ := n
  simp only [Nd.flip, Nd.mk.injEq, and_true]
  unfold flipOp
  by_cases h8 : op = 8
  · subst h8; rfl
  · by_cases h9 : op = 9
    · subst h9; rfl
    · simp [h8, h9]
theorem flip_eq {op : Int} (k : Int) (hk : k ≠ 8) (hk' : k ≠ 9) : flipOp op = k ↔ op = k := by
  unfold flipOp
  by_cases h8 : op = 8
  · subst h8; simp; omega
  · by_cases h9 : op = 9
    · subst h9; simp; omega
    · simp [h8, h9]
theorem turF_flat : ∀ (t : Rx), t.Ok → ∀ (p q : List Nd) (f : Nat), t.flat.length ≤ f → turF (p ++ t.flat ++ q) f p.length = t.turn.flat
  | .leaf n, h, p, q, f, hf => by
    obtain ⟨f, rfl⟩ : ∃ g, f = g + 1 := ⟨f - 1, by simp [Rx.flat] at hf; omega⟩
    have e : p ++ (Rx.leaf n).flat ++ q = p ++ n :: q := by simp [Rx.flat]
    have h0 : prt n.op = 0 := h
    have e3 : ¬ n.op = 3 := by intro e; rw [e] at h0; simp [prt] at h0
    have e4 : ¬ n.op = 4 := by intro e; rw [e] at h0; simp [prt] at h0
    rw [e, turF_at _ f _ n (get_mid p q n), if_neg (by omega), if_neg e3, if_neg e4]
    simp [Rx.flat, Rx.turn]
  | .one n a, h, p, q, f, hf => by
    obtain ⟨f, rfl⟩ : ∃ g, f = g + 1 := ⟨f - 1, by simp [Rx.flat] at hf; omega⟩
    have ih := turF_flat a h.2 (p ++ [n]) q f (by simp [Rx.flat] at hf; omega)
    have e : p ++ (Rx.one n a).flat ++ q = p ++ n :: (a.flat ++ q) := by simp [Rx.flat]
    have e' : p ++ [n] ++ a.flat ++ q = p ++ n :: (a.flat ++ q) := by simp
    rw [e'] at ih
    rw [e, turF_at _ f _ n (get_mid p _ n), if_pos h.1]
    rw [show p.length + 1 = (p ++ [n]).length from by simp, ih]
    simp [Rx.flat, Rx.turn]
  | .two n a b, h, p, q, f, hf => by
    obtain ⟨f, rfl⟩ : ∃ g, f = g + 1 := ⟨f - 1, by simp [Rx.flat] at hf; omega⟩
    have ih := turF_flat a h.2.1 (p ++ [n]) (b.flat ++ q) f (by simp [Rx.flat] at hf; omega)
    have ih2 := turF_flat b h.2.2 (p ++ [n] ++ a.flat) q f (by simp [Rx.flat] at hf; omega)
    have ie := endE_mid a h.2.1 (p ++ [n]) (b.flat ++ q)
    have e : p ++ (Rx.two n a b).flat ++ q = p ++ n :: (a.flat ++ (b.flat ++ q)) := by simp [Rx.flat]
    have e' : p ++ [n] ++ a.flat ++ (b.flat ++ q) = p ++ n :: (a.flat ++ (b.flat ++ q)) := by simp
    have e2 : p ++ [n] ++ a.flat ++ b.flat ++ q = p ++ n :: (a.flat ++ (b.flat ++ q)) := by simp
    rw [e'] at ih ie
    rw [e2] at ih2
    rw [e, turF_at _ f _ n (get_mid p _ n), if_neg (by have := h.1; omega)]
    rw [show p.length + 1 = (p ++ [n]).length from by simp, ih, ie, Option.getD_some]
    rw [show (p ++ [n]).length + a.flat.length = (p ++ [n] ++ a.flat).length from by simp; omega, ih2]
    rcases (prt_two n.op).1 h.1 with e3 | e4
    · rw [if_pos e3, Rx.turn, if_pos e3, Rx.flat]
    · rw [if_neg (by omega), if_pos e4, Rx.turn, if_neg (by omega), Rx.flat]
theorem empF_flat : ∀ (t : Rx), t.Ok → ∀ (p q : List Nd) (f : Nat), t.flat.length ≤ f → empF (p ++ t.flat ++ q) f p.length = t.emp
  | .leaf n, h, p, q, f, hf => by
    obtain ⟨f, rfl⟩ : ∃ g, f = g + 1 := ⟨f - 1, by simp [Rx.flat] at hf; omega⟩
    have e : p ++ (Rx.leaf n).flat ++ q = p ++ n :: q := by simp [Rx.flat]
    have h0 : prt n.op = 0 := h
    have e3 : ¬ n.op = 3 := by intro e; rw [e] at h0; simp [prt] at h0
    have e4 : ¬ n.op = 4 := by intro e; rw [e] at h0; simp [prt] at h0
    have e6 : ¬ n.op = 6 := by intro e; rw [e] at h0; simp [prt] at h0
    rw [e, empF_at _ f _ n (get_mid p q n), if_neg e3, if_neg e4, if_neg e6, Rx.emp]
    by_cases h1 : n.op = 1 <;> simp [h1]
  | .one n a, h, p, q, f, hf => by
    obtain ⟨f, rfl⟩ : ∃ g, f = g + 1 := ⟨f - 1, by simp [Rx.flat] at hf; omega⟩
    have ih := empF_flat a h.2 (p ++ [n]) q f (by simp [Rx.flat] at hf; omega)
    have e : p ++ (Rx.one n a).flat ++ q = p ++ n :: (a.flat ++ q) := by simp [Rx.flat]
    have e' : p ++ [n] ++ a.flat ++ q = p ++ n :: (a.flat ++ q) := by simp
    have h0 := (prt_one n.op).1 h.1
    rw [e'] at ih
    rw [e, empF_at _ f _ n (get_mid p _ n), if_neg (by omega), if_neg (by omega), if_neg (by omega)]
    rw [show p.length + 1 = (p ++ [n]).length from by simp, ih, Rx.emp]
  | .two n a b, h, p, q, f, hf => by
    obtain ⟨f, rfl⟩ : ∃ g, f = g + 1 := ⟨f - 1, by simp [Rx.flat] at hf; omega⟩
    have ih := empF_flat a h.2.1 (p ++ [n]) (b.flat ++ q) f (by simp [Rx.flat] at hf; omega)
    have ih2 := empF_flat b h.2.2 (p ++ [n] ++ a.flat) q f (by simp [Rx.flat] at hf; omega)
    have ie := endE_mid a h.2.1 (p ++ [n]) (b.flat ++ q)
    have e : p ++ (Rx.two n a b).flat ++ q = p ++ n :: (a.flat ++ (b.flat ++ q)) := by simp [Rx.flat]
    have e' : p ++ [n] ++ a.flat ++ (b.flat ++ q) = p ++ n :: (a.flat ++ (b.flat ++ q)) := by simp
    have e2 : p ++ [n] ++ a.flat ++ b.flat ++ q = p ++ n :: (a.flat ++ (b.flat ++ q)) := by simp
    rw [e'] at ih ie
    rw [e2] at ih2
    have h0 := (prt_two n.op).1 h.1
    rw [e, empF_at _ f _ n (get_mid p _ n), if_neg (by omega)]
    rw [show p.length + 1 = (p ++ [n]).length from by simp, ih, ie, Option.getD_some]
    rw [show (p ++ [n]).length + a.flat.length = (p ++ [n] ++ a.flat).length from by simp; omega, ih2, Rx.emp]
    rcases h0 with e3 | e4
    · rw [if_pos e3, if_pos e3]
    · rw [if_neg (by omega), if_pos e4, if_neg (by omega)]
theorem Rx.turn_ok : ∀ t : Rx, t.Ok → t.turn.Ok
  | .leaf n, h => by show prt (flipOp n.op) = 0; rw [flip_prt]; exact h
  | .one n a, h => ⟨(flip_prt n.op).trans h.1, turn_ok a h.2⟩
  | .two n a b, h => by
    unfold Rx.turn
    split
    · exact ⟨(flip_prt n.op).trans h.1, turn_ok b h.2.2, turn_ok a h.2.1⟩
    · exact ⟨(flip_prt n.op).trans h.1, turn_ok a h.2.1, turn_ok b h.2.2⟩
theorem Rx.turn_turn : ∀ t : Rx, t.turn.turn = t
  | .leaf n => by simp [Rx.turn, flip_flip]
  | .one n a => by simp [Rx.turn, flip_flip, turn_turn a]
  | .two n a b => by
    have hf : n.flip.op = 3 ↔ n.op = 3 := flip_eq 3 (by decide) (by decide)
    by_cases h3 : n.op = 3
    · rw [Rx.turn, if_pos h3, Rx.turn, if_pos (hf.2 h3), flip_flip, turn_turn a, turn_turn b]
    · rw [Rx.turn, if_neg h3, Rx.turn, if_neg (fun e => h3 (hf.1 e)), flip_flip, turn_turn a, turn_turn b]
theorem Rx.turn_emp : ∀ t : Rx, t.turn.emp = t.emp
  | .leaf n => by
    have hf : n.flip.op = 1 ↔ n.op = 1 := flip_eq 1 (by decide) (by decide)
    simp [Rx.turn, Rx.emp, hf]
  | .one n a => by
    have hf : n.flip.op = 6 ↔ n.op = 6 := flip_eq 6 (by decide) (by decide)
    simp [Rx.turn, Rx.emp, hf, turn_emp a]
  | .two n a b => by
    have hf : n.flip.op = 3 ↔ n.op = 3 := flip_eq 3 (by decide) (by decide)
    by_cases h3 : n.op = 3
    · rw [Rx.turn, if_pos h3, Rx.emp, if_pos (hf.2 h3), Rx.emp, if_pos h3, turn_emp a, turn_emp b, Bool.and_comm]
    · rw [Rx.turn, if_neg h3, Rx.emp, if_neg (fun e => h3 (hf.1 e)), Rx.emp, if_neg h3, turn_emp a, turn_emp b]
theorem turE_flat (t : Rx) (ht : t.Ok) : turF t.flat (t.flat.length + 1) 0 = t.turn.flat := by
  have := turF_flat t ht [] [] (t.flat.length + 1) (by omega)
  simpa using this
theorem empE_flat (t : Rx) (ht : t.Ok) : empE t.flat = t.emp := by
  have := empF_flat t ht [] [] (t.flat.length + 1) (by omega)
  simpa [empE] using this
/-- Turned, the nodes are the same but for their order and Begin and End. -/
theorem Rx.turn_mem : ∀ (t : Rx) (n : Nd), n ∈ t.turn.flat ↔ n.flip ∈ t.flat
  | .leaf m, n => by
    simp only [Rx.turn, Rx.flat, List.mem_singleton]
    constructor
    · rintro rfl; exact flip_flip m
    · intro h; rw [← h, flip_flip]
  | .one m a, n => by
    simp only [Rx.turn, Rx.flat, List.mem_cons, turn_mem a n]
    constructor
    · rintro (rfl | h)
      · exact Or.inl (flip_flip m)
      · exact Or.inr h
    · rintro (h | h)
      · exact Or.inl (by rw [← h, flip_flip])
      · exact Or.inr h
  | .two m a b, n => by
    have hm : n = m.flip ↔ n.flip = m := ⟨by rintro rfl; exact flip_flip m, by intro h; rw [← h, flip_flip]⟩
    by_cases h3 : m.op = 3
    · rw [Rx.turn, if_pos h3]
      simp only [Rx.flat, List.mem_cons, List.mem_append, turn_mem a n, turn_mem b n, hm]
      constructor
      · rintro (h | h | h) <;> simp [h]
      · rintro (h | h | h) <;> simp [h]
    · rw [Rx.turn, if_neg h3]
      simp only [Rx.flat, List.mem_cons, List.mem_append, turn_mem a n, turn_mem b n, hm]
theorem scanL_zero : ∀ (ns : List Nd), scanL ns = 0 ↔ ∀ n ∈ ns, (1 ≤ n.op ∧ n.op ≤ 9) ∧ (n.op = 1 ∨ n.c.eqb z4 = true)
  | [] => by simp [scanL]
  | n :: r => by
    rw [scanL]
    simp only [List.mem_cons, forall_eq_or_imp, ← scanL_zero r]
    by_cases h : n.op < 1 ∨ 9 < n.op
    · rw [if_pos h]
      simp
      omega
    · rw [if_neg h]
      by_cases h2 : ¬ n.op = 1 ∧ ¬ n.c.eqb z4 = true
      · rw [if_pos h2]
        simp [h2.1, h2.2]
      · rw [if_neg h2]
        have h3 : n.op = 1 ∨ n.c.eqb z4 = true := by
          rcases Classical.em (n.op = 1) with e | e
          · exact Or.inl e
          · exact Or.inr (Classical.byContradiction fun e' => h2 ⟨e, e'⟩)
        have h4 : 1 ≤ n.op ∧ n.op ≤ 9 := by omega
        simp only [h3, h4, and_self, true_and]
theorem faultL_zero (ns : List Nd) : faultL ns = 0 ↔ ns.length ≤ 60 ∧ (∀ n ∈ ns, (1 ≤ n.op ∧ n.op ≤ 9) ∧ (n.op = 1 ∨ n.c.eqb z4 = true)) ∧ endE ns 0 = some ns.length := by
  rw [faultL, ← scanL_zero]
  by_cases h : 60 < ns.length
  · rw [if_pos h]; simp; omega
  · rw [if_neg h]
    by_cases h2 : scanL ns = 0
    · rw [if_neg (by simp [h2])]
      by_cases h3 : endE ns 0 = some ns.length
      · have h4 : ns ≠ [] := by rintro rfl; rw [endE_nil] at h3; cases h3
        rw [if_neg (by simp [h3, h4])]
        simp [h2, h3]; omega
      · rw [if_pos (Or.inr h3)]; simp [h3]
    · rw [if_pos (by simp [h2])]
      simp [h2]
/-- A pattern without a fault, turned. -/
theorem turn_good (ns : List Nd) (h : faultL ns = 0) : faultL (turF ns (ns.length + 1) 0) = 0 := by
  obtain ⟨h1, h2, h3⟩ := (faultL_zero ns).1 h
  obtain ⟨t, ht, rfl⟩ := tree_of ns h3
  have hl := turF_len t.flat _ 0 _ (Nat.le_refl _) h3
  rw [turE_flat t ht] at hl ⊢
  refine (faultL_zero _).2 ⟨by omega, ?_, endE_flat _ (Rx.turn_ok t ht)⟩
  intro n hn
  have := h2 n.flip ((Rx.turn_mem t n).1 hn)
  have h8 : n.flip.c = n.c := rfl
  have h9 : n.flip.op = 1 ↔ n.op = 1 := flip_eq 1 (by decide) (by decide)
  rw [h8, h9] at this
  refine ⟨?_, this.2⟩
  have e : n.flip.op = flipOp n.op := rfl
  rw [e] at this
  unfold flipOp at this
  split at this
  · omega
  · split at this
    · omega
    · exact this.1
theorem turn_twice (ns : List Nd) (h : endE ns 0 = some ns.length) : turF (turF ns (ns.length + 1) 0) ((turF ns (ns.length + 1) 0).length + 1) 0 = ns := by
  obtain ⟨t, ht, rfl⟩ := tree_of ns h
  rw [turE_flat t ht, turE_flat t.turn (Rx.turn_ok t ht), Rx.turn_turn]
theorem turn_empE (ns : List Nd) (h : endE ns 0 = some ns.length) : empE (turF ns (ns.length + 1) 0) = empE ns := by
  obtain ⟨t, ht, rfl⟩ := tree_of ns h
  rw [turE_flat t ht, empE_flat _ (Rx.turn_ok t ht), empE_flat _ ht, Rx.turn_emp]
end Go.Proofs.YthmiomgjeimblaaDoor
namespace Go.Proofs.YthmiomgjeimblaaDoor
set_option linter.unusedSimpArgs false
set_option linter.unusedVariables false
set_option maxRecDepth 100000
open Go.RowKit

/-- The node at a tree's top. -/
def Rx.top : Rx → Nd
  | .leaf n => n
  | .one n _ => n
  | .two n _ _ => n
/-- Does a part want brackets? -/
def brk (parent op : Int) (second : Bool) : Bool :=
  if op = 2 then !decide (parent = 4) else if op = 4 then !second || !decide (parent = 4) else if op = 3 then (decide (parent = 3) && !second) || decide (parent = 5) || decide (parent = 6) || decide (parent = 7) else false
def brT (x : Bool) (s : List UInt8) : List UInt8 := if x then 40 :: (s ++ [41]) else s
def signT (op : Int) : UInt8 := if op = 5 then 42 else if op = 6 then 43 else 63
/-- The text. -/
def Rx.txt : Rx → List UInt8
  | .leaf n => if n.op = 1 then textL n.c else if n.op = 8 then [94] else if n.op = 9 then [36] else []
  | .one n a => brT (brk n.op a.top.op false) a.txt ++ [signT n.op]
  | .two n a b => brT (brk n.op a.top.op false) a.txt ++ ((if n.op = 4 then [124] else []) ++ brT (brk n.op b.top.op true) b.txt)
theorem Rx.flat_top (t : Rx) : ∃ r, t.flat = t.top :: r := by cases t <;> exact ⟨_, rfl⟩
theorem brT_len (x : Bool) (s : List UInt8) : (brT x s).length ≤ s.length + 2 := by
  cases x <;> simp [brT]
theorem textL_len (k : C4) : (textL k).length ≤ 2306 := by
  have := runs256_len k
  unfold textL
  split
  · simp
  · split
    · omega
    · simp; omega
theorem Rx.txt_len : ∀ t : Rx, t.txt.length ≤ 2400 * t.flat.length
  | .leaf n => by
    have := textL_len n.c
    unfold Rx.txt
    split
    · simp [Rx.flat]; omega
    · split
      · simp [Rx.flat]
      · split <;> simp [Rx.flat]
  | .one n a => by
    have := txt_len a
    have := brT_len (brk n.op a.top.op false) a.txt
    simp [Rx.txt, Rx.flat]; omega
  | .two n a b => by
    have := txt_len a
    have := txt_len b
    have := brT_len (brk n.op a.top.op false) a.txt
    have := brT_len (brk n.op b.top.op true) b.txt
    have : (if n.op = 4 then [(124 : UInt8)] else []).length ≤ 1 := by split <;> simp
    simp [Rx.txt, Rx.flat]; omega
end Go.Proofs.YthmiomgjeimblaaDoor
namespace Go.Proofs.YthmiomgjeimblaaDoor
set_option linter.unusedSimpArgs false
set_option linter.unusedVariables false
set_option maxRecDepth 100000
open Go.RowKit

theorem nsIn_nil (w : World) : NsIn w (.slice none 0 0) [] := ⟨none, 0, rfl, by simp, Or.inl rfl⟩
theorem nsIn_form {w : World} {v : Value} {ns : List Nd} (h : NsIn w v ns) : ∃ a cap, v = .slice a ns.length cap ∧ ns.length ≤ maxLen := by
  obtain ⟨a, cap, h1, h2, _⟩ := h
  exact ⟨a, cap, h1, h2⟩
theorem nsEq_refl (x : List Nd) : nsEq x x = true := (nsEq_iff x x).2 rfl
end Go.Proofs.YthmiomgjeimblaaDoor
