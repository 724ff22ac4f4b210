/- Valid patterns as trees; turned, they are turned back. The program of a tree, as the landed package prog lays it: plain mathematics. What a pattern fits, in a text, from a place to another one; the laws of it. Programs that are run, spot by spot: plain mathematics. A spot is a step's number times the places, and a place. -/
import Derived.Test.YtgnmlnfddcnkbaaDoorY02
import Derived.Test.YtgnmlnfddcnkbaaDoorY03
namespace Go.Proofs.YtgnmlnfddcnkbaaDoor
set_option linter.unusedSimpArgs false
set_option linter.unusedVariables false
set_option maxRecDepth 100000
open Go.RowKit

/-- A valid pattern as a tree. -/
inductive Rx where
  | leaf : Nd → Rx
  | one : Nd → Rx → Rx
  | two : Nd → Rx → Rx → Rx
def Rx.flat : Rx → List Nd
  | .leaf n => [n]
  | .one n a => n :: a.flat
  | .two n a b => n :: (a.flat ++ b.flat)
def Rx.Ok : Rx → Prop
  | .leaf n => prt n.op = 0
  | .one n a => prt n.op = 1 ∧ a.Ok
  | .two n a b => prt n.op = 2 ∧ a.Ok ∧ b.Ok
def Rx.turn : Rx → Rx
  | .leaf n => .leaf n.flip
  | .one n a => .one n.flip a.turn
  | .two n a b => if n.op = 3 then .two n.flip b.turn a.turn else .two n.flip a.turn b.turn
def Rx.emp : Rx → Bool
  | .leaf n => !decide (n.op = 1)
  | .one n a => if n.op = 6 then a.emp else true
  | .two n a b => if n.op = 3 then a.emp && b.emp else a.emp || b.emp
theorem Rx.flat_pos : ∀ t : Rx, 0 < t.flat.length
  | .leaf n => by simp [Rx.flat]
  | .one n a => by simp [Rx.flat]
  | .two n a b => by simp [Rx.flat]
theorem get_mid (p q : List Nd) (n : Nd) : (p ++ n :: q)[p.length]? = some n := by
  rw [List.getElem?_append_right (Nat.le_refl _)]; simp
/-- The end of a tree's part. -/
theorem endF_flat : ∀ (t : Rx), t.Ok → ∀ (p q : List Nd) (f : Nat), t.flat.length ≤ f → endF (p ++ t.flat ++ q) f p.length = some (p.length + t.flat.length)
  | .leaf n, h, p, q, f, hf => by
    obtain ⟨f, rfl⟩ : ∃ g, f = g + 1 := ⟨f - 1, by simp [Rx.flat] at hf; omega⟩
    have e : p ++ (Rx.leaf n).flat ++ q = p ++ n :: q := by simp [Rx.flat]
    rw [e, endF, get_mid]
    simp only
    rw [if_pos (show prt n.op = 0 from h)]
    simp [Rx.flat]
  | .one n a, h, p, q, f, hf => by
    obtain ⟨f, rfl⟩ : ∃ g, f = g + 1 := ⟨f - 1, by simp [Rx.flat] at hf; omega⟩
    have ih := endF_flat a h.2 (p ++ [n]) q f (by simp [Rx.flat] at hf; omega)
    have e : p ++ (Rx.one n a).flat ++ q = p ++ n :: (a.flat ++ q) := by simp [Rx.flat]
    have e' : p ++ [n] ++ a.flat ++ q = p ++ n :: (a.flat ++ q) := by simp
    rw [e'] at ih
    rw [e, endF, get_mid]
    simp only
    rw [if_neg (by have := h.1; omega), if_pos h.1]
    rw [show p.length + 1 = (p ++ [n]).length from by simp, ih]
    simp [Rx.flat]; omega
  | .two n a b, h, p, q, f, hf => by
    obtain ⟨f, rfl⟩ : ∃ g, f = g + 1 := ⟨f - 1, by simp [Rx.flat] at hf; omega⟩
    have ih := endF_flat a h.2.1 (p ++ [n]) (b.flat ++ q) f (by simp [Rx.flat] at hf; omega)
    have ih2 := endF_flat b h.2.2 (p ++ [n] ++ a.flat) q f (by simp [Rx.flat] at hf; omega)
    have e : p ++ (Rx.two n a b).flat ++ q = p ++ n :: (a.flat ++ (b.flat ++ q)) := by simp [Rx.flat]
    have e' : p ++ [n] ++ a.flat ++ (b.flat ++ q) = p ++ n :: (a.flat ++ (b.flat ++ q)) := by simp
    have e2 : p ++ [n] ++ a.flat ++ b.flat ++ q = p ++ n :: (a.flat ++ (b.flat ++ q)) := by simp
    rw [e'] at ih
    rw [e2] at ih2
    rw [e, endF, get_mid]
    simp only
    rw [if_neg (by have := h.1; omega), if_neg (by have := h.1; omega)]
    rw [show p.length + 1 = (p ++ [n]).length from by simp, ih]
    rw [Option.bind_some, show (p ++ [n]).length + a.flat.length = (p ++ [n] ++ a.flat).length from by simp; omega, ih2]
    simp [Rx.flat]; omega
/-- A valid part is a tree's. -/
theorem part_tree (ns : List Nd) : ∀ (f i j : Nat), endF ns f i = some j → ∃ t : Rx, t.Ok ∧ ∃ q, ns.drop i = t.flat ++ q ∧ j = i + t.flat.length
  | 0, i, j, h => by simp [endF] at h
  | f + 1, i, j, h => by
    obtain ⟨n, hn, hil, hc⟩ := part_cases ns f i j h
    have hd : ns.drop i = n :: ns.drop (i + 1) := by
      rw [List.drop_eq_getElem_cons hil]
      rw [List.getElem?_eq_getElem hil] at hn
      rw [Option.some.inj hn]
    rcases hc with ⟨h0, rfl⟩ | ⟨h0, h1⟩ | ⟨h0, k, h1, h2⟩
    · exact ⟨.leaf n, h0, _, hd, rfl⟩
    · obtain ⟨t, ht, q, e, ej⟩ := part_tree ns f _ _ h1
      exact ⟨.one n t, ⟨h0, ht⟩, q, by rw [hd, e]; simp [Rx.flat], by rw [ej]; simp [Rx.flat]; omega⟩
    · obtain ⟨t, ht, q, e, ek⟩ := part_tree ns f _ _ h1
      obtain ⟨u, hu, r, e2, ej⟩ := part_tree ns f _ _ h2
      have hq : q = ns.drop k := by
        have : (ns.drop (i + 1)).drop t.flat.length = q := by rw [e]; simp
        rw [← this, List.drop_drop, ek]
      refine ⟨.two n t u, ⟨h0, ht, hu⟩, r, ?_, ?_⟩
      · rw [hd, e, hq, e2]; simp [Rx.flat]
      · rw [ej, ek]; simp [Rx.flat]; omega
theorem tree_of (ns : List Nd) (hv : endE ns 0 = some ns.length) : ∃ t : Rx, t.Ok ∧ ns = t.flat := by
  obtain ⟨t, ht, q, e, ej⟩ := part_tree ns _ 0 _ hv
  refine ⟨t, ht, ?_⟩
  rw [List.drop_zero] at e
  have : q = [] := by
    apply List.eq_nil_of_length_eq_zero
    have := congrArg List.length e
    simp at this
    omega
  rw [e, this, List.append_nil]
theorem endE_flat (t : Rx) (ht : t.Ok) : endE t.flat 0 = some t.flat.length := by
  have := endF_flat t ht [] [] (t.flat.length + 1) (by omega)
  simpa [endE] using this
theorem endE_mid (t : Rx) (ht : t.Ok) (p q : List Nd) : endE (p ++ t.flat ++ q) p.length = some (p.length + t.flat.length) :=
  endF_flat t ht p q _ (by simp; omega)
theorem flip_prt (op : Int) : prt (flipOp op) = prt op := by
  unfold flipOp
  split
  · rename_i h; subst h; rfl
  · split
    · rename_i h; subst h; rfl
    · rfl
theorem flip_flip (n : Nd) : n.flip.flip = n := by
  obtain ⟨op, c⟩ := n
  simp only [Nd.flip, Nd.mk.injEq, and_true]
  unfold flipOp
  by_cases h8 : op = 8
  · subst h8; rfl
  · by_cases h9 : op = 9
    · subst h9; rfl
    · simp [h8, h9]
theorem flip_eq {op : Int} (k : Int) (hk : k ≠ 8) (hk' : k ≠ 9) : flipOp op = k ↔ op = k := by
  unfold flipOp
  by_cases h8 : op = 8
  · subst h8; simp; omega
  · by_cases h9 : op = 9
    · subst h9; simp; omega
    · simp [h8, h9]
theorem turF_flat : ∀ (t : Rx), t.Ok → ∀ (p q : List Nd) (f : Nat), t.flat.length ≤ f → turF (p ++ t.flat ++ q) f p.length = t.turn.flat
  | .leaf n, h, p, q, f, hf => by
    obtain ⟨f, rfl⟩ : ∃ g, f = g + 1 := ⟨f - 1, by simp [Rx.flat] at hf; omega⟩
    have e : p ++ (Rx.leaf n).flat ++ q = p ++ n :: q := by simp [Rx.flat]
    have h0 : prt n.op = 0 := h
    have e3 : ¬ n.op = 3 := by intro e; rw [e] at h0; simp [prt] at h0
    have e4 : ¬ n.op = 4 := by intro e; rw [e] at h0; simp [prt] at h0
    rw [e, turF_at _ f _ n (get_mid p q n), if_neg (by omega), if_neg e3, if_neg e4]
    simp [Rx.flat, Rx.turn]
  | .one n a, h, p, q, f, hf => by
    obtain ⟨f, rfl⟩ : ∃ g, f = g + 1 := ⟨f - 1, by simp [Rx.flat] at hf; omega⟩
    have ih := turF_flat a h.2 (p ++ [n]) q f (by simp [Rx.flat] at hf; omega)
    have e : p ++ (Rx.one n a).flat ++ q = p ++ n :: (a.flat ++ q) := by simp [Rx.flat]
    have e' : p ++ [n] ++ a.flat ++ q = p ++ n :: (a.flat ++ q) := by simp
    rw [e'] at ih
    rw [e, turF_at _ f _ n (get_mid p _ n), if_pos h.1]
    rw [show p.length + 1 = (p ++ [n]).length from by simp, ih]
    simp [Rx.flat, Rx.turn]
  | .two n a b, h, p, q, f, hf => by
    obtain ⟨f, rfl⟩ : ∃ g, f = g + 1 := ⟨f - 1, by simp [Rx.flat] at hf; omega⟩
    have ih := turF_flat a h.2.1 (p ++ [n]) (b.flat ++ q) f (by simp [Rx.flat] at hf; omega)
    have ih2 := turF_flat b h.2.2 (p ++ [n] ++ a.flat) q f (by simp [Rx.flat] at hf; omega)
    have ie := endE_mid a h.2.1 (p ++ [n]) (b.flat ++ q)
    have e : p ++ (Rx.two n a b).flat ++ q = p ++ n :: (a.flat ++ (b.flat ++ q)) := by simp [Rx.flat]
    have e' : p ++ [n] ++ a.flat ++ (b.flat ++ q) = p ++ n :: (a.flat ++ (b.flat ++ q)) := by simp
    have e2 : p ++ [n] ++ a.flat ++ b.flat ++ q = p ++ n :: (a.flat ++ (b.flat ++ q)) := by simp
    rw [e'] at ih ie
    rw [e2] at ih2
    rw [e, turF_at _ f _ n (get_mid p _ n), if_neg (by have := h.1; omega)]
    rw [show p.length + 1 = (p ++ [n]).length from by simp, ih, ie, Option.getD_some]
    rw [show (p ++ [n]).length + a.flat.length = (p ++ [n] ++ a.flat).length from by simp; omega, ih2]
    rcases (prt_two n.op).1 h.1 with e3 | e4
    · rw [if_pos e3, Rx.turn, if_pos e3, Rx.flat]
    · rw [if_neg (by omega), if_pos e4, Rx.turn, if_neg (by omega), Rx.flat]
theorem empF_flat : ∀ (t : Rx), t.Ok → ∀ (p q : List Nd) (f : Nat), t.flat.length ≤ f → empF (p ++ t.flat ++ q) f p.length = t.emp
  | .leaf n, h, p, q, f, hf => by
    obtain ⟨f, rfl⟩ : ∃ g, f = g + 1 := ⟨f - 1, by simp [Rx.flat] at hf; omega⟩
    have e : p ++ (Rx.leaf n).flat ++ q = p ++ n :: q := by simp [Rx.flat]
    have h0 : prt n.op = 0 := h
    have e3 : ¬ n.op = 3 := by intro e; rw [e] at h0; simp [prt] at h0
    have e4 : ¬ n.op = 4 := by intro e; rw [e] at h0; simp [prt] at h0
    have e6 : ¬ n.op = 6 := by intro e; rw [e] at h0; simp [prt] at h0
    rw [e, empF_at _ f _ n (get_mid p q n), if_neg e3, if_neg e4, if_neg e6, Rx.emp]
    by_cases h1 : n.op = 1 <;> simp [h1]
  | .one n a, h, p, q, f, hf => by
    obtain ⟨f, rfl⟩ : ∃ g, f = g + 1 := ⟨f - 1, by simp [Rx.flat] at hf; omega⟩
    have ih := empF_flat a h.2 (p ++ [n]) q f (by simp [Rx.flat] at hf; omega)
    have e : p ++ (Rx.one n a).flat ++ q = p ++ n :: (a.flat ++ q) := by simp [Rx.flat]
    have e' : p ++ [n] ++ a.flat ++ q = p ++ n :: (a.flat ++ q) := by simp
    have h0 := (prt_one n.op).1 h.1
    rw [e'] at ih
    rw [e, empF_at _ f _ n (get_mid p _ n), if_neg (by omega), if_neg (by omega), if_neg (by omega)]
    rw [show p.length + 1 = (p ++ [n]).length from by simp, ih, Rx.emp]
  | .two n a b, h, p, q, f, hf => by
    obtain ⟨f, rfl⟩ : ∃ g, f = g + 1 := ⟨f - 1, by simp [Rx.flat] at hf; omega⟩
    have ih := empF_flat a h.2.1 (p ++ [n]) (b.flat ++ q) f (by simp [Rx.flat] at hf; omega)
    have ih2 := empF_flat b h.2.2 (p ++ [n] ++ a.flat) q f (by simp [Rx.flat] at hf; omega)
    have ie := endE_mid a h.2.1 (p ++ [n]) (b.flat ++ q)
    have e : p ++ (Rx.two n a b).flat ++ q = p ++ n :: (a.flat ++ (b.flat ++ q)) := by simp [Rx.flat]
    have e' : p ++ [n] ++ a.flat ++ (b.flat ++ q) = p ++ n :: (a.flat ++ (b.flat ++ q)) := by simp
    have e2 : p ++ [n] ++ a.flat ++ b.flat ++ q = p ++ n :: (a.flat ++ (b.flat ++ q)) := by simp
    rw [e'] at ih ie
    rw [e2] at ih2
    have h0 := (prt_two n.op).1 h.1
    rw [e, empF_at _ f _ n (get_mid p _ n), if_neg (by omega)]
    rw [show p.length + 1 = (p ++ [n]).length from by simp, ih, ie, Option.getD_some]
    rw [show (p ++ [n]).length + a.flat.length = (p ++ [n] ++ a.flat).length from by simp; omega, ih2, Rx.emp]
    rcases h0 with e3 | e4
    · rw [if_pos e3, if_pos e3]
    · rw [if_neg (by omega), if_pos e4, if_neg (by omega)]
theorem Rx.turn_ok : ∀ t : Rx, t.Ok → t.turn.Ok
  | .leaf n, h => by show prt (flipOp n.op) = 0; rw [flip_prt]; exact h
  | .one n a, h => ⟨(flip_prt n.op).trans h.1, turn_ok a h.2⟩
  | .two n a b, h => by
    unfold Rx.turn
    split
    · exact ⟨(flip_prt n.op).trans h.1, turn_ok b h.2.2, turn_ok a h.2.1⟩
    · exact ⟨(flip_prt n.op).trans h.1, turn_ok a h.2.1, turn_ok b h.2.2⟩
theorem Rx.turn_turn : ∀ t : Rx, t.turn.turn = t
  | .leaf n => by simp [Rx.turn, flip_flip]
  | .one n a => by simp [Rx.turn, flip_flip, turn_turn a]
  | .two n a b => by
    have hf : n.flip.op = 3 ↔ n.op = 3 := flip_eq 3 (by decide) (by decide)
    by_cases h3 : n.op = 3
    · rw [Rx.turn, if_pos h3, Rx.turn, if_pos (hf.2 h3), flip_flip, turn_turn a, turn_turn b]
    · rw [Rx.turn, if_neg h3, Rx.turn, if_neg (fun e => h3 (hf.1 e)), flip_flip, turn_turn a, turn_turn b]
theorem Rx.turn_emp : ∀ t : Rx, t.turn.emp = t.emp
  | .leaf n => by
    have hf : n.flip.op = 1 ↔ n.op = 1 := flip_eq 1 (by decide) (by decide)
    simp [Rx.turn, Rx.emp, hf]
  | .one n a => by
    have hf : n.flip.op = 6 ↔ n.op = 6 := flip_eq 6 (by decide) (by decide)
    simp [Rx.turn, Rx.emp, hf, turn_emp a]
  | .two n a b => by
    have hf : n.flip.op = 3 ↔ n.op = 3 := flip_eq 3 (by decide) (by decide)
    by_cases h3 : n.op = 3
    · rw [Rx.turn, if_pos h3, Rx.emp, if_pos (hf.2 h3), Rx.emp, if_pos h3, turn_emp a, turn_emp b, Bool.and_comm]
    · rw [Rx.turn, if_neg h3, Rx.emp, if_neg (fun e => h3 (hf.1 e)), Rx.emp, if_neg h3, turn_emp a, turn_emp b]
theorem turE_flat (t : Rx) (ht : t.Ok) : turF t.flat (t.flat.length + 1) 0 = t.turn.flat := by
  have := turF_flat t ht [] [] (t.flat.length + 1) (by omega)
  simpa using this
theorem empE_flat (t : Rx) (ht : t.Ok) : empE t.flat = t.emp := by
  have := empF_flat t ht [] [] (t.flat.length + 1) (by omega)
  simpa [empE] using this
/-- Turned, the nodes are the same but for their order and Begin and End. -/
theorem Rx.turn_mem : ∀ (t : Rx) (n : Nd), n ∈ t.turn.flat ↔ n.flip ∈ t.flat
  | .leaf m, n => by
    simp only [Rx.turn, Rx.flat, List.mem_singleton]
    constructor
    · rintro rfl; exact flip_flip m
    · intro h; rw [← h, flip_flip]
  | .one m a, n => by
    simp only [Rx.turn, Rx.flat, List.mem_cons, turn_mem a n]
    constructor
    · rintro (rfl | h)
      · exact Or.inl (flip_flip m)
      · exact Or.inr h
    · rintro (h | h)
      · exact Or.inl (by rw [← h, flip_flip])
      · exact Or.inr h
  | .two m a b, n => by
    have hm : n = m.flip ↔ n.flip = m := ⟨by rintro rfl; exact flip_flip m, by intro h; rw [← h, flip_flip]⟩
    by_cases h3 : m.op = 3
    · rw [Rx.turn, if_pos h3]
      simp only [Rx.flat, List.mem_cons, List.mem_append, turn_mem a n, turn_mem b n, hm]
      constructor
      · rintro (h | h | h) <;> simp [h]
      · rintro (h | h | h) <;> simp [h]
    · rw [Rx.turn, if_neg h3]
      simp only [Rx.flat, List.mem_cons, List.mem_append, turn_mem a n, turn_mem b n, hm]
theorem scanL_zero : ∀ (ns : List Nd), scanL ns = 0 ↔ ∀ n ∈ ns, (1 ≤ n.op ∧ n.op ≤ 9) ∧ (n.op = 1 ∨ n.c.eqb z4 = true)
  | [] => by simp [scanL]
  | n :: r => by
    rw [scanL]
    simp only [List.mem_cons, forall_eq_or_imp, ← scanL_zero r]
    by_cases h : n.op < 1 ∨ 9 < n.op
    · rw [if_pos h]
      simp
      omega
    · rw [if_neg h]
      by_cases h2 : ¬ n.op = 1 ∧ ¬ n.c.eqb z4 = true
      · rw [if_pos h2]
        simp [h2.1, h2.2]
      · rw [if_neg h2]
        have h3 : n.op = 1 ∨ n.c.eqb z4 = true := by
          rcases Classical.em (n.op = 1) with e | e
          · exact Or.inl e
          · exact Or.inr (Classical.byContradiction fun e' => h2 ⟨e, e'⟩)
        have h4 : 1 ≤ n.op ∧ n.op ≤ 9 := by omega
        simp only [h3, h4, and_self, true_and]
theorem faultL_zero (ns : List Nd) : faultL ns = 0 ↔ ns.length ≤ 60 ∧ (∀ n ∈ ns, (1 ≤ n.op ∧ n.op ≤ 9) ∧ (n.op = 1 ∨ n.c.eqb z4 = true)) ∧ endE ns 0 = some ns.length := by
  rw [faultL, ← scanL_zero]
  by_cases h : 60 < ns.length
  · rw [if_pos h]; simp; omega
  · rw [if_neg h]
    by_cases h2 : scanL ns = 0
    · rw [if_neg (by simp [h2])]
      by_cases h3 : endE ns 0 = some ns.length
      · have h4 : ns ≠ [] := by rintro rfl; rw [endE_nil] at h3; cases h3
        rw [if_neg (by simp [h3, h4])]
        simp [h2, h3]; omega
      · rw [if_pos (Or.inr h3)]; simp [h3]
    · rw [if_pos (by simp [h2])]
      simp [h2]
/-- A pattern without a fault, turned. -/
theorem turn_good (ns : List Nd) (h : faultL ns = 0) : faultL (turF ns (ns.length + 1) 0) = 0 := by
  obtain ⟨h1, h2, h3⟩ := (faultL_zero ns).1 h
  obtain ⟨t, ht, rfl⟩ := tree_of ns h3
  have hl := turF_len t.flat _ 0 _ (Nat.le_refl _) h3
  rw [turE_flat t ht] at hl ⊢
  refine (faultL_zero _).2 ⟨by omega, ?_, endE_flat _ (Rx.turn_ok t ht)⟩
  intro n hn
  have := h2 n.flip ((Rx.turn_mem t n).1 hn)
  have h8 : n.flip.c = n.c := rfl
  have h9 : n.flip.op = 1 ↔ n.op = 1 := flip_eq 1 (by decide) (by decide)
  rw [h8, h9] at this
  refine ⟨?_, this.2⟩
  have e : n.flip.op = flipOp n.op := rfl
  rw [e] at this
  unfold flipOp at this
  split at this
  · omega
  · split at this
    · omega
    · exact this.1
theorem turn_twice (ns : List Nd) (h : endE ns 0 = some ns.length) : turF (turF ns (ns.length + 1) 0) ((turF ns (ns.length + 1) 0).length + 1) 0 = ns := by
  obtain ⟨t, ht, rfl⟩ := tree_of ns h
  rw [turE_flat t ht, turE_flat t.turn (Rx.turn_ok t ht), Rx.turn_turn]
theorem turn_empE (ns : List Nd) (h : endE ns 0 = some ns.length) : empE (turF ns (ns.length + 1) 0) = empE ns := by
  obtain ⟨t, ht, rfl⟩ := tree_of ns h
  rw [turE_flat t ht, empE_flat _ (Rx.turn_ok t ht), empE_flat _ ht, Rx.turn_emp]
end Go.Proofs.YtgnmlnfddcnkbaaDoor
namespace Go.Proofs.YtgnmlnfddcnkbaaDoor
set_option linter.unusedSimpArgs false
set_option linter.unusedVariables false
set_option maxRecDepth 100000
open Go.RowKit
/-- A step that is not known yet. -/
abbrev stZ : St := ⟨0, z4, 0, 0⟩
/-- A fork. -/
abbrev stF (x y : Nat) : St := ⟨2, z4, x, y⟩
/-- The last step. -/
abbrev stD : St := ⟨5, z4, 0, 0⟩
/-- The steps of a tree, the first of them being step p. -/
def Rx.cod : Rx → Nat → List St
  | .leaf n, p => if n.op = 1 then [⟨1, n.c, ((p + 1 : Nat) : Int), 0⟩] else if n.op = 8 then [⟨3, z4, ((p + 1 : Nat) : Int), 0⟩] else if n.op = 9 then [⟨4, z4, ((p + 1 : Nat) : Int), 0⟩] else []
  | .one n a, p =>
    if n.op = 5 then stF (p + 1) (p + 1 + (a.cod (p + 1)).length + 1) :: (a.cod (p + 1) ++ [stF (p + 1) (p + 1 + (a.cod (p + 1)).length + 1)])
    else if n.op = 6 then a.cod p ++ [stF p (p + (a.cod p).length + 1)]
    else stF (p + 1) (p + 1 + (a.cod (p + 1)).length) :: a.cod (p + 1)
  | .two n a b, p =>
    if n.op = 3 then a.cod p ++ b.cod (p + (a.cod p).length)
    else stF (p + 1) (p + 1 + (a.cod (p + 1)).length + 1) :: (a.cod (p + 1) ++ (stF (p + 1 + (a.cod (p + 1)).length + 1 + (b.cod (p + 1 + (a.cod (p + 1)).length + 1)).length) (p + 1 + (a.cod (p + 1)).length + 1 + (b.cod (p + 1 + (a.cod (p + 1)).length + 1)).length) :: b.cod (p + 1 + (a.cod (p + 1)).length + 1)))
theorem Rx.cod_len : ∀ (t : Rx) (p : Nat), (t.cod p).length ≤ 2 * t.flat.length
  | .leaf n, p => by
    simp only [Rx.cod, Rx.flat]
    repeat' split
    all_goals simp
  | .one n a, p => by
    have h1 := a.cod_len p
    have h2 := a.cod_len (p + 1)
    simp only [Rx.cod, Rx.flat]
    repeat' split
    all_goals simp
    all_goals omega
  | .two n a b, p => by
    have h1 := a.cod_len p
    have h2 := a.cod_len (p + 1)
    have h3 := b.cod_len (p + (a.cod p).length)
    have h4 := b.cod_len (p + 1 + (a.cod (p + 1)).length + 1)
    simp only [Rx.cod, Rx.flat]
    repeat' split
    all_goals simp
    all_goals omega
/-- The program of a tree. -/
def Rx.prog (t : Rx) : List St := t.cod 0 ++ [stD]
end Go.Proofs.YtgnmlnfddcnkbaaDoor
namespace Go.Proofs.YtgnmlnfddcnkbaaDoor
set_option linter.unusedSimpArgs false
set_option linter.unusedVariables false
set_option maxRecDepth 100000
open Go.RowKit

/-- As often as one likes, within N. -/
inductive Str (N : Nat) (R : Nat → Nat → Prop) : Nat → Nat → Prop
  | nil (i : Nat) : i ≤ N → Str N R i i
  | cons (i k j : Nat) : R i k → Str N R k j → Str N R i j
/-- A pattern fits a text from i to j. -/
def Fit (s : List UInt8) : Rx → Nat → Nat → Prop
  | .leaf n, i, j => if n.op = 1 then ∃ c, s[i]? = some c ∧ n.c.has c.toNat = true ∧ j = i + 1 else if n.op = 8 then i = 0 ∧ j = 0 else if n.op = 9 then i = s.length ∧ j = s.length else i = j ∧ i ≤ s.length
  | .one n a, i, j => if n.op = 5 then Str s.length (Fit s a) i j else if n.op = 6 then ∃ k, Fit s a i k ∧ Str s.length (Fit s a) k j else (i = j ∧ i ≤ s.length) ∨ Fit s a i j
  | .two n a b, i, j => if n.op = 3 then ∃ k, Fit s a i k ∧ Fit s b k j else Fit s a i j ∨ Fit s b i j
theorem Str.le {N : Nat} {R : Nat → Nat → Prop} (h : ∀ i j, R i j → i ≤ j ∧ j ≤ N) : ∀ {i j : Nat}, Str N R i j → i ≤ j ∧ j ≤ N := by
  intro i j hs
  induction hs with
  | nil i hi => exact ⟨Nat.le_refl _, hi⟩
  | cons i k j h1 _ ih => exact ⟨Nat.le_trans (h i k h1).1 ih.1, ih.2⟩
theorem fit_le (s : List UInt8) : ∀ (t : Rx) (i j : Nat), Fit s t i j → i ≤ j ∧ j ≤ s.length
  | .leaf n, i, j, h => by
    unfold Fit at h
    split at h
    · obtain ⟨c, h1, _, rfl⟩ := h
      have : i < s.length := by
        rcases Nat.lt_or_ge i s.length with h' | h'
        · exact h'
        · rw [List.getElem?_eq_none h'] at h1; cases h1
      omega
    · split at h
      · omega
      · split at h <;> omega
  | .one n a, i, j, h => by
    unfold Fit at h
    split at h
    · exact Str.le (fit_le s a) h
    · split at h
      · obtain ⟨k, h1, h2⟩ := h
        have := fit_le s a i k h1
        have := Str.le (fit_le s a) h2
        omega
      · rcases h with h | h
        · omega
        · exact fit_le s a i j h
  | .two n a b, i, j, h => by
    unfold Fit at h
    split at h
    · obtain ⟨k, h1, h2⟩ := h
      have := fit_le s a i k h1
      have := fit_le s b k j h2
      omega
    · rcases h with h | h
      · exact fit_le s a i j h
      · exact fit_le s b i j h
/-- What fits from a place to itself may be nothing. -/
theorem fit_self (s : List UInt8) : ∀ (t : Rx) (i : Nat), Fit s t i i → t.emp = true
  | .leaf n, i, h => by
    unfold Fit at h
    unfold Rx.emp
    split at h
    · obtain ⟨c, _, _, h⟩ := h; omega
    · rename_i h1; simp [h1]
  | .one n a, i, h => by
    unfold Fit at h
    unfold Rx.emp
    split at h
    · rename_i h5; simp [h5]
    · split at h
      · rename_i h6
        rw [if_pos h6]
        obtain ⟨k, h1, h2⟩ := h
        have q1 := fit_le s a i k h1
        have q2 := Str.le (fit_le s a) h2
        obtain rfl : k = i := by omega
        exact fit_self s a k h1
      · rename_i h6; rw [if_neg h6]
  | .two n a b, i, h => by
    unfold Fit at h
    unfold Rx.emp
    split at h
    · rename_i h3
      rw [if_pos h3]
      obtain ⟨k, h1, h2⟩ := h
      have q1 := fit_le s a i k h1
      have q2 := fit_le s b k i h2
      obtain rfl : k = i := by omega
      rw [fit_self s a k h1, fit_self s b k h2]; rfl
    · rename_i h3
      rw [if_neg h3]
      rcases h with h | h
      · rw [fit_self s a i h]; rfl
      · rw [fit_self s b i h]; simp
theorem Str.trans {N : Nat} {R : Nat → Nat → Prop} {i j k : Nat} (h1 : Str N R i j) (h2 : Str N R j k) : Str N R i k := by
  induction h1 with
  | nil => exact h2
  | cons i m j h _ ih => exact .cons i m k h (ih h2)
theorem Str.mono {N : Nat} {R Q : Nat → Nat → Prop} (h : ∀ i j, R i j → Q i j) {i j : Nat} (hs : Str N R i j) : Str N Q i j := by
  induction hs with
  | nil i hi => exact .nil i hi
  | cons i k j h1 _ ih => exact .cons i k j (h i k h1) ih
theorem Str.one {N : Nat} {R : Nat → Nat → Prop} (h : ∀ i j, R i j → i ≤ j ∧ j ≤ N) {i j : Nat} (hr : R i j) : Str N R i j := .cons i j j hr (.nil j (h i j hr).2)
/-- A star of a star is the star. -/
theorem Str.flat {N : Nat} {R : Nat → Nat → Prop} {i j : Nat} (hs : Str N (Str N R) i j) : Str N R i j := by
  induction hs with
  | nil i hi => exact .nil i hi
  | cons i k j h1 _ ih => exact h1.trans ih
/-- The other way round. -/
theorem Str.turn {N : Nat} {R Q : Nat → Nat → Prop} (h : ∀ i j, R i j → i ≤ j ∧ j ≤ N) (hq : ∀ i j, R i j → Q (N - j) (N - i)) {i j : Nat} (hs : Str N R i j) : Str N Q (N - j) (N - i) := by
  induction hs with
  | nil i hi => exact .nil _ (by omega)
  | cons i k j h1 hs ih =>
    refine ih.trans (.cons _ (N - i) _ (hq i k h1) (.nil _ (by omega)))
theorem get_rev (s : List UInt8) (i : Nat) (h : i < s.length) : s.reverse[s.length - (i + 1)]? = s[i]? := by
  rw [List.getElem?_reverse (by omega)]
  congr 1
  omega
theorem fit_turn (s : List UInt8) : ∀ (t : Rx), t.Ok → ∀ (i j : Nat), Fit s t i j → Fit s.reverse t.turn (s.length - j) (s.length - i)
  | .leaf n, ht, i, j, h => by
    have hle := fit_le s _ i j h
    unfold Fit at h
    unfold Rx.turn Fit
    rw [List.length_reverse]
    by_cases h1 : n.op = 1
    · rw [if_pos h1] at h
      rw [if_pos (show n.flip.op = 1 from (flip_eq 1 (by decide) (by decide)).2 h1)]
      obtain ⟨c, hc, hk, rfl⟩ := h
      refine ⟨c, ?_, hk, by omega⟩
      rw [get_rev s i (by omega)]
      exact hc
    · rw [if_neg h1] at h
      rw [if_neg (show ¬ n.flip.op = 1 from fun e => h1 ((flip_eq 1 (by decide) (by decide)).1 e))]
      by_cases h8 : n.op = 8
      · rw [if_pos h8] at h
        rw [if_neg (show ¬ n.flip.op = 8 from by simp [Nd.flip, flipOp, h8]), if_pos (show n.flip.op = 9 from by simp [Nd.flip, flipOp, h8])]
        omega
      · rw [if_neg h8] at h
        by_cases h9 : n.op = 9
        · rw [if_pos h9] at h
          rw [if_pos (show n.flip.op = 8 from by simp [Nd.flip, flipOp, h9])]
          omega
        · rw [if_neg h9] at h
          rw [if_neg (show ¬ n.flip.op = 8 from by simp [Nd.flip, flipOp, h8, h9]), if_neg (show ¬ n.flip.op = 9 from by simp [Nd.flip, flipOp, h8, h9])]
          omega
  | .one n a, ht, i, j, h => by
    have hle := fit_le s _ i j h
    unfold Fit at h
    unfold Rx.turn Fit
    rw [List.length_reverse]
    have ih := fit_turn s a ht.2
    by_cases h5 : n.op = 5
    · rw [if_pos h5] at h
      rw [if_pos (show n.flip.op = 5 from (flip_eq 5 (by decide) (by decide)).2 h5)]
      exact Str.turn (fit_le s a) ih h
    · rw [if_neg h5] at h
      rw [if_neg (show ¬ n.flip.op = 5 from fun e => h5 ((flip_eq 5 (by decide) (by decide)).1 e))]
      by_cases h6 : n.op = 6
      · rw [if_pos h6] at h
        rw [if_pos (show n.flip.op = 6 from (flip_eq 6 (by decide) (by decide)).2 h6)]
        obtain ⟨k, h1, h2⟩ := h
        have key : ∀ {x y : Nat}, Str s.length (Fit s.reverse a.turn) x y → ∀ z, Fit s.reverse a.turn y z → ∃ m, Fit s.reverse a.turn x m ∧ Str s.length (Fit s.reverse a.turn) m z := by
          intro x y hxy
          have hr : ∀ i j, Fit s.reverse a.turn i j → i ≤ j ∧ j ≤ s.length := fun i j h => by have := fit_le s.reverse a.turn i j h; rw [List.length_reverse] at this; exact this
          induction hxy with
          | nil x hx => intro z hz; exact ⟨z, hz, .nil z (hr _ _ hz).2⟩
          | cons x m y hx _ ih2 =>
            intro z hz
            obtain ⟨m', h3, h4⟩ := ih2 z hz
            exact ⟨m, hx, .cons m m' z h3 h4⟩
        exact key (Str.turn (fit_le s a) ih h2) _ (ih i k h1)
      · rw [if_neg h6] at h
        rw [if_neg (show ¬ n.flip.op = 6 from fun e => h6 ((flip_eq 6 (by decide) (by decide)).1 e))]
        rcases h with h | h
        · exact Or.inl (by omega)
        · exact Or.inr (ih i j h)
  | .two n a b, ht, i, j, h => by
    have hle := fit_le s _ i j h
    unfold Fit at h
    unfold Rx.turn
    have iha := fit_turn s a ht.2.1
    have ihb := fit_turn s b ht.2.2
    by_cases h3 : n.op = 3
    · rw [if_pos h3] at h ⊢
      unfold Fit
      rw [if_pos (show n.flip.op = 3 from (flip_eq 3 (by decide) (by decide)).2 h3)]
      obtain ⟨k, h1, h2⟩ := h
      exact ⟨s.length - k, ihb k j h2, iha i k h1⟩
    · rw [if_neg h3] at h ⊢
      unfold Fit
      rw [if_neg (show ¬ n.flip.op = 3 from fun e => h3 ((flip_eq 3 (by decide) (by decide)).1 e))]
      rcases h with h | h
      · exact Or.inl (iha i j h)
      · exact Or.inr (ihb i j h)
/-- BACKWARDS IT FITS BACKWARDS. -/
theorem fit_turn_iff (s : List UInt8) (t : Rx) (ht : t.Ok) (i j : Nat) (hi : i ≤ s.length) (hj : j ≤ s.length) : Fit s t i j ↔ Fit s.reverse t.turn (s.length - j) (s.length - i) := by
  constructor
  · exact fit_turn s t ht i j
  · intro h
    have := fit_turn s.reverse t.turn (Rx.turn_ok t ht) _ _ h
    rw [List.reverse_reverse, Rx.turn_turn, List.length_reverse] at this
    rw [show s.length - (s.length - i) = i by omega, show s.length - (s.length - j) = j by omega] at this
    exact this
/-- The places to which it fits, rising. -/
def EndsR (s : List UInt8) (t : Rx) (i : Nat) (l : List Nat) : Prop := l.Pairwise (· < ·) ∧ ∀ j, j ∈ l ↔ Fit s t i j
theorem ends_total (s : List UInt8) (t : Rx) (i : Nat) : ∃ l, EndsR s t i l := by
  refine ⟨(List.range (s.length + 1)).filter fun j => @decide (Fit s t i j) (Classical.propDecidable _), List.Pairwise.filter _ List.pairwise_lt_range, fun j => ?_⟩
  rw [List.mem_filter, List.mem_range, @decide_eq_true_iff (Fit s t i j) (Classical.propDecidable _)]
  exact ⟨fun h => h.2, fun h => ⟨by have := fit_le s t i j h; omega, h⟩⟩
theorem rise_eq : ∀ (x y : List Nat), x.Pairwise (· < ·) → y.Pairwise (· < ·) → (∀ j, j ∈ x ↔ j ∈ y) → x = y
  | [], [], _, _, _ => rfl
  | [], b :: y, _, _, h => by have := (h b).2 (by simp); simp at this
  | a :: x, [], _, _, h => by have := (h a).1 (by simp); simp at this
  | a :: x, b :: y, hx, hy, h => by
    rw [List.pairwise_cons] at hx hy
    have hab : a = b := by
      have h1 := (h a).1 (by simp)
      have h2 := (h b).2 (by simp)
      rw [List.mem_cons] at h1 h2
      rcases h1 with h1 | h1
      · exact h1
      · rcases h2 with h2 | h2
        · exact h2.symm
        · have := hx.1 b h2
          have := hy.1 a h1
          omega
    subst hab
    have : x = y := rise_eq x y hx.2 hy.2 (fun j => by
      have hj := h j
      rw [List.mem_cons, List.mem_cons] at hj
      constructor
      · intro hm
        have := hx.1 j hm
        rcases hj.1 (Or.inr hm) with e | e
        · omega
        · exact e
      · intro hm
        have := hy.1 j hm
        rcases hj.2 (Or.inr hm) with e | e
        · omega
        · exact e)
    rw [this]
theorem EndsR.same {s : List UInt8} {t u : Rx} {i : Nat} {x y : List Nat} (hx : EndsR s t i x) (hy : EndsR s u i y) (h : ∀ j, Fit s t i j ↔ Fit s u i j) : x = y :=
  rise_eq x y hx.1 hy.1 fun j => (hx.2 j).trans ((h j).trans (hy.2 j).symm)
theorem EndsR.le {s : List UInt8} {t : Rx} {i : Nat} {x : List Nat} (hx : EndsR s t i x) : ∀ j ∈ x, i ≤ j ∧ j ≤ s.length := fun j hj => fit_le s t i j ((hx.2 j).1 hj)
theorem rise_len : ∀ (x : List Nat) (n m : Nat), x.Pairwise (· < ·) → (∀ j ∈ x, n ≤ j ∧ j < m) → n + x.length ≤ m ∨ x = []
  | [], _, _, _, _ => Or.inr rfl
  | a :: x, n, m, h, hb => by
    left
    rw [List.pairwise_cons] at h
    have ha := hb a (by simp)
    rcases rise_len x (a + 1) m h.2 (fun j hj => ⟨h.1 j hj, (hb j (by simp [hj])).2⟩) with h1 | h1
    · simp; omega
    · subst h1; simp; omega
theorem EndsR.len {s : List UInt8} {t : Rx} {i : Nat} {x : List Nat} (hx : EndsR s t i x) : x.length ≤ s.length + 1 := by
  rcases rise_len x 0 (s.length + 1) hx.1 (fun j hj => by have := hx.le j hj; omega) with h | h
  · omega
  · rw [h]; simp
/-- All of it is fitted just if the last end is its length. -/
theorem EndsR.all {s : List UInt8} {t : Rx} {i : Nat} {x : List Nat} (hx : EndsR s t i x) : x.getLast? = some s.length ↔ Fit s t i s.length := by
  rw [← hx.2]
  constructor
  · intro h; exact List.mem_of_getLast? h
  · intro h
    obtain ⟨l, b, e⟩ := List.append_of_mem h
    cases b with
    | nil => rw [e]; simp
    | cons c b =>
      exfalso
      have h1 := hx.1
      rw [e] at h1
      have h2 := (List.pairwise_append.1 h1).2.1
      rw [List.pairwise_cons] at h2
      have h3 := h2.1 c (by simp)
      have h4 := hx.le c (by rw [e]; simp)
      omega
end Go.Proofs.YtgnmlnfddcnkbaaDoor
namespace Go.Proofs.YtgnmlnfddcnkbaaDoor
set_option linter.unusedSimpArgs false
set_option linter.unusedVariables false
set_option maxRecDepth 100000
open Go.RowKit

/-- The spots behind a spot. -/
def nx (ss : List St) (s : List UInt8) (q : Nat) : List Nat :=
  match ss[q / (s.length + 1)]? with
  | none => []
  | some n =>
    if n.op = 1 then
      (match s[q % (s.length + 1)]? with
       | some c => if n.c.has c.toNat = true then [n.x.toNat * (s.length + 1) + q % (s.length + 1) + 1] else []
       | none => [])
    else if n.op = 2 then [n.x.toNat * (s.length + 1) + q % (s.length + 1), n.y.toNat * (s.length + 1) + q % (s.length + 1)]
    else if n.op = 3 then (if q % (s.length + 1) = 0 then [n.x.toNat * (s.length + 1) + q % (s.length + 1)] else [])
    else if n.op = 4 then (if q % (s.length + 1) = s.length then [n.x.toNat * (s.length + 1) + q % (s.length + 1)] else [])
    else []
/-- A spot at which it is done. -/
def dn (ss : List St) (s : List UInt8) (q : Nat) : Bool :=
  match ss[q / (s.length + 1)]? with
  | none => false
  | some n => decide (n.op = 5)
/-- The spots that are come to. -/
inductive Rch (ss : List St) (s : List UInt8) (q0 : Nat) : Nat → Prop
  | base : Rch ss s q0 q0
  | step (q q' : Nat) : Rch ss s q0 q → q' ∈ nx ss s q → Rch ss s q0 q'
/-- l is all ends of a program from place i, rising. -/
def RunR (ss : List St) (s : List UInt8) (i : Nat) (l : List Nat) : Prop := l.Pairwise (· < ·) ∧ ∀ j, j ∈ l ↔ ∃ q, Rch ss s i q ∧ dn ss s q = true ∧ q % (s.length + 1) = j
theorem spot_lt {N n x a : Nat} (hx : x < N) (ha : a < n) : x * n + a < N * n := by
  have h1 : (x + 1) * n ≤ N * n := Nat.mul_le_mul_right _ hx
  rw [Nat.succ_mul] at h1
  omega
/-- Of a program that may be each spot behind one is one. -/
theorem nx_lt {ss : List St} (s : List UInt8) (h : stepsF ss = 0) {q q' : Nat} (hq : q' ∈ nx ss s q) : q' < ss.length * (s.length + 1) := by
  obtain ⟨_, _, hall⟩ := stepsF_zero h
  unfold nx at hq
  cases hn : ss[q / (s.length + 1)]? with
  | none => rw [hn] at hq; cases hq
  | some n =>
    rw [hn] at hq
    simp only at hq
    have hr := (hall n (List.mem_of_getElem? hn)).1
    have hm : q % (s.length + 1) < s.length + 1 := Nat.mod_lt _ (by omega)
    have hx : n.op ≠ 5 → n.x.toNat < ss.length := fun h5 => by
      have : ¬ (n.x < 0 ∨ (ss.length : Int) ≤ n.x) := fun h => hr (Or.inr (Or.inr (Or.inl ⟨h5, h⟩)))
      omega
    have hy : n.op = 2 → n.y.toNat < ss.length := fun h2 => by
      have : ¬ (n.y < 0 ∨ (ss.length : Int) ≤ n.y) := fun h => hr (Or.inr (Or.inr (Or.inr ⟨h2, h⟩)))
      omega
    split at hq
    · rename_i h1
      split at hq
      · rename_i c hc
        split at hq
        · rw [List.mem_singleton] at hq
          subst hq
          have hlt : q % (s.length + 1) < s.length := by
            rcases Nat.lt_or_ge (q % (s.length + 1)) s.length with h' | h'
            · exact h'
            · rw [List.getElem?_eq_none h'] at hc; cases hc
          rw [Nat.add_assoc]
          exact spot_lt (hx (by omega)) (by omega)
        · cases hq
      · cases hq
    · split at hq
      · rename_i h2
        rw [List.mem_cons, List.mem_singleton] at hq
        rcases hq with rfl | rfl
        · exact spot_lt (hx (by omega)) hm
        · exact spot_lt (hy h2) hm
      · split at hq
        · rename_i h3
          split at hq
          · rw [List.mem_singleton] at hq
            subst hq
            exact spot_lt (hx (by omega)) hm
          · cases hq
        · split at hq
          · rename_i h4
            split at hq
            · rw [List.mem_singleton] at hq
              subst hq
              exact spot_lt (hx (by omega)) hm
            · cases hq
          · cases hq
theorem rch_lt {ss : List St} {s : List UInt8} (h : stepsF ss = 0) {i : Nat} (hi : i ≤ s.length) {q : Nat} (hq : Rch ss s i q) : q < ss.length * (s.length + 1) := by
  induction hq with
  | base =>
    have := (stepsF_zero h).2.1
    have := spot_lt (N := ss.length) (n := s.length + 1) (x := 0) (a := i) this (by omega)
    omega
  | step q q' _ hn _ => exact nx_lt s h hn
/-- What holds while spots are gone through, one by one. -/
structure Bfs (ss : List St) (s : List UInt8) (q0 : Nat) (seen : Nat → Bool) (Q : List Nat) (en : Nat → Bool) : Prop where
  start : seen q0 = true
  rch : ∀ q, seen q = true → Rch ss s q0 q
  que : ∀ q ∈ Q, seen q = true
  done : ∀ q, seen q = true → q ∈ Q ∨ ((∀ q' ∈ nx ss s q, seen q' = true) ∧ (dn ss s q = true → en (q % (s.length + 1)) = true))
  sound : ∀ a, en a = true → ∃ q, Rch ss s q0 q ∧ dn ss s q = true ∧ q % (s.length + 1) = a
/-- While those behind one, q, are gone through: rest is left. -/
structure BfsM (ss : List St) (s : List UInt8) (q0 : Nat) (seen : Nat → Bool) (Q : List Nat) (en : Nat → Bool) (q : Nat) (rest : List Nat) : Prop where
  start : seen q0 = true
  rch : ∀ q, seen q = true → Rch ss s q0 q
  que : ∀ q ∈ Q, seen q = true
  mine : Rch ss s q0 q
  sub : ∀ q' ∈ rest, q' ∈ nx ss s q
  left : ∀ q' ∈ nx ss s q, seen q' = true ∨ q' ∈ rest
  tell : dn ss s q = true → en (q % (s.length + 1)) = true
  done : ∀ p, seen p = true → p = q ∨ p ∈ Q ∨ ((∀ q' ∈ nx ss s p, seen q' = true) ∧ (dn ss s p = true → en (p % (s.length + 1)) = true))
  sound : ∀ a, en a = true → ∃ q, Rch ss s q0 q ∧ dn ss s q = true ∧ q % (s.length + 1) = a
def setB (p : Nat → Bool) (a : Nat) : Nat → Bool := fun j => if j = a then true else p j
theorem setB_same (p : Nat → Bool) (a : Nat) : setB p a a = true := by simp [setB]
theorem setB_old {p : Nat → Bool} {a j : Nat} (h : p j = true) : setB p a j = true := by unfold setB; split <;> simp_all
theorem setB_or {p : Nat → Bool} {a j : Nat} (h : setB p a j = true) : j = a ∨ p j = true := by
  unfold setB at h
  split at h
  · exact Or.inl ‹_›
  · exact Or.inr h
theorem Bfs.init (ss : List St) (s : List UInt8) (q0 : Nat) : Bfs ss s q0 (setB (fun _ => false) q0) [q0] (fun _ => false) where
  start := setB_same _ _
  rch := fun q h => by
    rcases setB_or h with rfl | h
    · exact .base
    · cases h
  que := fun q h => by rw [List.mem_singleton.1 h]; exact setB_same _ _
  done := fun q h => by
    rcases setB_or h with rfl | h
    · exact Or.inl (by simp)
    · cases h
  sound := fun a h => by cases h
theorem Bfs.pop {ss : List St} {s : List UInt8} {q0 : Nat} {seen : Nat → Bool} {q : Nat} {Q : List Nat} {en : Nat → Bool} (h : Bfs ss s q0 seen (q :: Q) en) (en' : Nat → Bool) (he : en' = if dn ss s q = true then setB en (q % (s.length + 1)) else en) : BfsM ss s q0 seen Q en' q (nx ss s q) := by
  have hmono : ∀ a, en a = true → en' a = true := fun a ha => by
    rw [he]
    split
    · exact setB_old ha
    · exact ha
  have hq := h.rch q (h.que q (by simp))
  refine ⟨h.start, h.rch, fun p hp => h.que p (by simp [hp]), hq, fun _ h => h, fun _ h => Or.inr h, fun hd => ?_, fun p hp => ?_, fun a ha => ?_⟩
  · rw [he, if_pos hd]; exact setB_same _ _
  · rcases h.done p hp with hm | ⟨h1, h2⟩
    · rcases List.mem_cons.1 hm with rfl | hm
      · exact Or.inl rfl
      · exact Or.inr (Or.inl hm)
    · exact Or.inr (Or.inr ⟨h1, fun hd => hmono _ (h2 hd)⟩)
  · rw [he] at ha
    split at ha
    · rename_i hd
      rcases setB_or ha with rfl | ha
      · exact ⟨q, hq, hd, rfl⟩
      · exact h.sound a ha
    · exact h.sound a ha
theorem BfsM.skip {ss : List St} {s : List UInt8} {q0 : Nat} {seen : Nat → Bool} {q x : Nat} {Q rest : List Nat} {en : Nat → Bool} (h : BfsM ss s q0 seen Q en q (x :: rest)) (hx : seen x = true) : BfsM ss s q0 seen Q en q rest :=
  ⟨h.start, h.rch, h.que, h.mine, fun p hp => h.sub p (by simp [hp]), fun p hp => by
    rcases h.left p hp with h1 | h1
    · exact Or.inl h1
    · rcases List.mem_cons.1 h1 with rfl | h1
      · exact Or.inl hx
      · exact Or.inr h1, h.tell, h.done, h.sound⟩
theorem BfsM.add {ss : List St} {s : List UInt8} {q0 : Nat} {seen : Nat → Bool} {q x : Nat} {Q rest : List Nat} {en : Nat → Bool} (h : BfsM ss s q0 seen Q en q (x :: rest)) : BfsM ss s q0 (setB seen x) (Q ++ [x]) en q rest where
  start := setB_old h.start
  rch := fun p hp => by
    rcases setB_or hp with rfl | hp
    · exact .step q p h.mine (h.sub p (by simp))
    · exact h.rch p hp
  que := fun p hp => by
    rcases List.mem_append.1 hp with hp | hp
    · exact setB_old (h.que p hp)
    · rw [List.mem_singleton.1 hp]; exact setB_same _ _
  mine := h.mine
  sub := fun p hp => h.sub p (by simp [hp])
  left := fun p hp => by
    rcases h.left p hp with h1 | h1
    · exact Or.inl (setB_old h1)
    · rcases List.mem_cons.1 h1 with rfl | h1
      · exact Or.inl (setB_same _ _)
      · exact Or.inr h1
  tell := h.tell
  done := fun p hp => by
    rcases setB_or hp with rfl | hp
    · exact Or.inr (Or.inl (by simp))
    · rcases h.done p hp with h1 | h1 | ⟨h1, h2⟩
      · exact Or.inl h1
      · exact Or.inr (Or.inl (by simp [h1]))
      · exact Or.inr (Or.inr ⟨fun r hr => setB_old (h1 r hr), h2⟩)
  sound := h.sound
theorem BfsM.fin {ss : List St} {s : List UInt8} {q0 : Nat} {seen : Nat → Bool} {q : Nat} {Q : List Nat} {en : Nat → Bool} (h : BfsM ss s q0 seen Q en q []) : Bfs ss s q0 seen Q en :=
  ⟨h.start, h.rch, h.que, fun p hp => by
    rcases h.done p hp with rfl | h1 | h1
    · refine Or.inr ⟨fun r hr => ?_, h.tell⟩
      rcases h.left r hr with h2 | h2
      · exact h2
      · cases h2
    · exact Or.inl h1
    · exact Or.inr h1, h.sound⟩
/-- Where nothing is left all is known. -/
theorem Bfs.all {ss : List St} {s : List UInt8} {q0 : Nat} {seen : Nat → Bool} {en : Nat → Bool} (h : Bfs ss s q0 seen [] en) (j : Nat) : en j = true ↔ ∃ q, Rch ss s q0 q ∧ dn ss s q = true ∧ q % (s.length + 1) = j := by
  have hs : ∀ q, Rch ss s q0 q → seen q = true := fun q hq => by
    induction hq with
    | base => exact h.start
    | step q q' _ hn ih =>
      rcases h.done q ih with h1 | ⟨h1, _⟩
      · cases h1
      · exact h1 q' hn
  constructor
  · exact h.sound j
  · rintro ⟨q, hq, hd, rfl⟩
    rcases h.done q (hs q hq) with h1 | ⟨_, h1⟩
    · cases h1
    · exact h1 hd
/-- The ends, as a list. -/
theorem Bfs.list {ss : List St} {s : List UInt8} {i : Nat} {seen : Nat → Bool} {en : Nat → Bool} (h : Bfs ss s i seen [] en) : RunR ss s i ((List.range (s.length + 1)).filter en) := by
  refine ⟨List.Pairwise.filter _ List.pairwise_lt_range, fun j => ?_⟩
  rw [List.mem_filter, List.mem_range, ← h.all j]
  refine ⟨fun h' => h'.2, fun h' => ⟨?_, h'⟩⟩
  obtain ⟨q, _, _, rfl⟩ := h.sound j h'
  exact Nat.mod_lt _ (by omega)
end Go.Proofs.YtgnmlnfddcnkbaaDoor
