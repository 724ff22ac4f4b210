/- Programs: lists of steps, in memory; their faults. No function of the program. The program of a tree, as the landed package prog lays it: plain mathematics. Programs that are run, spot by spot: plain mathematics. A spot is a step's number times the places, and a place. THOMPSON'S CONSTRUCTION: the program of a tree comes to its end just where the tree fits: plain mathematics. -/
import Derived.Test.YtejbififfceamaaGreatDoorY02
import Derived.Test.YtejbififfceamaaGreatDoorY04
import Derived.Test.YtejbififfceamaaGreatDoorY07
namespace Go.Proofs.YtejbififfceamaaGreatDoor
set_option linter.unusedSimpArgs false
set_option linter.unusedVariables false
set_option maxRecDepth 100000
open Go.RowKit

/-- A step. -/
structure St where
  op : Int
  c : C4
  x : Int
  y : Int
/-- The steps ss lie from an address on. -/
def SsAt (w : World) (b off : Nat) (ss : List St) : Prop := ∀ i n, ss[i]? = some n →
  w.cell? ⟨b, off + i * 7, none⟩ = some (.int .i64 n.op) ∧ w.cell? ⟨b, off + i * 7 + 1, none⟩ = some (.int .u64 n.c.a) ∧ w.cell? ⟨b, off + i * 7 + 2, none⟩ = some (.int .u64 n.c.b) ∧ w.cell? ⟨b, off + i * 7 + 3, none⟩ = some (.int .u64 n.c.c) ∧ w.cell? ⟨b, off + i * 7 + 4, none⟩ = some (.int .u64 n.c.d) ∧ w.cell? ⟨b, off + i * 7 + 5, none⟩ = some (.int .i64 n.x) ∧ w.cell? ⟨b, off + i * 7 + 6, none⟩ = some (.int .i64 n.y)
/-- A slice that reads as the steps ss. -/
def SsIn (w : World) (v : Value) (ss : List St) : Prop := ∃ a cap, v = .slice a ss.length cap ∧ ss.length ≤ maxLen ∧ (ss = [] ∨ ∃ b off, a = some ⟨b, off, none⟩ ∧ b < w.heap.size ∧ SsAt w b off ss)
theorem SsAt.below {w w' : World} {B b off : Nat} {ss : List St} (h : SsAt w b off ss) (hb : Below B w w') (hlt : b < B) : SsAt w' b off ss := by
  intro i n hn
  obtain ⟨h0, h1, h2, h3, h4, h5, h6⟩ := h i n hn
  exact ⟨(hb.cell (p := ⟨b, _, none⟩) hlt).trans h0, (hb.cell (p := ⟨b, _, none⟩) hlt).trans h1, (hb.cell (p := ⟨b, _, none⟩) hlt).trans h2, (hb.cell (p := ⟨b, _, none⟩) hlt).trans h3, (hb.cell (p := ⟨b, _, none⟩) hlt).trans h4, (hb.cell (p := ⟨b, _, none⟩) hlt).trans h5, (hb.cell (p := ⟨b, _, none⟩) hlt).trans h6⟩
theorem SsIn.below {w w' : World} {v : Value} {ss : List St} (h : SsIn w v ss) (hb : Below w.heap.size w w') : SsIn w' v ss := by
  obtain ⟨a, cap, rfl, hm, h | ⟨b, off, rfl, hlt, hn⟩⟩ := h
  · exact ⟨a, cap, rfl, hm, Or.inl h⟩
  · exact ⟨_, cap, rfl, hm, Or.inr ⟨b, off, rfl, Nat.lt_of_lt_of_le hlt hb.size, hn.below hb hlt⟩⟩
theorem ssIn_form {w : World} {v : Value} {ss : List St} (h : SsIn w v ss) : ∃ a cap, v = .slice a ss.length cap ∧ ss.length ≤ maxLen := by
  obtain ⟨a, cap, h1, h2, _⟩ := h
  exact ⟨a, cap, h1, h2⟩
theorem ssIn_nil (w : World) : SsIn w (.slice none 0 0) [] := ⟨none, 0, rfl, by simp, Or.inl rfl⟩
/-- A number is none that may be, of a step of a program of N. -/
abbrev stRange (N : Nat) (s : St) : Prop := s.op < 1 ∨ 5 < s.op ∨ (s.op ≠ 5 ∧ (s.x < 0 ∨ (N : Int) ≤ s.x)) ∨ (s.op = 2 ∧ (s.y < 0 ∨ (N : Int) ≤ s.y))
/-- A field that its Op has not is not 0. -/
abbrev stShape (s : St) : Prop := (s.op ≠ 1 ∧ ¬ s.c.eqb z4 = true) ∨ (s.op ≠ 2 ∧ s.y ≠ 0) ∨ (s.op = 5 ∧ s.x ≠ 0)
def stBad (N : Nat) (s : St) : Int := if stRange N s then 1 else if stShape s then 2 else 0
def stScan (N : Nat) : List St → Int
  | [] => 0
  | s :: r => if stBad N s = 0 then stScan N r else stBad N s
/-- What is wrong with a program. -/
def stepsF (ss : List St) : Int := if 200 < ss.length then 3 else if ss.length = 0 then 4 else stScan ss.length ss
theorem stBad_range {N : Nat} {s : St} (h : stRange N s) : stBad N s = 1 := by unfold stBad; rw [if_pos h]
theorem stBad_shape {N : Nat} {s : St} (h : ¬ stRange N s) (h2 : stShape s) : stBad N s = 2 := by unfold stBad; rw [if_neg h, if_pos h2]
theorem stBad_ok {N : Nat} {s : St} (h : ¬ stRange N s) (h2 : ¬ stShape s) : stBad N s = 0 := by unfold stBad; rw [if_neg h, if_neg h2]
theorem stBad_zero {N : Nat} {s : St} (h : stBad N s = 0) : ¬ stRange N s ∧ ¬ stShape s := by
  unfold stBad at h
  by_cases h1 : stRange N s
  · rw [if_pos h1] at h; cases h
  · rw [if_neg h1] at h
    by_cases h2 : stShape s
    · rw [if_pos h2] at h; cases h
    · exact ⟨h1, h2⟩
theorem stScan_drop (N : Nat) : ∀ (ss : List St) (i : Nat) (n : St), ss[i]? = some n → stScan N (ss.drop i) = if stBad N n = 0 then stScan N (ss.drop (i + 1)) else stBad N n
  | [], i, n, h => by simp at h
  | s :: r, 0, n, h => by
    simp at h
    subst h
    rfl
  | s :: r, i + 1, n, h => by
    rw [List.drop_succ_cons, List.drop_succ_cons]
    exact stScan_drop N r i n (by simpa using h)
theorem stScan_all (N : Nat) : ∀ (ss : List St), stScan N ss = 0 → ∀ s ∈ ss, stBad N s = 0
  | [], _, s, hs => by cases hs
  | a :: r, h, s, hs => by
    unfold stScan at h
    by_cases h0 : stBad N a = 0
    · rw [if_pos h0] at h
      rcases List.mem_cons.1 hs with rfl | hs
      · exact h0
      · exact stScan_all N r h s hs
    · rw [if_neg h0] at h
      exact absurd h h0
theorem stepsF_zero {ss : List St} (h : stepsF ss = 0) : ss.length ≤ 200 ∧ 0 < ss.length ∧ ∀ s ∈ ss, ¬ stRange ss.length s ∧ ¬ stShape s := by
  unfold stepsF at h
  by_cases h1 : 200 < ss.length
  · rw [if_pos h1] at h; cases h
  · rw [if_neg h1] at h
    by_cases h2 : ss.length = 0
    · rw [if_pos h2] at h; cases h
    · rw [if_neg h2] at h
      exact ⟨by omega, by omega, fun s hs => stBad_zero (stScan_all _ _ h s hs)⟩
def SsOk (ss : List St) : Prop := ∀ s ∈ ss, s.c.ok
end Go.Proofs.YtejbififfceamaaGreatDoor
namespace Go.Proofs.YtejbififfceamaaGreatDoor
set_option linter.unusedSimpArgs false
set_option linter.unusedVariables false
set_option maxRecDepth 100000
open Go.RowKit
/-- A step that is not known yet. -/
abbrev stZ : St := ⟨0, z4, 0, 0⟩
/-- A fork. -/
abbrev stF (x y : Nat) : St := ⟨2, z4, x, y⟩
/-- The last step. -/
abbrev stD : St := ⟨5, z4, 0, 0⟩
/-- The steps of a tree, the first of them being step p. -/
def Rx.cod : Rx → Nat → List St
  | .leaf n, p => if n.op = 1 then [⟨1, n.c, ((p + 1 : Nat) : Int), 0⟩] else if n.op = 8 then [⟨3, z4, ((p + 1 : Nat) : Int), 0⟩] else if n.op = 9 then [⟨4, z4, ((p + 1 : Nat) : Int), 0⟩] else []
  | .one n a, p =>
    if n.op = 5 then stF (p + 1) (p + 1 + (a.cod (p + 1)).length + 1) :: (a.cod (p + 1) ++ [stF (p + 1) (p + 1 + (a.cod (p + 1)).length + 1)])
    else if n.op = 6 then a.cod p ++ [stF p (p + (a.cod p).length + 1)]
    else stF (p + 1) (p + 1 + (a.cod (p + 1)).length) :: a.cod (p + 1)
  | .two n a b, p =>
    if n.op = 3 then a.cod p ++ b.cod (p + (a.cod p).length)
    else stF (p + 1) (p + 1 + (a.cod (p + 1)).length + 1) :: (a.cod (p + 1) ++ (stF (p + 1 + (a.cod (p + 1)).length + 1 + (b.cod (p + 1 + (a.cod (p + 1)).length + 1)).length) (p + 1 + (a.cod (p + 1)).length + 1 + (b.cod (p + 1 + (a.cod (p + 1)).length + 1)).length) :: b.cod (p + 1 + (a.cod (p + 1)).length + 1)))
theorem Rx.cod_len : ∀ (t : Rx) (p : Nat), (t.cod p).length ≤ 2 * t.flat.length
  | .leaf n, p => by
    simp only [Rx.cod, Rx.flat]
    repeat' split
    all_goals simp
  | .one n a, p => by
    have h1 := a.cod_len p
    have h2 := a.cod_len (p + 1)
    simp only [Rx.cod, Rx.flat]
    repeat' split
    all_goals simp
    all_goals omega
  | .two n a b, p => by
    have h1 := a.cod_len p
    have h2 := a.cod_len (p + 1)
    have h3 := b.cod_len (p + (a.cod p).length)
    have h4 := b.cod_len (p + 1 + (a.cod (p + 1)).length + 1)
    simp only [Rx.cod, Rx.flat]
    repeat' split
    all_goals simp
    all_goals omega
/-- The program of a tree. -/
def Rx.prog (t : Rx) : List St := t.cod 0 ++ [stD]
end Go.Proofs.YtejbififfceamaaGreatDoor
namespace Go.Proofs.YtejbififfceamaaGreatDoor
set_option linter.unusedSimpArgs false
set_option linter.unusedVariables false
set_option maxRecDepth 100000
open Go.RowKit

/-- The spots behind a spot. -/
def nx (ss : List St) (s : List UInt8) (q : Nat) : List Nat :=
  match ss[q / (s.length + 1)]? with
  | none => []
  | some n =>
    if n.op = 1 then
      (match s[q % (s.length + 1)]? with
       | some c => if n.c.has c.toNat = true then [n.x.toNat * (s.length + 1) + q % (s.length + 1) + 1] else []
       | none => [])
    else if n.op = 2 then [n.x.toNat * (s.length + 1) + q % (s.length + 1), n.y.toNat * (s.length + 1) + q % (s.length + 1)]
    else if n.op = 3 then (if q % (s.length + 1) = 0 then [n.x.toNat * (s.length + 1) + q % (s.length + 1)] else [])
    else if n.op = 4 then (if q % (s.length + 1) = s.length then [n.x.toNat * (s.length + 1) + q % (s.length + 1)] else [])
    else []
/-- A spot at which it is done. -/
def dn (ss : List St) (s : List UInt8) (q : Nat) : Bool :=
  match ss[q / (s.length + 1)]? with
  | none => false
  | some n => decide (n.op = 5)
/-- The spots that are come to. -/
inductive Rch (ss : List St) (s : List UInt8) (q0 : Nat) : Nat → Prop
  | base : Rch ss s q0 q0
  | step (q q' : Nat) : Rch ss s q0 q → q' ∈ nx ss s q → Rch ss s q0 q'
/-- l is all ends of a program from place i, rising. -/
def RunR (ss : List St) (s : List UInt8) (i : Nat) (l : List Nat) : Prop := l.Pairwise (· < ·) ∧ ∀ j, j ∈ l ↔ ∃ q, Rch ss s i q ∧ dn ss s q = true ∧ q % (s.length + 1) = j
theorem spot_lt {N n x a : Nat} (hx : x < N) (ha : a < n) : x * n + a < N * n := by
  have h1 : (x + 1) * n ≤ N * n := Nat.mul_le_mul_right _ hx
  rw [Nat.succ_mul] at h1
  omega
/-- Of a program that may be each spot behind one is one. -/
theorem nx_lt {ss : List St} (s : List UInt8) (h : stepsF ss = 0) {q q' : Nat} (hq : q' ∈ nx ss s q) : q' < ss.length * (s.length + 1) := by
  obtain ⟨_, _, hall⟩ := stepsF_zero h
  unfold nx at hq
  cases hn : ss[q / (s.length + 1)]? with
  | none => rw [hn] at hq; cases hq
  | some n =>
    rw [hn] at hq
    simp only at hq
    have hr := (hall n (List.mem_of_getElem? hn)).1
    have hm : q % (s.length + 1) < s.length + 1 := Nat.mod_lt _ (by omega)
    have hx : n.op ≠ 5 → n.x.toNat < ss.length := fun h5 => by
      have : ¬ (n.x < 0 ∨ (ss.length : Int) ≤ n.x) := fun h => hr (Or.inr (Or.inr (Or.inl ⟨h5, h⟩)))
      omega
    have hy : n.op = 2 → n.y.toNat < ss.length := fun h2 => by
      have : ¬ (n.y < 0 ∨ (ss.length : Int) ≤ n.y) := fun h => hr (Or.inr (Or.inr (Or.inr ⟨h2, h⟩)))
      omega
    split at hq
    · rename_i h1
      split at hq
      · rename_i c hc
        split at hq
        · rw [List.mem_singleton] at hq
          subst hq
          have hlt : q % (s.length + 1) < s.length := by
            rcases Nat.lt_or_ge (q % (s.length + 1)) s.length with h' | h'
            · exact h'
            · rw [List.getElem?_eq_none h'] at hc; cases hc
          rw [Nat.add_assoc]
          exact spot_lt (hx (by omega)) (by omega)
        · cases hq
      · cases hq
    · split at hq
      · rename_i h2
        rw [List.mem_cons, List.mem_singleton] at hq
        rcases hq with rfl | rfl
        · exact spot_lt (hx (by omega)) hm
        · exact spot_lt (hy h2) hm
      · split at hq
        · rename_i h3
          split at hq
          · rw [List.mem_singleton] at hq
            subst hq
            exact spot_lt (hx (by omega)) hm
          · cases hq
        · split at hq
          · rename_i h4
            split at hq
            · rw [List.mem_singleton] at hq
              subst hq
              exact spot_lt (hx (by omega)) hm
            · cases hq
          · cases hq
theorem rch_lt {ss : List St} {s : List UInt8} (h : stepsF ss = 0) {i : Nat} (hi : i ≤ s.length) {q : Nat} (hq : Rch ss s i q) : q < ss.length * (s.length + 1) := by
  induction hq with
  | base =>
    have := (stepsF_zero h).2.1
    have := spot_lt (N := ss.length) (n := s.length + 1) (x := 0) (a := i) this (by omega)
    omega
  | step q q' _ hn _ => exact nx_lt s h hn
/-- What holds while spots are gone through, one by one. -/
structure Bfs (ss : List St) (s : List UInt8) (q0 : Nat) (seen : Nat → Bool) (Q : List Nat) (en : Nat → Bool) : Prop where
  start : seen q0 = true
  rch : ∀ q, seen q = true → Rch ss s q0 q
  que : ∀ q ∈ Q, seen q = true
  done : ∀ q, seen q = true → q ∈ Q ∨ ((∀ q' ∈ nx ss s q, seen q' = true) ∧ (dn ss s q = true → en (q % (s.length + 1)) = true))
  sound : ∀ a, en a = true → ∃ q, Rch ss s q0 q ∧ dn ss s q = true ∧ q % (s.length + 1) = a
/-- While those behind one, q, are gone through: rest is left. -/
structure BfsM (ss : List St) (s : List UInt8) (q0 : Nat) (seen : Nat → Bool) (Q : List Nat) (en : Nat → Bool) (q : Nat) (rest : List Nat) : Prop where
  start : seen q0 = true
  rch : ∀ q, seen q = true → Rch ss s q0 q
  que : ∀ q ∈ Q, seen q = true
  mine : Rch ss s q0 q
  sub : ∀ q' ∈ rest, q' ∈ nx ss s q
  left : ∀ q' ∈ nx ss s q, seen q' = true ∨ q' ∈ rest
  tell : dn ss s q = true → en (q % (s.length + 1)) = true
  done : ∀ p, seen p = true → p = q ∨ p ∈ Q ∨ ((∀ q' ∈ nx ss s p, seen q' = true) ∧ (dn ss s p = true → en (p % (s.length + 1)) = true))
  sound : ∀ a, en a = true → ∃ q, Rch ss s q0 q ∧ dn ss s q = true ∧ q % (s.length + 1) = a
def setB (p : Nat → Bool) (a : Nat) : Nat → Bool := fun j => if j = a then true else p j
theorem setB_same (p : Nat → Bool) (a : Nat) : setB p a a = true := by simp [setB]
theorem setB_old {p : Nat → Bool} {a j : Nat} (h : p j = true) : setB p a j = true := by unfold setB; split <;> simp_all
theorem setB_or {p : Nat → Bool} {a j : Nat} (h : setB p a j = true) : j = a ∨ p j = true := by
  unfold setB at h
  split at h
  · exact Or.inl ‹_›
  · exact Or.inr h
theorem Bfs.init (ss : List St) (s : List UInt8) (q0 : Nat) : Bfs ss s q0 (setB (fun _ => false) q0) [q0] (fun _ => false) where
  start := setB_same _ _
  rch := fun q h => by
    rcases setB_or h with rfl | h
    · exact .base
    · cases h
  que := fun q h => by rw [List.mem_singleton.1 h]; exact setB_same _ _
  done := fun q h => by
    rcases setB_or h with rfl | h
    · exact Or.inl (by simp)
    · cases h
  sound := fun a h => by cases h
theorem Bfs.pop {ss : List St} {s : List UInt8} {q0 : Nat} {seen : Nat → Bool} {q : Nat} {Q : List Nat} {en : Nat → Bool} (h : Bfs ss s q0 seen (q :: Q) en) (en' : Nat → Bool) (he : en' = if dn ss s q = true then setB en (q % (s.length + 1)) else en) : BfsM ss s q0 seen Q en' q (nx ss s q) := by
  have hmono : ∀ a, en a = true → en' a = true := fun a ha => by
    rw [he]
    split
    · exact setB_old ha
    · exact ha
  have hq := h.rch q (h.que q (by simp))
  refine ⟨h.start, h.rch, fun p hp => h.que p (by simp [hp]), hq, fun _ h => h, fun _ h => Or.inr h, fun hd => ?_, fun p hp => ?_, fun a ha => ?_⟩
  · rw [he, if_pos hd]; exact setB_same _ _
  · rcases h.done p hp with hm | ⟨h1, h2⟩
    · rcases List.mem_cons.1 hm with rfl | hm
      · exact Or.inl rfl
      · exact Or.inr (Or.inl hm)
    · exact Or.inr (Or.inr ⟨h1, fun hd => hmono _ (h2 hd)⟩)
  · rw [he] at ha
    split at ha
    · rename_i hd
      rcases setB_or ha with rfl | ha
      · exact ⟨q, hq, hd, rfl⟩
      · exact h.sound a ha
    · exact h.sound a ha
theorem BfsM.skip {ss : List St} {s : List UInt8} {q0 : Nat} {seen : Nat → Bool} {q x : Nat} {Q rest : List Nat} {en : Nat → Bool} (h : BfsM ss s q0 seen Q en q (x :: rest)) (hx : seen x = true) : BfsM ss s q0 seen Q en q rest :=
  ⟨h.start, h.rch, h.que, h.mine, fun p hp => h.sub p (by simp [hp]), fun p hp => by
    rcases h.left p hp with h1 | h1
    · exact Or.inl h1
    · rcases List.mem_cons.1 h1 with rfl | h1
      · exact Or.inl hx
      · exact Or.inr h1, h.tell, h.done, h.sound⟩
theorem BfsM.add {ss : List St} {s : List UInt8} {q0 : Nat} {seen : Nat → Bool} {q x : Nat} {Q rest : List Nat} {en : Nat → Bool} (h : BfsM ss s q0 seen Q en q (x :: rest)) : BfsM ss s q0 (setB seen x) (Q ++ [x]) en q rest where
  start := setB_old h.start
  rch := fun p hp => by
    rcases setB_or hp with rfl | hp
    · exact .step q p h.mine (h.sub p (by simp))
    · exact h.rch p hp
  que := fun p hp => by
    rcases List.mem_append.1 hp with hp | hp
    · exact setB_old (h.que p hp)
    · rw [List.mem_singleton.1 hp]; exact setB_same _ _
  mine := h.mine
  sub := fun p hp => h.sub p (by simp [hp])
  left := fun p hp => by
    rcases h.left p hp with h1 | h1
    · exact Or.inl (setB_old h1)
    · rcases List.mem_cons.1 h1 with rfl | h1
      · exact Or.inl (setB_same _ _)
      · exact Or.inr h1
  tell := h.tell
  done := fun p hp => by
    rcases setB_or hp with rfl | hp
    · exact Or.inr (Or.inl (by simp))
    · rcases h.done p hp with h1 | h1 | ⟨h1, h2⟩
      · exact Or.inl h1
      · exact Or.inr (Or.inl (by simp [h1]))
      · exact Or.inr (Or.inr ⟨fun r hr => setB_old (h1 r hr), h2⟩)
  sound := h.sound
theorem BfsM.fin {ss : List St} {s : List UInt8} {q0 : Nat} {seen : Nat → Bool} {q : Nat} {Q : List Nat} {en : Nat → Bool} (h : BfsM ss s q0 seen Q en q []) : Bfs ss s q0 seen Q en :=
  ⟨h.start, h.rch, h.que, fun p hp => by
    rcases h.done p hp with rfl | h1 | h1
    · refine Or.inr ⟨fun r hr => ?_, h.tell⟩
      rcases h.left r hr with h2 | h2
      · exact h2
      · cases h2
    · exact Or.inl h1
    · exact Or.inr h1, h.sound⟩
/-- Where nothing is left all is known. -/
theorem Bfs.all {ss : List St} {s : List UInt8} {q0 : Nat} {seen : Nat → Bool} {en : Nat → Bool} (h : Bfs ss s q0 seen [] en) (j : Nat) : en j = true ↔ ∃ q, Rch ss s q0 q ∧ dn ss s q = true ∧ q % (s.length + 1) = j := by
  have hs : ∀ q, Rch ss s q0 q → seen q = true := fun q hq => by
    induction hq with
    | base => exact h.start
    | step q q' _ hn ih =>
      rcases h.done q ih with h1 | ⟨h1, _⟩
      · cases h1
      · exact h1 q' hn
  constructor
  · exact h.sound j
  · rintro ⟨q, hq, hd, rfl⟩
    rcases h.done q (hs q hq) with h1 | ⟨_, h1⟩
    · cases h1
    · exact h1 hd
/-- The ends, as a list. -/
theorem Bfs.list {ss : List St} {s : List UInt8} {i : Nat} {seen : Nat → Bool} {en : Nat → Bool} (h : Bfs ss s i seen [] en) : RunR ss s i ((List.range (s.length + 1)).filter en) := by
  refine ⟨List.Pairwise.filter _ List.pairwise_lt_range, fun j => ?_⟩
  rw [List.mem_filter, List.mem_range, ← h.all j]
  refine ⟨fun h' => h'.2, fun h' => ⟨?_, h'⟩⟩
  obtain ⟨q, _, _, rfl⟩ := h.sound j h'
  exact Nat.mod_lt _ (by omega)
end Go.Proofs.YtejbififfceamaaGreatDoor
namespace Go.Proofs.YtejbififfceamaaGreatDoor
set_option linter.unusedSimpArgs false
set_option linter.unusedVariables false
set_option maxRecDepth 100000
open Go.RowKit

/-- One step of a run, from step k at place a. -/
def Stp (P : List St) (s : List UInt8) (k a k' a' : Nat) : Prop := ∃ n, P[k]? = some n ∧
  ((n.op = 1 ∧ k' = n.x.toNat ∧ a' = a + 1 ∧ ∃ c, s[a]? = some c ∧ n.c.has c.toNat = true) ∨ (n.op = 2 ∧ (k' = n.x.toNat ∨ k' = n.y.toNat) ∧ a' = a) ∨ (n.op = 3 ∧ k' = n.x.toNat ∧ a' = a ∧ a = 0) ∨ (n.op = 4 ∧ k' = n.x.toNat ∧ a' = a ∧ a = s.length))
/-- So many steps of a run. -/
inductive Pth (P : List St) (s : List UInt8) : Nat → Nat → Nat → Nat → Nat → Prop
  | nil (k a : Nat) : Pth P s 0 k a k a
  | cons (m k a k1 a1 k' a' : Nat) : Stp P s k a k1 a1 → Pth P s m k1 a1 k' a' → Pth P s (m + 1) k a k' a'
theorem Pth.trans {P : List St} {s : List UInt8} {m n k a k1 a1 k2 a2 : Nat} (h1 : Pth P s m k a k1 a1) (h2 : Pth P s n k1 a1 k2 a2) : Pth P s (m + n) k a k2 a2 := by
  induction h1 with
  | nil k a => rw [Nat.zero_add]; exact h2
  | cons m k a k3 a3 k' a' h _ ih =>
    rw [show m + 1 + n = m + n + 1 from by omega]
    exact .cons _ _ _ _ _ _ _ h (ih h2)
theorem Pth.one {P : List St} {s : List UInt8} {k a k1 a1 : Nat} (h : Stp P s k a k1 a1) : Pth P s 1 k a k1 a1 := .cons _ _ _ _ _ _ _ h (.nil _ _)
/-- The steps L stand in P from p on. -/
def Seg (P : List St) (p : Nat) (L : List St) : Prop := ∀ i n, L[i]? = some n → P[p + i]? = some n
theorem Seg.left {P : List St} {p : Nat} {A B : List St} (h : Seg P p (A ++ B)) : Seg P p A := fun i n hi => by
  refine h i n ?_
  have : i < A.length := by
    rcases Nat.lt_or_ge i A.length with h' | h'
    · exact h'
    · rw [List.getElem?_eq_none h'] at hi; cases hi
  rw [List.getElem?_append_left this]
  exact hi
theorem Seg.right {P : List St} {p : Nat} {A B : List St} (h : Seg P p (A ++ B)) : Seg P (p + A.length) B := fun i n hi => by
  have := h (A.length + i) n (by rw [List.getElem?_append_right (by omega)]; simpa using hi)
  rw [← this]
  congr 1
  omega
theorem Seg.head {P : List St} {p : Nat} {n : St} {B : List St} (h : Seg P p (n :: B)) : P[p]? = some n := h 0 n rfl
theorem Seg.tail {P : List St} {p : Nat} {n : St} {B : List St} (h : Seg P p (n :: B)) : Seg P (p + 1) B := Seg.right (A := [n]) h
theorem stp_fork {P : List St} {s : List UInt8} {k x y a : Nat} (h : P[k]? = some (stF x y)) : Stp P s k a x a ∧ Stp P s k a y a :=
  ⟨⟨_, h, Or.inr (Or.inl ⟨rfl, Or.inl (by simp), rfl⟩)⟩, ⟨_, h, Or.inr (Or.inl ⟨rfl, Or.inr (by simp), rfl⟩)⟩⟩
theorem fork_stp {P : List St} {s : List UInt8} {k x y a k' a' : Nat} (h : P[k]? = some (stF x y)) (hs : Stp P s k a k' a') : (k' = x ∨ k' = y) ∧ a' = a := by
  obtain ⟨n, hn, hc⟩ := hs
  rw [h] at hn
  obtain rfl := Option.some.inj hn
  rcases hc with ⟨h1, _⟩ | ⟨_, h2, h3⟩ | ⟨h1, _⟩ | ⟨h1, _⟩
  · simp at h1
  · exact ⟨by simpa using h2, h3⟩
  · simp at h1
  · simp at h1
/-- What fits is come to. -/
theorem fit_path (P : List St) (s : List UInt8) : ∀ (t : Rx), t.Ok → (∀ n ∈ t.flat, 1 ≤ n.op ∧ n.op ≤ 9) → ∀ (p i j : Nat), Seg P p (t.cod p) → Fit s t i j → ∃ m, Pth P s m p i (p + (t.cod p).length) j
  | .leaf n, hk, ho, p, i, j, hS, hF => by
    have hop := ho n (by simp [Rx.flat])
    have h0 : prt n.op = 0 := hk
    have h2 : ¬ prt n.op = 2 := by omega
    have h3 : ¬ prt n.op = 1 := by omega
    rw [prt_two] at h2
    rw [prt_one] at h3
    simp only [Rx.cod] at hS ⊢
    simp only [Fit] at hF
    by_cases h1 : n.op = 1
    · rw [if_pos h1] at hF
      simp only [if_pos h1] at hS ⊢
      obtain ⟨c, hc, hh, rfl⟩ := hF
      exact ⟨1, .one ⟨_, hS.head, Or.inl ⟨rfl, by simp, rfl, c, hc, hh⟩⟩⟩
    · rw [if_neg h1] at hF
      simp only [if_neg h1] at hS ⊢
      by_cases h8 : n.op = 8
      · rw [if_pos h8] at hF
        simp only [if_pos h8] at hS ⊢
        obtain ⟨rfl, rfl⟩ := hF
        exact ⟨1, .one ⟨_, hS.head, Or.inr (Or.inr (Or.inl ⟨rfl, by simp, rfl, rfl⟩))⟩⟩
      · rw [if_neg h8] at hF
        simp only [if_neg h8] at hS ⊢
        by_cases h9 : n.op = 9
        · rw [if_pos h9] at hF
          simp only [if_pos h9] at hS ⊢
          obtain ⟨rfl, rfl⟩ := hF
          exact ⟨1, .one ⟨_, hS.head, Or.inr (Or.inr (Or.inr ⟨rfl, by simp, rfl, rfl⟩))⟩⟩
        · rw [if_neg h9] at hF
          simp only [if_neg h9] at hS ⊢
          obtain ⟨rfl, _⟩ := hF
          exact ⟨0, .nil _ _⟩
  | .one n a, hk, ho, p, i, j, hS, hF => by
    have ih := fit_path P s a hk.2 (fun m hm => ho m (by simp [Rx.flat, hm]))
    simp only [Rx.cod] at hS ⊢
    simp only [Fit] at hF
    by_cases h5 : n.op = 5
    · rw [if_pos h5] at hF
      simp only [if_pos h5] at hS ⊢
      have hA := hS.tail.left
      have hE := hS.tail.right.head
      have hf1 := hS.head
      have loop : ∀ {i j : Nat}, Str s.length (Fit s a) i j → ∃ m, Pth P s m (p + 1 + (a.cod (p + 1)).length) i (p + 1 + (a.cod (p + 1)).length + 1) j := by
        intro i j hs
        induction hs with
        | nil i _ => exact ⟨1, .one (stp_fork hE).2⟩
        | cons i k j h1 _ ih2 =>
          obtain ⟨m1, p1⟩ := ih (p + 1) i k hA h1
          obtain ⟨m2, p2⟩ := ih2
          exact ⟨1 + m1 + m2, ((Pth.one (stp_fork hE).1).trans p1).trans p2⟩
      have e : p + (stF (p + 1) (p + 1 + (a.cod (p + 1)).length + 1) :: (a.cod (p + 1) ++ [stF (p + 1) (p + 1 + (a.cod (p + 1)).length + 1)])).length = p + 1 + (a.cod (p + 1)).length + 1 := by simp; omega
      rw [e]
      cases hF with
      | nil _ _ => exact ⟨1, .one (stp_fork hf1).2⟩
      | cons _ k _ h1 h2 =>
        obtain ⟨m1, p1⟩ := ih (p + 1) i k hA h1
        obtain ⟨m2, p2⟩ := loop h2
        exact ⟨1 + m1 + m2, ((Pth.one (stp_fork hf1).1).trans p1).trans p2⟩
    · rw [if_neg h5] at hF
      simp only [if_neg h5] at hS ⊢
      by_cases h6 : n.op = 6
      · rw [if_pos h6] at hF
        simp only [if_pos h6] at hS ⊢
        have hA := hS.left
        have hE := hS.right.head
        have loop : ∀ {i j : Nat}, Str s.length (Fit s a) i j → ∃ m, Pth P s m (p + (a.cod p).length) i (p + (a.cod p).length + 1) j := by
          intro i j hs
          induction hs with
          | nil i _ => exact ⟨1, .one (stp_fork hE).2⟩
          | cons i k j h1 _ ih2 =>
            obtain ⟨m1, p1⟩ := ih p i k hA h1
            obtain ⟨m2, p2⟩ := ih2
            exact ⟨1 + m1 + m2, ((Pth.one (stp_fork hE).1).trans p1).trans p2⟩
        obtain ⟨k, h1, h2⟩ := hF
        obtain ⟨m1, p1⟩ := ih p i k hA h1
        obtain ⟨m2, p2⟩ := loop h2
        rw [show p + (a.cod p ++ [stF p (p + (a.cod p).length + 1)]).length = p + (a.cod p).length + 1 from by simp; omega]
        exact ⟨m1 + m2, p1.trans p2⟩
      · rw [if_neg h6] at hF
        simp only [if_neg h6] at hS ⊢
        have hA := hS.tail
        have hf1 := hS.head
        rw [show p + (stF (p + 1) (p + 1 + (a.cod (p + 1)).length) :: a.cod (p + 1)).length = p + 1 + (a.cod (p + 1)).length from by simp; omega]
        rcases hF with ⟨rfl, _⟩ | h1
        · exact ⟨1, .one (stp_fork hf1).2⟩
        · obtain ⟨m1, p1⟩ := ih (p + 1) i j hA h1
          exact ⟨1 + m1, (Pth.one (stp_fork hf1).1).trans p1⟩
  | .two n a b, hk, ho, p, i, j, hS, hF => by
    have iha := fit_path P s a hk.2.1 (fun m hm => ho m (by simp [Rx.flat, hm]))
    have ihb := fit_path P s b hk.2.2 (fun m hm => ho m (by simp [Rx.flat, hm]))
    simp only [Rx.cod] at hS ⊢
    simp only [Fit] at hF
    by_cases h3 : n.op = 3
    · rw [if_pos h3] at hF
      simp only [if_pos h3] at hS ⊢
      obtain ⟨k, h1, h2⟩ := hF
      obtain ⟨m1, p1⟩ := iha p i k hS.left h1
      obtain ⟨m2, p2⟩ := ihb _ k j hS.right h2
      rw [List.length_append, ← Nat.add_assoc]
      exact ⟨m1 + m2, p1.trans p2⟩
    · rw [if_neg h3] at hF
      simp only [if_neg h3] at hS ⊢
      have hf1 := hS.head
      have hA := hS.tail.left
      have hf2 := hS.tail.right.head
      have hB := hS.tail.right.tail
      generalize hq : p + 1 + (a.cod (p + 1)).length + 1 = q at *
      rw [show p + (stF (p + 1) q :: (a.cod (p + 1) ++ stF (q + (b.cod q).length) (q + (b.cod q).length) :: b.cod q)).length = q + (b.cod q).length from by simp; omega]
      rcases hF with h1 | h1
      · obtain ⟨m1, p1⟩ := iha (p + 1) i j hA h1
        exact ⟨1 + m1 + 1, ((Pth.one (stp_fork hf1).1).trans p1).trans (.one (stp_fork hf2).1)⟩
      · obtain ⟨m1, p1⟩ := ihb q i j hB h1
        exact ⟨1 + m1, (Pth.one (stp_fork hf1).2).trans p1⟩
/-- From the beginning of a part whoever comes out of it comes to the step behind it, and the part fits what was between. -/
def Out (P : List St) (s : List UInt8) (t : Rx) (p : Nat) : Prop := ∀ (n i k a : Nat), i ≤ s.length → Pth P s n p i k a → (k < p ∨ p + (t.cod p).length ≤ k) → ∃ j m, m ≤ n ∧ Fit s t i j ∧ Pth P s m (p + (t.cod p).length) j k a
theorem out_loop {P : List St} {s : List UInt8} {t : Rx} {p : Nat} (h : Out P s t p) (hF : P[p + (t.cod p).length]? = some (stF p (p + (t.cod p).length + 1))) : ∀ (N n i k a : Nat), n ≤ N → i ≤ s.length → Pth P s n p i k a → (k < p ∨ p + (t.cod p).length + 1 ≤ k) → ∃ j m, m ≤ n ∧ (∃ q, Fit s t i q ∧ Str s.length (Fit s t) q j) ∧ Pth P s m (p + (t.cod p).length + 1) j k a := by
  intro N
  induction N with
  | zero =>
    intro n i k a hn hi hp hout
    obtain ⟨j, m, hm, hf, hq⟩ := h n i k a hi hp (by omega)
    have : m = 0 := by omega
    subst this
    cases hq
    omega
  | succ N ih =>
    intro n i k a hn hi hp hout
    obtain ⟨j, m, hm, hf, hq⟩ := h n i k a hi hp (by omega)
    have hj := (fit_le s t i j hf).2
    cases hq with
    | nil => omega
    | cons m _ _ k1 a1 _ _ hs hr =>
      obtain ⟨hk, ha1⟩ := fork_stp hF hs
      rw [ha1] at hr
      rcases hk with rfl | rfl
      · obtain ⟨j2, m2, hm2, ⟨q, hq1, hq2⟩, hq3⟩ := ih m j k a (by omega) hj hr hout
        exact ⟨j2, m2, by omega, ⟨j, hf, .cons _ _ _ hq1 hq2⟩, hq3⟩
      · exact ⟨j, m, by omega, ⟨j, hf, .nil _ hj⟩, hr⟩
/-- Who comes out of a part has fitted it. -/
theorem path_fit (P : List St) (s : List UInt8) : ∀ (t : Rx), t.Ok → (∀ n ∈ t.flat, 1 ≤ n.op ∧ n.op ≤ 9) → ∀ (p : Nat), Seg P p (t.cod p) → Out P s t p
  | .leaf n, hk, ho, p, hS => by
    intro m i k a hi hp hout
    simp only [Rx.cod] at hS hout ⊢
    simp only [Fit]
    by_cases h1 : n.op = 1
    · simp only [if_pos h1] at hS hout ⊢
      cases hp with
      | nil => simp at hout; omega
      | cons m _ _ k1 a1 _ _ hs hr =>
        obtain ⟨x, hx, hc⟩ := hs
        rw [hS.head] at hx
        obtain rfl := Option.some.inj hx
        rcases hc with ⟨_, h2, h3, h4⟩ | ⟨h2, _⟩ | ⟨h2, _⟩ | ⟨h2, _⟩
        · subst h3
          obtain ⟨c, hc, hh⟩ := h4
          refine ⟨i + 1, m, by omega, ⟨c, hc, hh, rfl⟩, ?_⟩
          rw [show (k1 : Nat) = p + 1 from by simpa using h2] at hr
          simpa using hr
        · simp at h2
        · simp at h2
        · simp at h2
    · simp only [if_neg h1] at hS hout ⊢
      by_cases h8 : n.op = 8
      · simp only [if_pos h8] at hS hout ⊢
        cases hp with
        | nil => simp at hout; omega
        | cons m _ _ k1 a1 _ _ hs hr =>
          obtain ⟨x, hx, hc⟩ := hs
          rw [hS.head] at hx
          obtain rfl := Option.some.inj hx
          rcases hc with ⟨h2, _⟩ | ⟨h2, _⟩ | ⟨_, h2, h3, h4⟩ | ⟨h2, _⟩
          · simp at h2
          · simp at h2
          · subst h3
            refine ⟨a1, m, by omega, ⟨h4, h4⟩, ?_⟩
            rw [show (k1 : Nat) = p + 1 from by simpa using h2] at hr
            simpa using hr
          · simp at h2
      · simp only [if_neg h8] at hS hout ⊢
        by_cases h9 : n.op = 9
        · simp only [if_pos h9] at hS hout ⊢
          cases hp with
          | nil => simp at hout; omega
          | cons m _ _ k1 a1 _ _ hs hr =>
            obtain ⟨x, hx, hc⟩ := hs
            rw [hS.head] at hx
            obtain rfl := Option.some.inj hx
            rcases hc with ⟨h2, _⟩ | ⟨h2, _⟩ | ⟨h2, _⟩ | ⟨_, h2, h3, h4⟩
            · simp at h2
            · simp at h2
            · simp at h2
            · subst h3
              refine ⟨a1, m, by omega, ⟨h4, h4⟩, ?_⟩
              rw [show (k1 : Nat) = p + 1 from by simpa using h2] at hr
              simpa using hr
        · simp only [if_neg h9] at hS hout ⊢
          exact ⟨i, m, Nat.le_refl _, ⟨rfl, hi⟩, by simpa using hp⟩
  | .one n t, hk, ho, p, hS => by
    have ih := path_fit P s t hk.2 (fun m hm => ho m (by simp [Rx.flat, hm]))
    intro m i k a hi hp hout
    simp only [Rx.cod] at hS hout ⊢
    simp only [Fit]
    by_cases h5 : n.op = 5
    · simp only [if_pos h5] at hS hout ⊢
      have hA := hS.tail.left
      have hE := hS.tail.right.head
      have hf1 := hS.head
      have e : p + (stF (p + 1) (p + 1 + (t.cod (p + 1)).length + 1) :: (t.cod (p + 1) ++ [stF (p + 1) (p + 1 + (t.cod (p + 1)).length + 1)])).length = p + 1 + (t.cod (p + 1)).length + 1 := by simp; omega
      rw [e] at hout ⊢
      cases hp with
      | nil => omega
      | cons m _ _ k1 a1 _ _ hs hr =>
        obtain ⟨hk1, ha1⟩ := fork_stp hf1 hs
        rw [ha1] at hr
        rcases hk1 with rfl | rfl
        · obtain ⟨j, m2, hm2, ⟨q, h1, h2⟩, h3⟩ := out_loop (ih (p + 1) hA) hE m m i k a (Nat.le_refl _) hi hr (by omega)
          exact ⟨j, m2, by omega, .cons _ _ _ h1 h2, h3⟩
        · exact ⟨i, m, by omega, .nil _ hi, hr⟩
    · simp only [if_neg h5] at hS hout ⊢
      by_cases h6 : n.op = 6
      · simp only [if_pos h6] at hS hout ⊢
        have hA := hS.left
        have hE := hS.right.head
        have e : p + (t.cod p ++ [stF p (p + (t.cod p).length + 1)]).length = p + (t.cod p).length + 1 := by simp; omega
        rw [e] at hout ⊢
        obtain ⟨j, m2, hm2, h1, h3⟩ := out_loop (ih p hA) hE m m i k a (Nat.le_refl _) hi hp hout
        exact ⟨j, m2, hm2, h1, h3⟩
      · simp only [if_neg h6] at hS hout ⊢
        have hA := hS.tail
        have hf1 := hS.head
        have e : p + (stF (p + 1) (p + 1 + (t.cod (p + 1)).length) :: t.cod (p + 1)).length = p + 1 + (t.cod (p + 1)).length := by simp; omega
        rw [e] at hout ⊢
        cases hp with
        | nil => omega
        | cons m _ _ k1 a1 _ _ hs hr =>
          obtain ⟨hk1, ha1⟩ := fork_stp hf1 hs
          rw [ha1] at hr
          rcases hk1 with rfl | rfl
          · obtain ⟨j, m2, hm2, h1, h3⟩ := ih (p + 1) hA m i k a hi hr (by omega)
            exact ⟨j, m2, by omega, Or.inr h1, h3⟩
          · exact ⟨i, m, by omega, Or.inl ⟨rfl, hi⟩, hr⟩
  | .two n t u, hk, ho, p, hS => by
    have iha := path_fit P s t hk.2.1 (fun m hm => ho m (by simp [Rx.flat, hm]))
    have ihb := path_fit P s u hk.2.2 (fun m hm => ho m (by simp [Rx.flat, hm]))
    intro m i k a hi hp hout
    simp only [Rx.cod] at hS hout ⊢
    simp only [Fit]
    by_cases h3 : n.op = 3
    · simp only [if_pos h3] at hS hout ⊢
      rw [List.length_append, ← Nat.add_assoc] at hout ⊢
      obtain ⟨j1, m1, hm1, hf1, hp1⟩ := iha p hS.left m i k a hi hp (by omega)
      obtain ⟨j2, m2, hm2, hf2, hp2⟩ := ihb _ hS.right m1 j1 k a (fit_le s t i j1 hf1).2 hp1 (by omega)
      exact ⟨j2, m2, by omega, ⟨j1, hf1, hf2⟩, hp2⟩
    · simp only [if_neg h3] at hS hout ⊢
      have hf1 := hS.head
      have hA := hS.tail.left
      have hf2 := hS.tail.right.head
      have hB := hS.tail.right.tail
      generalize hq : p + 1 + (t.cod (p + 1)).length + 1 = q at *
      rw [show p + (stF (p + 1) q :: (t.cod (p + 1) ++ stF (q + (u.cod q).length) (q + (u.cod q).length) :: u.cod q)).length = q + (u.cod q).length from by simp; omega] at hout ⊢
      cases hp with
      | nil => omega
      | cons m _ _ k1 a1 _ _ hs hr =>
        obtain ⟨hk1, ha1⟩ := fork_stp hf1 hs
        rw [ha1] at hr
        rcases hk1 with rfl | rfl
        · obtain ⟨j1, m1, hm1, hfa, hp1⟩ := iha (p + 1) hA m i k a hi hr (by omega)
          cases hp1 with
          | nil => omega
          | cons m1 _ _ k2 a2 _ _ hs2 hr2 =>
            obtain ⟨hk2, ha1⟩ := fork_stp hf2 hs2
            rw [ha1] at hr2
            rcases hk2 with rfl | rfl <;> exact ⟨j1, m1, by omega, Or.inl hfa, hr2⟩
        · obtain ⟨j1, m1, hm1, hfb, hp1⟩ := ihb _ hB m i k a hi hr (by omega)
          exact ⟨j1, m1, by omega, Or.inr hfb, hp1⟩
end Go.Proofs.YtejbififfceamaaGreatDoor
