/- What a pattern fits, as sets of places: plain mathematics. Package auto: its maps: sets of steps, places and moves as keys; what a map of states holds. Package auto: what an auto keeps, in memory. -/
import Derived.Test.YtejbififfceamaaGreatDoorY03
import Derived.Test.YtejbififfceamaaGreatDoorY07
import Derived.Test.YtejbififfceamaaGreatDoorY26
import Derived.DeepKeys4
import Derived.Maps.OwnSet
import Derived.Maps.Range
namespace Go.Proofs.YtejbififfceamaaGreatDoor
set_option linter.unusedSimpArgs false
set_option linter.unusedVariables false
set_option maxRecDepth 100000
open Go.RowKit

/-- The places that stand in a relation to one. -/
noncomputable def rs (R : Nat → Nat → Prop) (i : Nat) : Nat → Bool := fun j => @decide (R i j) (Classical.propDecidable _)
theorem rs_iff {R : Nat → Nat → Prop} {i j : Nat} : rs R i j = true ↔ R i j := @decide_eq_true_iff (R i j) (Classical.propDecidable _)
/-- .. to one of some. -/
noncomputable def ov (R : Nat → Nat → Prop) (l : List Nat) : Nat → Bool := fun j => @decide (∃ k ∈ l, R k j) (Classical.propDecidable _)
theorem ov_iff {R : Nat → Nat → Prop} {l : List Nat} {j : Nat} : ov R l j = true ↔ ∃ k ∈ l, R k j := @decide_eq_true_iff (∃ k ∈ l, R k j) (Classical.propDecidable _)
noncomputable def fs (s : List UInt8) (t : Rx) (i : Nat) : Nat → Bool := rs (Fit s t) i
theorem fs_iff {s : List UInt8} {t : Rx} {i j : Nat} : fs s t i j = true ↔ Fit s t i j := rs_iff
theorem set_ext {p q : Nat → Bool} (h : ∀ j, p j = true ↔ q j = true) : p = q := by
  funext j
  have := h j
  cases hp : p j <;> cases hq : q j <;> simp_all
theorem join_iff {p q : Nat → Bool} {j : Nat} : joinP p q j = true ↔ p j = true ∨ q j = true := by simp [joinP]
theorem with_iff {p : Nat → Bool} {a j : Nat} : withP p a j = true ↔ p j = true ∨ j = a := by simp [withP]
theorem when_iff {so : Bool} {a j : Nat} : whenP so a j = true ↔ so = true ∧ j = a := by simp [whenP]
theorem ov_nil (R : Nat → Nat → Prop) : ov R [] = noP := set_ext fun j => by
  rw [ov_iff]
  simp [noP]
theorem ov_snoc (R : Nat → Nat → Prop) (l : List Nat) (x : Nat) : joinP (ov R l) (rs R x) = ov R (l ++ [x]) := set_ext fun j => by
  rw [join_iff, ov_iff, ov_iff, rs_iff]
  constructor
  · rintro (⟨k, hk, h⟩ | h)
    · exact ⟨k, by simp [hk], h⟩
    · exact ⟨x, by simp, h⟩
  · rintro ⟨k, hk, h⟩
    rw [List.mem_append, List.mem_singleton] at hk
    rcases hk with hk | rfl
    · exact Or.inl ⟨k, hk, h⟩
    · exact Or.inr h
theorem when_true (a : Nat) : whenP true a = withP noP a := set_ext fun j => by rw [when_iff, with_iff]; simp [noP]
theorem when_false (a : Nat) : whenP false a = noP := set_ext fun j => by rw [when_iff]; simp [noP]
/-- Ends, as a list. -/
theorem el_ends {s : List UInt8} {t : Rx} {i : Nat} {l : List Nat} (h : EndsR s t i l) (hs : s.length ≤ 400) : el (fs s t i) 448 = l := by
  refine rise_eq _ _ (List.Pairwise.filter _ List.pairwise_lt_range) h.1 (fun j => ?_)
  rw [el_mem, fs_iff, h.2]
  exact ⟨fun h => h.2, fun h => ⟨by have := fit_le s t i j h; omega, h⟩⟩
/-- The parts of a tree. -/
theorem fs_cat {s : List UInt8} (hs : s.length ≤ 400) (n : Nd) (a b : Rx) (i : Nat) (h3 : n.op = 3) : fs s (.two n a b) i = ov (Fit s b) (el (fs s a i) 448) := set_ext fun j => by
  rw [fs_iff, ov_iff]
  conv => lhs; unfold Fit
  rw [if_pos h3]
  constructor
  · rintro ⟨k, h1, h2⟩
    exact ⟨k, (el_mem _ _ _).2 ⟨by have := fit_le s a i k h1; omega, fs_iff.2 h1⟩, h2⟩
  · rintro ⟨k, h1, h2⟩
    exact ⟨k, fs_iff.1 ((el_mem _ _ _).1 h1).2, h2⟩
theorem fs_or {s : List UInt8} (n : Nd) (a b : Rx) (i : Nat) (h3 : ¬ n.op = 3) : fs s (.two n a b) i = joinP (fs s a i) (fs s b i) := set_ext fun j => by
  rw [fs_iff, join_iff, fs_iff, fs_iff]
  conv => lhs; unfold Fit
  rw [if_neg h3]
theorem fs_opt {s : List UInt8} (n : Nd) (a : Rx) (i : Nat) (hi : i ≤ s.length) (h5 : ¬ n.op = 5) (h6 : ¬ n.op = 6) : fs s (.one n a) i = withP (fs s a i) i := set_ext fun j => by
  rw [fs_iff, with_iff, fs_iff]
  conv => lhs; unfold Fit
  rw [if_neg h5, if_neg h6]
  constructor
  · rintro (⟨h, _⟩ | h)
    · exact Or.inr h.symm
    · exact Or.inl h
  · rintro (h | h)
    · exact Or.inr h
    · exact Or.inl ⟨h.symm, hi⟩
theorem Str.go {N : Nat} {R : Nat → Nat → Prop} (h : ∀ i j, R i j → i ≤ j ∧ j ≤ N) {i j : Nat} (hs : Str N R i j) : j = i ∨ ∃ k, i < k ∧ R i k ∧ Str N R k j := by
  induction hs with
  | nil i hi => exact Or.inl rfl
  | cons i k j h1 h2 ih =>
    rcases Nat.lt_or_ge i k with hik | hik
    · exact Or.inr ⟨k, hik, h1, h2⟩
    · have := (h i k h1).1
      obtain rfl : k = i := by omega
      exact ih
/-- Behind a place ahead. -/
def hop (s : List UInt8) (t : Rx) (i : Nat) : Nat → Nat → Prop := fun k j => i < k ∧ Fit s t k j
theorem fit_star_trans {s : List UInt8} (n : Nd) (a : Rx) (h : n.op = 5 ∨ n.op = 6) {i j k : Nat} (h1 : Fit s (.one n a) i j) (h2 : Fit s (.one n a) j k) : Fit s (.one n a) i k := by
  unfold Fit at h1 h2 ⊢
  by_cases h5 : n.op = 5
  · rw [if_pos h5] at h1 h2 ⊢
    exact h1.trans h2
  · have h6 : n.op = 6 := by omega
    rw [if_neg h5, if_pos h6] at h1 h2 ⊢
    obtain ⟨x, hx, hx'⟩ := h1
    obtain ⟨y, hy, hy'⟩ := h2
    exact ⟨x, hx, hx'.trans (.cons _ y _ hy hy')⟩
theorem fs_plus {s : List UInt8} (hs : s.length ≤ 400) (n : Nd) (a : Rx) (i : Nat) (h6 : n.op = 6) : fs s (.one n a) i = joinP (ov (hop s (.one n a) i) (el (fs s a i) 448)) (fs s a i) := set_ext fun j => by
  have h5 : ¬ n.op = 5 := by omega
  have hfit : ∀ x y, Fit s (.one n a) x y ↔ ∃ k, Fit s a x k ∧ Str s.length (Fit s a) k y := fun x y => by
    conv => lhs; unfold Fit
    rw [if_neg h5, if_pos h6]
  rw [fs_iff, join_iff, ov_iff, fs_iff, hfit]
  constructor
  · rintro ⟨k, h1, h2⟩
    have hle := fit_le s a i k h1
    rcases Str.go (fit_le s a) h2 with rfl | ⟨m, hm, h3, h4⟩
    · exact Or.inr h1
    · rcases Nat.lt_or_ge i k with hik | hik
      · exact Or.inl ⟨k, (el_mem _ _ _).2 ⟨by omega, fs_iff.2 h1⟩, hik, (hfit k j).2 ⟨m, h3, h4⟩⟩
      · obtain rfl : k = i := by omega
        have hle2 := fit_le s a k m h3
        rcases Str.go (fit_le s a) h4 with rfl | ⟨m', hm', h5', h6'⟩
        · exact Or.inr h3
        · exact Or.inl ⟨m, (el_mem _ _ _).2 ⟨by omega, fs_iff.2 h3⟩, hm, (hfit m j).2 ⟨m', h5', h6'⟩⟩
  · rintro (⟨k, h1, h2, h3⟩ | h1)
    · obtain ⟨m, h4, h5'⟩ := (hfit k j).1 h3
      exact ⟨k, fs_iff.1 ((el_mem _ _ _).1 h1).2, .cons _ m _ h4 h5'⟩
    · exact ⟨j, h1, .nil _ (fit_le s a i j h1).2⟩
theorem fs_star {s : List UInt8} (hs : s.length ≤ 400) (n : Nd) (a : Rx) (i : Nat) (hi : i ≤ s.length) (h5 : n.op = 5) : fs s (.one n a) i = withP (joinP (ov (hop s (.one n a) i) (el (fs s a i) 448)) (fs s a i)) i := set_ext fun j => by
  have hfit : ∀ x y, Fit s (.one n a) x y ↔ Str s.length (Fit s a) x y := fun x y => by
    conv => lhs; unfold Fit
    rw [if_pos h5]
  rw [fs_iff, with_iff, join_iff, ov_iff, fs_iff, hfit]
  constructor
  · intro h
    rcases Str.go (fit_le s a) h with rfl | ⟨k, hk, h1, h2⟩
    · exact Or.inr rfl
    · exact Or.inl (Or.inl ⟨k, (el_mem _ _ _).2 ⟨by have := fit_le s a i k h1; omega, fs_iff.2 h1⟩, hk, (hfit k j).2 h2⟩)
  · rintro ((⟨k, h1, h2, h3⟩ | h1) | rfl)
    · exact .cons _ k _ (fs_iff.1 ((el_mem _ _ _).1 h1).2) ((hfit k j).1 h3)
    · exact Str.one (fit_le s a) h1
    · exact .nil _ hi
/-- What follows a place that is there already is there already. -/
theorem hop_known {s : List UInt8} (n : Nd) (a : Rx) (h : n.op = 5 ∨ n.op = 6) (i : Nat) (l : List Nat) (x : Nat) (hx : ov (hop s (.one n a) i) l x = true) : ov (hop s (.one n a) i) (l ++ [x]) = ov (hop s (.one n a) i) l := set_ext fun j => by
  rw [ov_iff, ov_iff]
  constructor
  · rintro ⟨k, hk, h1, h2⟩
    rw [List.mem_append, List.mem_singleton] at hk
    rcases hk with hk | rfl
    · exact ⟨k, hk, h1, h2⟩
    · obtain ⟨m, hm, h3, h4⟩ := ov_iff.1 hx
      exact ⟨m, hm, h3, fit_star_trans n a h h4 h2⟩
  · rintro ⟨k, hk, h1⟩
    exact ⟨k, by simp [hk], h1⟩
theorem hop_back {s : List UInt8} (t : Rx) (i : Nat) (l : List Nat) (x : Nat) (hx : ¬ i < x) : ov (hop s t i) (l ++ [x]) = ov (hop s t i) l := set_ext fun j => by
  rw [ov_iff, ov_iff]
  constructor
  · rintro ⟨k, hk, h1, h2⟩
    rw [List.mem_append, List.mem_singleton] at hk
    rcases hk with hk | rfl
    · exact ⟨k, hk, h1, h2⟩
    · exact absurd h1 hx
  · rintro ⟨k, hk, h1⟩
    exact ⟨k, by simp [hk], h1⟩
theorem hop_on {s : List UInt8} (t : Rx) (i : Nat) (l : List Nat) (x : Nat) (hx : i < x) : joinP (ov (hop s t i) l) (fs s t x) = ov (hop s t i) (l ++ [x]) := by
  rw [← ov_snoc]
  congr 1
  refine set_ext fun j => ?_
  rw [fs_iff, rs_iff]
  exact ⟨fun h => ⟨hx, h⟩, fun h => h.2⟩
theorem fs_byte {s : List UInt8} (n : Nd) (i : Nat) (h1 : n.op = 1) : fs s (.leaf n) i = whenP (match s[i]? with | some c => n.c.has c.toNat | none => false) (i + 1) := set_ext fun j => by
  rw [fs_iff, when_iff]
  unfold Fit
  rw [if_pos h1]
  cases hc : s[i]? with
  | none => simp
  | some c => simp
theorem fs_begin {s : List UInt8} (n : Nd) (i : Nat) (h8 : n.op = 8) : fs s (.leaf n) i = whenP (decide (i = 0)) i := set_ext fun j => by
  rw [fs_iff, when_iff]
  unfold Fit
  rw [if_neg (by omega), if_pos h8]
  simp
  omega
theorem fs_end {s : List UInt8} (n : Nd) (i : Nat) (h9 : n.op = 9) : fs s (.leaf n) i = whenP (decide (i = s.length)) i := set_ext fun j => by
  rw [fs_iff, when_iff]
  unfold Fit
  rw [if_neg (by omega), if_neg (by omega), if_pos h9]
  simp
  omega
theorem fs_empty {s : List UInt8} (n : Nd) (i : Nat) (hi : i ≤ s.length) (h1 : ¬ n.op = 1) (h8 : ¬ n.op = 8) (h9 : ¬ n.op = 9) : fs s (.leaf n) i = whenP true i := set_ext fun j => by
  rw [fs_iff, when_iff]
  unfold Fit
  rw [if_neg h1, if_neg h8, if_neg h9]
  simp
  omega
/-- A tree is told by its nodes, whatever is behind. -/
theorem flat_pre : ∀ (t u : Rx), t.Ok → u.Ok → ∀ (q r : List Nd), t.flat ++ q = u.flat ++ r → t = u ∧ q = r
  | .leaf n, .leaf m, _, _, q, r, h => by
    simp [Rx.flat] at h
    exact ⟨by rw [h.1], h.2⟩
  | .leaf n, .one m a, ht, hu, q, r, h => by
    simp [Rx.flat] at h
    simp only [Rx.Ok] at ht hu
    rw [h.1] at ht
    omega
  | .leaf n, .two m a b, ht, hu, q, r, h => by
    simp [Rx.flat] at h
    simp only [Rx.Ok] at ht hu
    rw [h.1] at ht
    omega
  | .one n a, .leaf m, ht, hu, q, r, h => by
    simp [Rx.flat] at h
    simp only [Rx.Ok] at ht hu
    rw [h.1] at ht
    omega
  | .one n a, .one m b, ht, hu, q, r, h => by
    simp [Rx.flat] at h
    obtain ⟨h1, h2⟩ := flat_pre a b ht.2 hu.2 _ _ h.2
    exact ⟨by rw [h.1, h1], h2⟩
  | .one n a, .two m b c, ht, hu, q, r, h => by
    simp [Rx.flat] at h
    simp only [Rx.Ok] at ht hu
    rw [h.1] at ht
    omega
  | .two n a b, .leaf m, ht, hu, q, r, h => by
    simp [Rx.flat] at h
    simp only [Rx.Ok] at ht hu
    rw [h.1] at ht
    omega
  | .two n a b, .one m c, ht, hu, q, r, h => by
    simp [Rx.flat] at h
    simp only [Rx.Ok] at ht hu
    rw [h.1] at ht
    omega
  | .two n a b, .two m c d, ht, hu, q, r, h => by
    simp [Rx.flat] at h
    obtain ⟨h1, h2⟩ := flat_pre a c ht.2.1 hu.2.1 _ _ h.2
    obtain ⟨h3, h4⟩ := flat_pre b d ht.2.2 hu.2.2 _ _ h2
    exact ⟨by rw [h.1, h1, h3], h4⟩
/-- A list of things that are apart, each one of N, has at most N. -/
theorem pigeon {α : Type} (f : Nat → α) : ∀ (N : Nat) (l : List α), l.Pairwise (fun a b => a ≠ b) → (∀ k ∈ l, ∃ c, c < N ∧ k = f c) → l.length ≤ N
  | 0, [], _, _ => Nat.le_refl _
  | 0, a :: l, _, h => by obtain ⟨c, hc, _⟩ := h a (by simp); omega
  | N + 1, l, hp, h => by
    haveI : DecidableEq α := fun a b => Classical.propDecidable (a = b)
    have h1 := pigeon f N (l.filter fun a => !decide (a = f N)) (hp.filter _) (fun k hk => by
      rw [List.mem_filter] at hk
      obtain ⟨c, hc, rfl⟩ := h k hk.1
      refine ⟨c, ?_, rfl⟩
      rcases Nat.lt_or_ge c N with h' | h'
      · exact h'
      · obtain rfl : c = N := by omega
        simp at hk)
    have h2 : ∀ (l : List α), l.Pairwise (fun a b => a ≠ b) → l.length ≤ (l.filter fun a => !decide (a = f N)).length + 1 := by
      intro l
      induction l with
      | nil => intro _; simp
      | cons a l ih =>
        intro hp
        rw [List.pairwise_cons] at hp
        by_cases ha : a = f N
        · have e : l.filter (fun a => !decide (a = f N)) = l := List.filter_eq_self.2 fun b hb => by
            have := hp.1 b hb
            simp
            intro e
            exact this (ha.trans e.symm)
          rw [List.filter_cons, e]
          simp [ha]
        · rw [List.filter_cons]
          have := ih hp.2
          simp [ha]
          omega
    have := h2 l hp
    omega
end Go.Proofs.YtejbififfceamaaGreatDoor
namespace Go.Proofs.YtejbififfceamaaGreatDoor
set_option linter.unusedSimpArgs false
set_option linter.unusedVariables false
set_option maxRecDepth 100000
open Go.RowKit

def stepsL (p : Nat → Bool) : Lit := .string (keyBytes [.int .u64 (wd p 0), .int .u64 (wd p 1), .int .u64 (wd p 2), .int .u64 (wd p 3)])
def placeL (fi la : Bool) : Lit := .string (keyBytes [.bool fi, .bool la])
def moveL (c : UInt8) (fi la : Bool) : Lit := .string (keyBytes [.int .u8 (c.toNat : Int), .bool fi, .bool la])
/-- A move, as a value. -/
def mvV (c : UInt8) (fi la : Bool) : Value := .agg #[.int .u8 (c.toNat : Int), .bool fi, .bool la]
theorem auto_laid : laidOutB Tryz.prog = true := by kernel_rfl
theorem steps_row : (207 : TypeId) < Tryz.prog.types.size := of_decide_eq_true (by kernel_rfl)
theorem steps_wide : (match Tryz.prog.underlying 207 with | some (.array _ _) | some (.struct _) => true | _ => false) = true := by kernel_rfl
theorem steps_keyed : Maps.Keyed Tryz.prog 207 := Maps.Keyed.of_law (deep_law_laid auto_laid (m := 3) (by omega) steps_row (by kernel_rfl) steps_wide)
theorem place_row : (204 : TypeId) < Tryz.prog.types.size := of_decide_eq_true (by kernel_rfl)
theorem place_wide : (match Tryz.prog.underlying 204 with | some (.array _ _) | some (.struct _) => true | _ => false) = true := by kernel_rfl
theorem place_keyed : Maps.Keyed Tryz.prog 204 := Maps.Keyed.of_law (deep_law_laid auto_laid (m := 3) (by omega) place_row (by kernel_rfl) place_wide)
theorem move_row : (213 : TypeId) < Tryz.prog.types.size := of_decide_eq_true (by kernel_rfl)
theorem move_wide : (match Tryz.prog.underlying 213 with | some (.array _ _) | some (.struct _) => true | _ => false) = true := by kernel_rfl
theorem move_keyed : Maps.Keyed Tryz.prog 213 := Maps.Keyed.of_law (deep_law_laid auto_laid (m := 3) (by omega) move_row (by kernel_rfl) move_wide)
theorem typeN_pos : ∃ d, Tryz.prog.types.size = d + 3 := ⟨Tryz.prog.types.size - 3, (Nat.sub_add_cancel (show 3 ≤ Tryz.prog.types.size from of_decide_eq_true (by kernel_rfl))).symm⟩
theorem place_key (fi la : Bool) : keyOf Tryz.prog 204 (pcV fi la) = some (placeL fi la) := by
  have hk : Tryz.prog.keyType 204 = true := by kernel_rfl
  have hf : (pcV fi la).formed Tryz.prog 204 = true := by kernel_rfl
  obtain ⟨d, hd⟩ := typeN_pos
  have hc : Tryz.prog.cellsOf 204 = 2 := by kernel_rfl
  have hc1 : Tryz.prog.cellsOf 4 = 1 := by kernel_rfl
  unfold keyOf
  rw [Tryz.underlying204]
  simp only [hk, hf, Bool.and_self, if_true, hd]
  simp [pcV, placeL, Value.cells, Program.keyLits, Tryz.underlying204, Tryz.underlying4, hc, hc1]
theorem wf_u64 {x : Int} (h : okW x) : (Lit.int .u64 x).wf = true := WalkArith.wf_u64 (by unfold okW at h; omega)
theorem wf_u8 (c : UInt8) : (Lit.int .u8 (c.toNat : Int)).wf = true := WalkArith.wf_u8 (by have := c.toNat_lt; omega)
theorem steps_key (p : Nat → Bool) : keyOf Tryz.prog 207 (stV p) = some (stepsL p) := by
  have w0 := wf_u64 (wd_ok p 0)
  have w1 := wf_u64 (wd_ok p 1)
  have w2 := wf_u64 (wd_ok p 2)
  have w3 := wf_u64 (wd_ok p 3)
  unfold stV stepsL
  generalize wd p 0 = a0 at *
  generalize wd p 1 = a1 at *
  generalize wd p 2 = a2 at *
  generalize wd p 3 = a3 at *
  have hk : Tryz.prog.keyType 207 = true := by kernel_rfl
  have hf : (Value.agg #[.int .u64 a0, .int .u64 a1, .int .u64 a2, .int .u64 a3]).formed Tryz.prog 207 = true := by kernel_rfl
  obtain ⟨d, hd⟩ := typeN_pos
  have hc : Tryz.prog.cellsOf 207 = 4 := by kernel_rfl
  have hc2 : Tryz.prog.cellsOf 103 = 4 := by kernel_rfl
  have hc1 : Tryz.prog.cellsOf 102 = 1 := by kernel_rfl
  unfold keyOf
  rw [Tryz.underlying207]
  simp only [hk, hf, Bool.and_self, if_true, hd]
  simp [Value.cells, Program.keyLits, Tryz.underlying207, Tryz.underlying103, Tryz.underlying102, hc, hc1, hc2, w0, w1, w2, w3, show List.range 4 = [0, 1, 2, 3] from rfl]
theorem move_key (c : UInt8) (fi la : Bool) : keyOf Tryz.prog 213 (mvV c fi la) = some (moveL c fi la) := by
  have w0 := wf_u8 c
  unfold mvV moveL
  generalize (c.toNat : Int) = a0 at *
  have hk : Tryz.prog.keyType 213 = true := by kernel_rfl
  have hf : (Value.agg #[.int .u8 a0, .bool fi, .bool la]).formed Tryz.prog 213 = true := by kernel_rfl
  obtain ⟨d, hd⟩ := typeN_pos
  have hc : Tryz.prog.cellsOf 213 = 3 := by kernel_rfl
  have hc2 : Tryz.prog.cellsOf 204 = 2 := by kernel_rfl
  have hc1 : Tryz.prog.cellsOf 4 = 1 := by kernel_rfl
  have hc3 : Tryz.prog.cellsOf 5 = 1 := by kernel_rfl
  unfold keyOf
  rw [Tryz.underlying213]
  simp only [hk, hf, Bool.and_self, if_true, hd]
  simp [Value.cells, Program.keyLits, Tryz.underlying213, Tryz.underlying204, Tryz.underlying4, Tryz.underlying5, hc, hc1, hc2, hc3, w0]
  rw [if_pos (by intro i x; rcases (by omega : i = 0 ∨ i = 1) with rfl | rfl <;> simp)]
  rfl
theorem steps_inj {p q : Nat → Bool} (h : stepsL p = stepsL q) : wd p 0 = wd q 0 ∧ wd p 1 = wd q 1 ∧ wd p 2 = wd q 2 ∧ wd p 3 = wd q 3 := by
  have h1 := steps_key p
  have h2 := steps_key q
  rw [h] at h1
  have := steps_keyed.inj h1 h2
  unfold stV at this
  simpa using this
theorem sub_ext {ss : List St} (hl : ss.length ≤ 200) {p q : Nat → Bool} (hp : Sub ss p) (hq : Sub ss q) (h : stepsL p = stepsL q) : p = q := by
  obtain ⟨h0, h1, h2, h3⟩ := steps_inj h
  funext j
  by_cases hj : j < 256
  · have key : ∀ i, i < 4 → wd p i = wd q i := fun i hi => by
      rcases (by omega : i = 0 ∨ i = 1 ∨ i = 2 ∨ i = 3) with rfl | rfl | rfl | rfl <;> assumption
    have a1 := wd_bit p (j / 64) (j % 64) (by omega)
    have a2 := wd_bit q (j / 64) (j % 64) (by omega)
    rw [key (j / 64) (by omega), a2, show 64 * (j / 64) + j % 64 = j by omega] at a1
    exact a1.symm
  · have n1 : ∀ r : Nat → Bool, Sub ss r → r j = false := fun r hr => by
      cases hrj : r j with
      | false => rfl
      | true =>
        have := hr j hrj
        omega
    rw [n1 p hp, n1 q hq]
theorem place_inj {fi la fi' la' : Bool} (h : placeL fi la = placeL fi' la') : fi = fi' ∧ la = la' := by
  have h1 := place_key fi la
  have h2 := place_key fi' la'
  rw [h] at h1
  have := place_keyed.inj h1 h2
  simpa [pcV] using this
theorem move_inj {c c' : UInt8} {fi la fi' la' : Bool} (h : moveL c fi la = moveL c' fi' la') : c = c' ∧ fi = fi' ∧ la = la' := by
  have h1 := move_key c fi la
  have h2 := move_key c' fi' la'
  rw [h] at h1
  have := move_keyed.inj h1 h2
  unfold mvV at this
  simp at this
  exact ⟨UInt8.toNat_inj.1 (by omega), this.2.1, this.2.2⟩
/-- How an element of a map reads: as itself. -/
def asIs (v : Value) : Option (DataW Value × List MemPlace) := some (.held v, [])
/-- The map in block M, of k keys of type kt, leads at a key to a block only if ok. -/
def Km (w : World) (kt : TypeId) (M k : Nat) (ok : Lit → Nat → Prop) : Prop :=
  ∃ D : DataW Value, w.ownsMap Tryz.prog kt asIs M (Maps.size D) D ∧ Maps.size D = k ∧ ∀ kl, Maps.has D kl = true → ∃ b, ok kl b ∧ ∀ z, D.atKey kl z = .held (.pointer (some ⟨b, 0, none⟩))
theorem Km.made (w : World) (kt : TypeId) (ok : Lit → Nat → Prop) : Km (w.alloc (.map #[] 0)) kt w.heap.size 0 ok :=
  ⟨.map [], World.ownsMap_made w _ _ _, rfl, fun kl h => by simp [Maps.has] at h⟩
theorem Km.lt {w : World} {kt : TypeId} {M k : Nat} {ok : Lit → Nat → Prop} (h : Km w kt M k ok) : M < w.heap.size := by
  obtain ⟨D, h, _⟩ := h
  exact h.lt
theorem Km.kept {w w' : World} {kt : TypeId} {M k : Nat} {ok : Lit → Nat → Prop} {row : Option Nat} (h : Km w kt M k ok) (hg : w.grownBy w' row) (hne : some M ≠ row) : Km w' kt M k ok := by
  obtain ⟨D, h, hk⟩ := h
  exact ⟨D, h.kept hg hne, hk⟩
theorem Km.below {w w' : World} {kt : TypeId} {M k : Nat} {ok : Lit → Nat → Prop} (h : Km w kt M k ok) (hb : Below w.heap.size w w') : Km w' kt M k ok := h.kept (gr_below hb none) (by simp)
theorem Km.mono {w : World} {kt : TypeId} {M k : Nat} {ok ok' : Lit → Nat → Prop} (h : Km w kt M k ok) (hm : ∀ l b, ok l b → ok' l b) : Km w kt M k ok' := by
  obtain ⟨D, h, hs, hk⟩ := h
  exact ⟨D, h, hs, fun kl hh => by obtain ⟨b, h1, h2⟩ := hk kl hh; exact ⟨b, hm _ _ h1, h2⟩⟩
theorem Km.heap {w : World} {kt : TypeId} {M k : Nat} {ok : Lit → Nat → Prop} (h : Km w kt M k ok) : ∃ es clock, w.heap[M]? = some (.map es clock) := by
  obtain ⟨D, ⟨es, clock, hb, _⟩, _⟩ := h
  exact ⟨es, clock, hb⟩
theorem zero_state (w : World) : (zeroValue 201).run Tryz.prog w = .ok (.pointer none) w := by kernel_rfl
/-- What is looked up: a block, or none: then the key is not there. -/
theorem Km.look {w : World} {kt mt : TypeId} {M k : Nat} {ok : Lit → Nat → Prop} (h : Km w kt M k ok) (K : Maps.Keyed Tryz.prog kt) (hu : Tryz.prog.underlying mt = some (.map kt 201)) {key : Value} {kl : Lit} (hkey : keyOf Tryz.prog kt key = some kl) :
    (∃ b, ok kl b ∧ ∀ w' : World, w'.heap[M]? = w.heap[M]? → (Instr.lookup mt (.map (some M)) key false).run Tryz.prog w' = .ok (.pointer (some ⟨b, 0, none⟩)) w') ∨
    ((∀ w' : World, w'.heap[M]? = w.heap[M]? → (Instr.lookup mt (.map (some M)) key false).run Tryz.prog w' = .ok (.pointer none) w') ∧
      (k < maxLen → ∀ (w0 : World) (b : Nat) (ok' : Lit → Nat → Prop), w0.heap[M]? = w.heap[M]? → (∀ l c, ok l c → ok' l c) → ok' kl b → ∃ w', (Instr.mapUpdate mt (.map (some M)) key (.pointer (some ⟨b, 0, none⟩))).run Tryz.prog w0 = .ok () w' ∧ Km w' kt M (k + 1) ok' ∧ w0.grownBy w' (some M))) := by
  obtain ⟨D, h, hs, hk⟩ := h
  have hown : ∀ w' : World, w'.heap[M]? = w.heap[M]? → w'.ownsMap Tryz.prog kt asIs M (Maps.size D) D := fun w' e => by
    obtain ⟨es, clock, hb, r⟩ := h
    exact ⟨es, clock, e.trans hb, r⟩
  have hkl := K.key hkey
  cases hh : Maps.has D kl with
  | true =>
    obtain ⟨b, hx, hat⟩ := hk _ hh
    refine Or.inl ⟨b, hx, fun w' e' => ?_⟩
    obtain ⟨v, ps, hrun, hv⟩ := (hown w' e').lookup K hu (zero_state w') (zd := .held _) (zp := []) rfl hkey
    rw [hat] at hv
    simp [asIs] at hv
    rw [hv.1] at hrun
    exact hrun
  | false =>
    refine Or.inr ⟨fun w' e' => ?_, fun hlt w0 b ok' e0 hm hb => ?_⟩
    · obtain ⟨v, ps, hrun, hv⟩ := (hown w' e').lookup K hu (zero_state w') (zd := .held _) (zp := []) rfl hkey
      rw [Maps.atKey_of_not_has hh] at hv
      simp [asIs] at hv
      rw [hv.1] at hrun
      exact hrun
    · have h0 := hown w0 e0
      obtain ⟨w', hrun, hown', hg⟩ := h0.update K hu (by omega) hkey (val := .pointer (some ⟨b, 0, none⟩)) (d := .held (.pointer (some ⟨b, 0, none⟩))) (ps := []) rfl
      have hsz : Maps.size (D.put kl (.held (.pointer (some ⟨b, 0, none⟩)))) = k + 1 := by
        rw [Maps.size_put (h0.tidy K), hh, hs]
        rfl
      refine ⟨w', hrun, ⟨D.put kl (.held (.pointer (some ⟨b, 0, none⟩))), ?_, hsz, fun kl' hh' => ?_⟩, hg⟩
      · rw [hsz, ← hs]
        exact hown'
      · by_cases e : kl' = kl
        · subst e
          exact ⟨b, hb, fun z => Maps.atKey_put_same h0.isMap hkl _ _⟩
        · rw [Maps.has_put_other e] at hh'
          obtain ⟨c, h4, h5⟩ := hk kl' hh'
          exact ⟨c, hm _ _ h4, fun z => by rw [Maps.atKey_put_other e]; exact h5 z⟩
/-- How many keys there are, where they are of so many. -/
theorem Km.small {w : World} {kt : TypeId} {M k : Nat} {ok : Lit → Nat → Prop} (h : Km w kt M k ok) (K : Maps.Keyed Tryz.prog kt) (N : Nat) (f : Nat → Lit) (hf : ∀ kl b, ok kl b → ∃ c, c < N ∧ kl = f c) : k ≤ N := by
  obtain ⟨D, h, hs, hk⟩ := h
  obtain ⟨es, rfl, hp, hl⟩ := h.entries K
  have h1 : (es.map (·.1)).length ≤ N := by
    refine pigeon f N _ (List.pairwise_map.2 hp) (fun kl hm => ?_)
    obtain ⟨q, hq, rfl⟩ := List.mem_map.1 hm
    have : Maps.has (DataW.map es) q.1 = true := by
      rw [Maps.has_eq, List.any_eq_true]
      exact ⟨q, hq, WideAt.sameKey_self (hl q hq)⟩
    obtain ⟨b, hb, _⟩ := hk _ this
    exact hf _ _ hb
  rw [← hs]
  simpa [Maps.size] using h1
/-- How many there are, told. -/
theorem Km.len {w : World} {kt mt : TypeId} {M k : Nat} {ok : Lit → Nat → Prop} (h : Km w kt M k ok) (hu : Tryz.prog.underlying mt = some (.map kt 201)) (ty : TypeId) : ∀ w' : World, w'.heap[M]? = w.heap[M]? → (Builtin.len_ #[mt] ty #[.map (some M)]).run Tryz.prog w' = .ok (.int .i64 (k : Int)) w' := fun w' e => by
  obtain ⟨D, h, hs, _⟩ := h
  have hown : w'.ownsMap Tryz.prog kt asIs M (Maps.size D) D := by
    obtain ⟨es, clock, hb, r⟩ := h
    exact ⟨es, clock, e.trans hb, r⟩
  have := hown.len hu ty
  rw [hs] at this
  exact this
end Go.Proofs.YtejbififfceamaaGreatDoor
namespace Go.Proofs.YtejbififfceamaaGreatDoor
set_option linter.unusedSimpArgs false
set_option linter.unusedVariables false
set_option maxRecDepth 100000
open Go.RowKit
/-- An auto's program, where it lies, and from where on all that it keeps lies (E: what is there besides, and none of its). -/
structure Ax where
  ss : List St
  ab : Nat
  b : Nat
  cap : Nat
  B : Nat
  E : Nat → Prop
structure Ax.Good (c : Ax) : Prop where
  fault : stepsF c.ss = 0
  ok : SsOk c.ss
  tab : 2 < c.B
abbrev Ax.u (c : Ax) : Value := .pointer (some ⟨c.ab, 0, none⟩)
/-- A state's cells. -/
noncomputable abbrev stC (ss : List St) (p : Nat → Bool) (M : Nat) : Obj := .cells #[.int .u64 (wd p 0), .int .u64 (wd p 1), .int .u64 (wd p 2), .int .u64 (wd p 3), .bool (donF ss p), .map (some M)] 210 (0, 0)
abbrev auC (c : Ax) (K Mb : Nat) : Obj := .cells #[.slice (some ⟨c.b, 0, none⟩) c.ss.length c.cap, .map (some K), .map (some Mb)] 166 (0, 0)
abbrev okK (g : Nat → Option (Nat → Bool)) : Lit → Nat → Prop := fun kl σ => ∃ p, kl = stepsL p ∧ g σ = some p
noncomputable abbrev okB (ss : List St) (g : Nat → Option (Nat → Bool)) : Lit → Nat → Prop := fun kl σ => ∃ fi la, kl = placeL fi la ∧ g σ = some (begS ss fi la)
noncomputable abbrev okM (ss : List St) (g : Nat → Option (Nat → Bool)) (p : Nat → Bool) : Lit → Nat → Prop := fun kl σ => ∃ (x : UInt8) (fi la : Bool), kl = moveL x fi la ∧ g σ = some (nxtS ss p x.toNat fi la)
/-- g: which blocks are states, and of which set; m: where the map of each lies; K, Mb: the auto's two maps; k: how many sets it keeps. -/
structure AuI (c : Ax) (g : Nat → Option (Nat → Bool)) (m : Nat → Nat) (K Mb k : Nat) (w : World) : Prop where
  au : w.heap[c.ab]? = some (auC c K Mb)
  steps : SsAt w c.b 0 c.ss
  blt : c.b < w.heap.size
  kn : Km w 207 K k (okK g)
  k100 : k ≤ 100
  bg : ∃ kb, Km w 204 Mb kb (okB c.ss g)
  sub : ∀ σ p, g σ = some p → Sub c.ss p
  st : ∀ σ p, g σ = some p → w.heap[σ]? = some (stC c.ss p (m σ))
  mv : ∀ σ p, g σ = some p → ∃ kn, Km w 213 (m σ) kn (okM c.ss g p)
  inj : ∀ σ τ p q, g σ = some p → g τ = some q → m σ = m τ → σ = τ
  mK : ∀ σ p, g σ = some p → m σ ≠ K ∧ m σ ≠ Mb
  KM : K ≠ Mb
  lo : c.B ≤ K ∧ c.B ≤ Mb ∧ c.B ≤ c.ab ∧ c.B ≤ c.b
  loS : ∀ σ p, g σ = some p → c.B ≤ σ ∧ c.B ≤ m σ ∧ σ ≠ c.ab
  out : ∀ k, c.E k → k < w.heap.size ∧ k ≠ K ∧ k ≠ Mb ∧ k ≠ c.ab
  outS : ∀ σ p, g σ = some p → ¬ c.E (m σ)
/-- The states stay states. -/
def Gle (g g' : Nat → Option (Nat → Bool)) : Prop := ∀ σ p, g σ = some p → g' σ = some p
theorem Gle.refl (g : Nat → Option (Nat → Bool)) : Gle g g := fun _ _ h => h
theorem Gle.trans {g g' g'' : Nat → Option (Nat → Bool)} (h : Gle g g') (h' : Gle g' g'') : Gle g g'' := fun σ p e => h' σ p (h σ p e)
theorem AuI.below {c : Ax} {g : Nat → Option (Nat → Bool)} {m : Nat → Nat} {K Mb k : Nat} {w w' : World} (h : AuI c g m K Mb k w) (hb : Below w.heap.size w w') : AuI c g m K Mb k w' where
  au := (hb.block _ (heap_lt h.au)).trans h.au
  steps := h.steps.below hb h.blt
  blt := Nat.lt_of_lt_of_le h.blt hb.size
  kn := h.kn.below hb
  k100 := h.k100
  bg := by obtain ⟨kb, h1⟩ := h.bg; exact ⟨kb, h1.below hb⟩
  sub := h.sub
  st := fun σ p e => (hb.block _ (heap_lt (h.st σ p e))).trans (h.st σ p e)
  mv := fun σ p e => by obtain ⟨kn, h1⟩ := h.mv σ p e; exact ⟨kn, h1.below hb⟩
  inj := h.inj
  mK := h.mK
  KM := h.KM
  lo := h.lo
  loS := h.loS
  out := fun k e => ⟨Nat.lt_of_lt_of_le (h.out k e).1 hb.size, (h.out k e).2⟩
  outS := h.outS
/-- Behind a store into a map, cells lie as they lay. -/
theorem cells_map {w w' : World} {M k : Nat} {es : Array MapEntry} {cl : Nat} (hM : w.heap[M]? = some (.map es cl)) (hg : w.grownBy w' (some M)) {o : Obj} (ho : w.heap[k]? = some o) (hc : o.isCells = true) : w'.heap[k]? = some o := by
  refine (hg.block k (heap_lt ho) (fun e => ?_)).trans ho
  injection e with e
  subst e
  rw [hM] at ho
  obtain rfl := Option.some.inj ho
  cases hc
theorem ssAt_map {w w' : World} {M b off : Nat} {ss : List St} (h : SsAt w b off ss) (hg : w.grownBy w' (some M)) (hlt : b < w.heap.size) (hne : b ≠ M) : SsAt w' b off ss := h.grown hg hlt (by intro e; injection e with e; exact hne e)
theorem ssAt_not_map {w : World} {M b off : Nat} {ss : List St} {es : Array MapEntry} {cl : Nat} (h : SsAt w b off ss) (h0 : 0 < ss.length) (hM : w.heap[M]? = some (.map es cl)) : b ≠ M := fun e => by
  obtain ⟨c0, _⟩ := h 0 ss[0] (List.getElem?_eq_getElem h0)
  obtain ⟨ob, h1, h2⟩ := cell_block c0
  rw [e, hM] at h1
  obtain rfl := Option.some.inj h1
  cases h2
/-- One map of the auto is written. -/
theorem AuI.turn {c : Ax} (hc : c.Good) {g : Nat → Option (Nat → Bool)} {m : Nat → Nat} {K Mb k k' M : Nat} {w w' : World} (h : AuI c g m K Mb k w) {es : Array MapEntry} {cl : Nat} (hM : w.heap[M]? = some (.map es cl)) (hg : w.grownBy w' (some M))
    (hkn : Km w' 207 K k' (okK g)) (hk' : k' ≤ 100) (hbg : ∃ kb, Km w' 204 Mb kb (okB c.ss g)) (hmv : ∀ σ p, g σ = some p → ∃ kn, Km w' 213 (m σ) kn (okM c.ss g p)) : AuI c g m K Mb k' w' where
  au := cells_map hM hg h.au rfl
  steps := ssAt_map h.steps hg h.blt (ssAt_not_map h.steps (stepsF_zero hc.fault).2.1 hM)
  blt := Nat.lt_of_lt_of_le h.blt hg.size
  kn := hkn
  k100 := hk'
  bg := hbg
  sub := h.sub
  st := fun σ p e => cells_map hM hg (h.st σ p e) rfl
  mv := hmv
  inj := h.inj
  mK := h.mK
  KM := h.KM
  lo := h.lo
  loS := h.loS
  out := fun k e => ⟨Nat.lt_of_lt_of_le (h.out k e).1 hg.size, (h.out k e).2⟩
  outS := h.outS
theorem km_other {w w' : World} {kt : TypeId} {M N k : Nat} {ok : Lit → Nat → Prop} (h : Km w kt N k ok) (hg : w.grownBy w' (some M)) (hne : N ≠ M) : Km w' kt N k ok := h.kept hg (by intro e; injection e with e; exact hne e)
theorem AuI.putK {c : Ax} (hc : c.Good) {g : Nat → Option (Nat → Bool)} {m : Nat → Nat} {K Mb k k' : Nat} {w w' : World} (h : AuI c g m K Mb k w) (hg : w.grownBy w' (some K)) (hkn : Km w' 207 K k' (okK g)) (hk' : k' ≤ 100) : AuI c g m K Mb k' w' := by
  obtain ⟨es, cl, hM⟩ := h.kn.heap
  obtain ⟨kb, h1⟩ := h.bg
  exact h.turn hc hM hg hkn hk' ⟨kb, km_other h1 hg (Ne.symm h.KM)⟩ (fun σ p e => by obtain ⟨kn, h2⟩ := h.mv σ p e; exact ⟨kn, km_other h2 hg (h.mK σ p e).1⟩)
theorem AuI.putB {c : Ax} (hc : c.Good) {g : Nat → Option (Nat → Bool)} {m : Nat → Nat} {K Mb k kb : Nat} {w w' : World} (h : AuI c g m K Mb k w) (hg : w.grownBy w' (some Mb)) (hbg : Km w' 204 Mb kb (okB c.ss g)) : AuI c g m K Mb k w' := by
  obtain ⟨kb0, h1⟩ := h.bg
  obtain ⟨es, cl, hM⟩ := h1.heap
  exact h.turn hc hM hg (km_other h.kn hg h.KM) h.k100 ⟨kb, hbg⟩ (fun σ p e => by obtain ⟨kn, h2⟩ := h.mv σ p e; exact ⟨kn, km_other h2 hg (h.mK σ p e).2⟩)
theorem AuI.putM {c : Ax} (hc : c.Good) {g : Nat → Option (Nat → Bool)} {m : Nat → Nat} {K Mb k kn σ : Nat} {p : Nat → Bool} {w w' : World} (h : AuI c g m K Mb k w) (hσ : g σ = some p) (hg : w.grownBy w' (some (m σ))) (hmv : Km w' 213 (m σ) kn (okM c.ss g p)) : AuI c g m K Mb k w' := by
  obtain ⟨kn0, h1⟩ := h.mv σ p hσ
  obtain ⟨es, cl, hM⟩ := h1.heap
  obtain ⟨kb, h3⟩ := h.bg
  refine h.turn hc hM hg (km_other h.kn hg (Ne.symm (h.mK σ p hσ).1)) h.k100 ⟨kb, km_other h3 hg (Ne.symm (h.mK σ p hσ).2)⟩ (fun τ q e => ?_)
  by_cases hst : τ = σ
  · subst hst
    rw [hσ] at e
    obtain rfl := Option.some.inj e
    exact ⟨kn, hmv⟩
  · obtain ⟨kn2, h2⟩ := h.mv τ q e
    exact ⟨kn2, km_other h2 hg (fun em => hst (h.inj τ σ q p e hσ em))⟩
/-- A new state. -/
def gPut (g : Nat → Option (Nat → Bool)) (σ : Nat) (p : Nat → Bool) : Nat → Option (Nat → Bool) := fun τ => if τ = σ then some p else g τ
def mPut (m : Nat → Nat) (σ M : Nat) : Nat → Nat := fun τ => if τ = σ then M else m τ
theorem gle_put {c : Ax} {g : Nat → Option (Nat → Bool)} {m : Nat → Nat} {K Mb k : Nat} {w : World} (h : AuI c g m K Mb k w) (σ : Nat) (p : Nat → Bool) (hσ : w.heap.size ≤ σ) : Gle g (gPut g σ p) := fun τ q e => by
  have := heap_lt (h.st τ q e)
  unfold gPut
  rw [if_neg (by omega)]
  exact e
theorem okK.le {g g' : Nat → Option (Nat → Bool)} (h : Gle g g') : ∀ l b, okK g l b → okK g' l b := fun l b ⟨p, h1, h2⟩ => ⟨p, h1, h _ _ h2⟩
theorem okB.le {ss : List St} {g g' : Nat → Option (Nat → Bool)} (h : Gle g g') : ∀ l b, okB ss g l b → okB ss g' l b := fun l b ⟨fi, la, h1, h2⟩ => ⟨fi, la, h1, h _ _ h2⟩
theorem okM.le {ss : List St} {p : Nat → Bool} {g g' : Nat → Option (Nat → Bool)} (h : Gle g g') : ∀ l b, okM ss g p l b → okM ss g' p l b := fun l b ⟨x, fi, la, h1, h2⟩ => ⟨x, fi, la, h1, h _ _ h2⟩
theorem AuI.grow {c : Ax} (hB : True) {g : Nat → Option (Nat → Bool)} {m : Nat → Nat} {K Mb k : Nat} {w w' : World} (h : AuI c g m K Mb k w) (hb : Below w.heap.size w w') (σ M : Nat) (hσ : w.heap.size ≤ σ) (hM : w.heap.size ≤ M) (p : Nat → Bool) (hp : Sub c.ss p) (hs : w'.heap[σ]? = some (stC c.ss p M)) (hm : w'.heap[M]? = some (.map #[] 0)) (hkm : Km w' 213 M 0 (fun _ _ => False)) : AuI c (gPut g σ p) (mPut m σ M) K Mb k w' := by
  have hle := gle_put h σ p hσ
  have h' := h.below hb
  have hlo : c.B ≤ w.heap.size := by have := heap_lt h.au; have := h.lo; omega
  have old : ∀ τ q, gPut g σ p τ = some q → (τ = σ ∧ q = p) ∨ (τ ≠ σ ∧ g τ = some q) := fun τ q e => by
    unfold gPut at e
    by_cases ht : τ = σ
    · rw [if_pos ht] at e
      exact Or.inl ⟨ht, (Option.some.inj e).symm⟩
    · rw [if_neg ht] at e
      exact Or.inr ⟨ht, e⟩
  have mS : mPut m σ M σ = M := by unfold mPut; rw [if_pos rfl]
  have mO : ∀ τ, τ ≠ σ → mPut m σ M τ = m τ := fun τ ht => by unfold mPut; rw [if_neg ht]
  have mlt : ∀ τ q, g τ = some q → m τ < w.heap.size := fun τ q e => by obtain ⟨kn, h1⟩ := h.mv τ q e; exact h1.lt
  obtain ⟨kb, hbg⟩ := h'.bg
  refine ⟨h'.au, h'.steps, h'.blt, h'.kn.mono (okK.le hle), h'.k100, ⟨kb, hbg.mono (okB.le hle)⟩, fun τ q e => ?_, fun τ q e => ?_, fun τ q e => ?_, fun τ υ q r e f hm => ?_, fun τ q e => ?_, h'.KM, h'.lo, fun τ q e => ?_, h'.out, fun τ q e => ?_⟩
  · rcases old τ q e with ⟨rfl, rfl⟩ | ⟨_, e'⟩
    · exact hp
    · exact h.sub τ q e'
  · rcases old τ q e with ⟨rfl, rfl⟩ | ⟨ht, e'⟩
    · rw [mS]; exact hs
    · rw [mO τ ht]; exact h'.st τ q e'
  · rcases old τ q e with ⟨rfl, rfl⟩ | ⟨ht, e'⟩
    · rw [mS]; exact ⟨0, hkm.mono (fun _ _ h => h.elim)⟩
    · rw [mO τ ht]
      obtain ⟨kn, h1⟩ := h'.mv τ q e'
      exact ⟨kn, h1.mono (okM.le hle)⟩
  · rcases old τ q e with ⟨rfl, rfl⟩ | ⟨ht, e'⟩ <;> rcases old υ r f with ⟨rfl, rfl⟩ | ⟨hu, f'⟩
    · rfl
    · rw [mS, mO υ hu] at hm
      have := mlt υ r f'
      omega
    · rw [mO τ ht, mS] at hm
      have := mlt τ q e'
      omega
    · rw [mO τ ht, mO υ hu] at hm
      exact h.inj τ υ q r e' f' hm
  · have hk := h.kn.lt
    obtain ⟨_, hb0⟩ := h.bg
    have hb1 := hb0.lt
    rcases old τ q e with ⟨rfl, rfl⟩ | ⟨ht, e'⟩
    · rw [mS]; constructor <;> omega
    · rw [mO τ ht]; exact h.mK τ q e'
  · rcases old τ q e with ⟨rfl, rfl⟩ | ⟨ht, e'⟩
    · rw [mS]
      have := heap_lt h.au
      refine ⟨?_, ?_, ?_⟩ <;> omega
    · rw [mO τ ht]; exact h.loS τ q e'
  · rcases old τ q e with ⟨rfl, rfl⟩ | ⟨ht, e'⟩
    · rw [mS]
      intro he
      have := (h.out _ he).1
      omega
    · rw [mO τ ht]; exact h.outS τ q e'
/-- What it keeps lies from B on. -/
theorem AuI.size {c : Ax} {g : Nat → Option (Nat → Bool)} {m : Nat → Nat} {K Mb k : Nat} {w : World} (h : AuI c g m K Mb k w) : c.B < w.heap.size := by
  have := heap_lt h.au
  have := h.lo
  omega
/-- All cells but the auto's own lie as they lay, and what is there besides. -/
structure Kc (c : Ax) (w w' : World) : Prop where
  size : w.heap.size ≤ w'.heap.size
  same : ∀ k o, w.heap[k]? = some o → o.isCells = true → k ≠ c.ab → w'.heap[k]? = some o
  out : ∀ k, c.E k → k < w.heap.size → w'.heap[k]? = w.heap[k]?
theorem Kc.trans {x : Ax} {a b c : World} (h : Kc x a b) (h' : Kc x b c) : Kc x a c := ⟨Nat.le_trans h.size h'.size, fun k o hk ho hn => h'.same k o (h.same k o hk ho hn) ho hn, fun k e hk => (h'.out k e (Nat.lt_of_lt_of_le hk h.size)).trans (h.out k e hk)⟩
theorem Kc.below {c : Ax} {w w' : World} (h : Below w.heap.size w w') : Kc c w w' := ⟨h.size, fun k o hk _ _ => (h.block k (heap_lt hk)).trans hk, fun k _ hk => h.block k hk⟩
theorem Kc.own {c : Ax} {w w' : World} (h : w.grownBy w' (some c.ab)) (he : ¬ c.E c.ab) : Kc c w w' := ⟨h.size, fun k o hk _ hn => (h.block k (heap_lt hk) (by intro e; injection e with e; exact hn e)).trans hk, fun k e hk => h.block k hk (by intro e2; injection e2 with e2; subst e2; exact he e)⟩
theorem Kc.map {c : Ax} {M : Nat} {w w' : World} {es : Array MapEntry} {cl : Nat} (hM : w.heap[M]? = some (.map es cl)) (h : w.grownBy w' (some M)) (he : ¬ c.E M) : Kc c w w' := ⟨h.size, fun k o hk ho _ => cells_map hM h hk ho, fun k e hk => h.block k hk (by intro e2; injection e2 with e2; subst e2; exact he e)⟩
theorem AuI.outs {c : Ax} {g : Nat → Option (Nat → Bool)} {m : Nat → Nat} {K Mb k : Nat} {w : World} (h : AuI c g m K Mb k w) : ¬ c.E K ∧ ¬ c.E Mb ∧ ¬ c.E c.ab := ⟨fun e => (h.out _ e).2.1 rfl, fun e => (h.out _ e).2.2.1 rfl, fun e => (h.out _ e).2.2.2 rfl⟩
/-- A call's answer: a state of the set p. -/
def AuP (c : Ax) (g : Nat → Option (Nat → Bool)) (w : World) (p : Nat → Bool) (e : Ending) (w' : World) : Prop := ∃ g' m' K' Mb' k' σ, e = .returned (.pointer (some ⟨σ, 0, none⟩)) ∧ AuI c g' m' K' Mb' k' w' ∧ Gle g g' ∧ g' σ = some p ∧ Below c.B w w' ∧ Kc c w w'
end Go.Proofs.YtejbififfceamaaGreatDoor
