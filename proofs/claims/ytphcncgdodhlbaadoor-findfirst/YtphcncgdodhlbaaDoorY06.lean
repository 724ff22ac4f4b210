/- What a pattern fits, as sets of places: plain mathematics. Package mean: sets of places: with, has, joined, when. What is known, in a map: spots and sets of places. A loop over a method's value, whose receiver stands ahead of yield; the body always goes on, and may call what writes a map that lay ahead of the loop. Package mean: a set of places hands on its places, rising. -/
import Derived.Test.YtphcncgdodhlbaaDoorY03
import Derived.Test.YtphcncgdodhlbaaDoorY04
import Derived.Test.YtphcncgdodhlbaaDoorY05
import Derived.DeepKeys4
import Derived.Maps.OwnSet
import Derived.Maps.Range
import Derived.RangeFuncNested
import Derived.RangeFuncBound
import Derived.RangeFuncCalls
import Derived.RangeFuncLeaves
import Derived.Shelf.Abstract
import Derived.Shelf.RegionOpen
import Derived.WalkKit
import Derived.OwnWalkIn
import Derived.TacticsInMore
import Derived.LoopNIn
import Derived.LoopIn
namespace Go.Proofs.YtphcncgdodhlbaaDoor
set_option linter.unusedSimpArgs false
set_option linter.unusedVariables false
set_option maxRecDepth 100000
open Go.RowKit

/-- The places that stand in a relation to one. -/
noncomputable def rs (R : Nat → Nat → Prop) (i : Nat) : Nat → Bool := fun j => @decide (R i j) (Classical.propDecidable _)
theorem rs_iff {R : Nat → Nat → Prop} {i j : Nat} : rs R i j = true ↔ R i j := @decide_eq_true_iff (R i j) (Classical.propDecidable _)
/-- .. to one of some. -/
noncomputable def ov (R : Nat → Nat → Prop) (l : List Nat) : Nat → Bool := fun j => @decide (∃ k ∈ l, R k j) (Classical.propDecidable _)
theorem ov_iff {R : Nat → Nat → Prop} {l : List Nat} {j : Nat} : ov R l j = true ↔ ∃ k ∈ l, R k j := @decide_eq_true_iff (∃ k ∈ l, R k j) (Classical.propDecidable _)
noncomputable def fs (s : List UInt8) (t : Rx) (i : Nat) : Nat → Bool := rs (Fit s t) i
theorem fs_iff {s : List UInt8} {t : Rx} {i j : Nat} : fs s t i j = true ↔ Fit s t i j := rs_iff
theorem set_ext {p q : Nat → Bool} (h : ∀ j, p j = true ↔ q j = true) : p = q := by
  funext j
  have := h j
  cases hp : p j <;> cases hq : q j <;> simp_all
theorem join_iff {p q : Nat → Bool} {j : Nat} : joinP p q j = true ↔ p j = true ∨ q j = true := by simp [joinP]
theorem with_iff {p : Nat → Bool} {a j : Nat} : withP p a j = true ↔ p j = true ∨ j = a := by simp [withP]
theorem when_iff {so : Bool} {a j : Nat} : whenP so a j = true ↔ so = true ∧ j = a := by simp [whenP]
theorem ov_nil (R : Nat → Nat → Prop) : ov R [] = noP := set_ext fun j => by
  rw [ov_iff]
  simp [noP]
theorem ov_snoc (R : Nat → Nat → Prop) (l : List Nat) (x : Nat) : joinP (ov R l) (rs R x) = ov R (l ++ [x]) := set_ext fun j => by
  rw [join_iff, ov_iff, ov_iff, rs_iff]
  constructor
  · rintro (⟨k, hk, h⟩ | h)
    · exact ⟨k, by simp [hk], h⟩
    · exact ⟨x, by simp, h⟩
  · rintro ⟨k, hk, h⟩
    rw [List.mem_append, List.mem_singleton] at hk
    rcases hk with hk | rfl
    · exact Or.inl ⟨k, hk, h⟩
    · exact Or.inr h
theorem when_true (a : Nat) : whenP true a = withP noP a := set_ext fun j => by rw [when_iff, with_iff]; simp [noP]
theorem when_false (a : Nat) : whenP false a = noP := set_ext fun j => by rw [when_iff]; simp [noP]
/-- Ends, as a list. -/
theorem el_ends {s : List UInt8} {t : Rx} {i : Nat} {l : List Nat} (h : EndsR s t i l) (hs : s.length ≤ 400) : el (fs s t i) 448 = l := by
  refine rise_eq _ _ (List.Pairwise.filter _ List.pairwise_lt_range) h.1 (fun j => ?_)
  rw [el_mem, fs_iff, h.2]
  exact ⟨fun h => h.2, fun h => ⟨by have := fit_le s t i j h; omega, h⟩⟩
/-- The parts of a tree. -/
theorem fs_cat {s : List UInt8} (hs : s.length ≤ 400) (n : Nd) (a b : Rx) (i : Nat) (h3 : n.op = 3) : fs s (.two n a b) i = ov (Fit s b) (el (fs s a i) 448) := set_ext fun j => by
  rw [fs_iff, ov_iff]
  conv => lhs; unfold Fit
  rw [if_pos h3]
  constructor
  · rintro ⟨k, h1, h2⟩
    exact ⟨k, (el_mem _ _ _).2 ⟨by have := fit_le s a i k h1; omega, fs_iff.2 h1⟩, h2⟩
  · rintro ⟨k, h1, h2⟩
    exact ⟨k, fs_iff.1 ((el_mem _ _ _).1 h1).2, h2⟩
theorem fs_or {s : List UInt8} (n : Nd) (a b : Rx) (i : Nat) (h3 : ¬ n.op = 3) : fs s (.two n a b) i = joinP (fs s a i) (fs s b i) := set_ext fun j => by
  rw [fs_iff, join_iff, fs_iff, fs_iff]
  conv => lhs; unfold Fit
  rw [if_neg h3]
theorem fs_opt {s : List UInt8} (n : Nd) (a : Rx) (i : Nat) (hi : i ≤ s.length) (h5 : ¬ n.op = 5) (h6 : ¬ n.op = 6) : fs s (.one n a) i = withP (fs s a i) i := set_ext fun j => by
  rw [fs_iff, with_iff, fs_iff]
  conv => lhs; unfold Fit
  rw [if_neg h5, if_neg h6]
  constructor
  · rintro (⟨h, _⟩ | h)
    · exact Or.inr h.symm
    · exact Or.inl h
  · rintro (h | h)
    · exact Or.inr h
    · exact Or.inl ⟨h.symm, hi⟩
theorem Str.go {N : Nat} {R : Nat → Nat → Prop} (h : ∀ i j, R i j → i ≤ j ∧ j ≤ N) {i j : Nat} (hs : Str N R i j) : j = i ∨ ∃ k, i < k ∧ R i k ∧ Str N R k j := by
  induction hs with
  | nil i hi => exact Or.inl rfl
  | cons i k j h1 h2 ih =>
    rcases Nat.lt_or_ge i k with hik | hik
    · exact Or.inr ⟨k, hik, h1, h2⟩
    · have := (h i k h1).1
      obtain rfl : k = i := by omega
      exact ih
/-- Behind a place ahead. -/
def hop (s : List UInt8) (t : Rx) (i : Nat) : Nat → Nat → Prop := fun k j => i < k ∧ Fit s t k j
theorem fit_star_trans {s : List UInt8} (n : Nd) (a : Rx) (h : n.op = 5 ∨ n.op = 6) {i j k : Nat} (h1 : Fit s (.one n a) i j) (h2 : Fit s (.one n a) j k) : Fit s (.one n a) i k := by
  unfold Fit at h1 h2 ⊢
  by_cases h5 : n.op = 5
  · rw [if_pos h5] at h1 h2 ⊢
    exact h1.trans h2
  · have h6 : n.op = 6 := by omega
    rw [if_neg h5, if_pos h6] at h1 h2 ⊢
    obtain ⟨x, hx, hx'⟩ := h1
    obtain ⟨y, hy, hy'⟩ := h2
    exact ⟨x, hx, hx'.trans (.cons _ y _ hy hy')⟩
theorem fs_plus {s : List UInt8} (hs : s.length ≤ 400) (n : Nd) (a : Rx) (i : Nat) (h6 : n.op = 6) : fs s (.one n a) i = joinP (ov (hop s (.one n a) i) (el (fs s a i) 448)) (fs s a i) := set_ext fun j => by
  have h5 : ¬ n.op = 5 := by omega
  have hfit : ∀ x y, Fit s (.one n a) x y ↔ ∃ k, Fit s a x k ∧ Str s.length (Fit s a) k y := fun x y => by
    conv => lhs; unfold Fit
    rw [if_neg h5, if_pos h6]
  rw [fs_iff, join_iff, ov_iff, fs_iff, hfit]
  constructor
  · rintro ⟨k, h1, h2⟩
    have hle := fit_le s a i k h1
    rcases Str.go (fit_le s a) h2 with rfl | ⟨m, hm, h3, h4⟩
    · exact Or.inr h1
    · rcases Nat.lt_or_ge i k with hik | hik
      · exact Or.inl ⟨k, (el_mem _ _ _).2 ⟨by omega, fs_iff.2 h1⟩, hik, (hfit k j).2 ⟨m, h3, h4⟩⟩
      · obtain rfl : k = i := by omega
        have hle2 := fit_le s a k m h3
        rcases Str.go (fit_le s a) h4 with rfl | ⟨m', hm', h5', h6'⟩
        · exact Or.inr h3
        · exact Or.inl ⟨m, (el_mem _ _ _).2 ⟨by omega, fs_iff.2 h3⟩, hm, (hfit m j).2 ⟨m', h5', h6'⟩⟩
  · rintro (⟨k, h1, h2, h3⟩ | h1)
    · obtain ⟨m, h4, h5'⟩ := (hfit k j).1 h3
      exact ⟨k, fs_iff.1 ((el_mem _ _ _).1 h1).2, .cons _ m _ h4 h5'⟩
    · exact ⟨j, h1, .nil _ (fit_le s a i j h1).2⟩
theorem fs_star {s : List UInt8} (hs : s.length ≤ 400) (n : Nd) (a : Rx) (i : Nat) (hi : i ≤ s.length) (h5 : n.op = 5) : fs s (.one n a) i = withP (joinP (ov (hop s (.one n a) i) (el (fs s a i) 448)) (fs s a i)) i := set_ext fun j => by
  have hfit : ∀ x y, Fit s (.one n a) x y ↔ Str s.length (Fit s a) x y := fun x y => by
    conv => lhs; unfold Fit
    rw [if_pos h5]
  rw [fs_iff, with_iff, join_iff, ov_iff, fs_iff, hfit]
  constructor
  · intro h
    rcases Str.go (fit_le s a) h with rfl | ⟨k, hk, h1, h2⟩
    · exact Or.inr rfl
    · exact Or.inl (Or.inl ⟨k, (el_mem _ _ _).2 ⟨by have := fit_le s a i k h1; omega, fs_iff.2 h1⟩, hk, (hfit k j).2 h2⟩)
  · rintro ((⟨k, h1, h2, h3⟩ | h1) | rfl)
    · exact .cons _ k _ (fs_iff.1 ((el_mem _ _ _).1 h1).2) ((hfit k j).1 h3)
    · exact Str.one (fit_le s a) h1
    · exact .nil _ hi
/-- What follows a place that is there already is there already. -/
theorem hop_known {s : List UInt8} (n : Nd) (a : Rx) (h : n.op = 5 ∨ n.op = 6) (i : Nat) (l : List Nat) (x : Nat) (hx : ov (hop s (.one n a) i) l x = true) : ov (hop s (.one n a) i) (l ++ [x]) = ov (hop s (.one n a) i) l := set_ext fun j => by
  rw [ov_iff, ov_iff]
  constructor
  · rintro ⟨k, hk, h1, h2⟩
    rw [List.mem_append, List.mem_singleton] at hk
    rcases hk with hk | rfl
    · exact ⟨k, hk, h1, h2⟩
    · obtain ⟨m, hm, h3, h4⟩ := ov_iff.1 hx
      exact ⟨m, hm, h3, fit_star_trans n a h h4 h2⟩
  · rintro ⟨k, hk, h1⟩
    exact ⟨k, by simp [hk], h1⟩
theorem hop_back {s : List UInt8} (t : Rx) (i : Nat) (l : List Nat) (x : Nat) (hx : ¬ i < x) : ov (hop s t i) (l ++ [x]) = ov (hop s t i) l := set_ext fun j => by
  rw [ov_iff, ov_iff]
  constructor
  · rintro ⟨k, hk, h1, h2⟩
    rw [List.mem_append, List.mem_singleton] at hk
    rcases hk with hk | rfl
    · exact ⟨k, hk, h1, h2⟩
    · exact absurd h1 hx
  · rintro ⟨k, hk, h1⟩
    exact ⟨k, by simp [hk], h1⟩
theorem hop_on {s : List UInt8} (t : Rx) (i : Nat) (l : List Nat) (x : Nat) (hx : i < x) : joinP (ov (hop s t i) l) (fs s t x) = ov (hop s t i) (l ++ [x]) := by
  rw [← ov_snoc]
  congr 1
  refine set_ext fun j => ?_
  rw [fs_iff, rs_iff]
  exact ⟨fun h => ⟨hx, h⟩, fun h => h.2⟩
theorem fs_byte {s : List UInt8} (n : Nd) (i : Nat) (h1 : n.op = 1) : fs s (.leaf n) i = whenP (match s[i]? with | some c => n.c.has c.toNat | none => false) (i + 1) := set_ext fun j => by
  rw [fs_iff, when_iff]
  unfold Fit
  rw [if_pos h1]
  cases hc : s[i]? with
  | none => simp
  | some c => simp
theorem fs_begin {s : List UInt8} (n : Nd) (i : Nat) (h8 : n.op = 8) : fs s (.leaf n) i = whenP (decide (i = 0)) i := set_ext fun j => by
  rw [fs_iff, when_iff]
  unfold Fit
  rw [if_neg (by omega), if_pos h8]
  simp
  omega
theorem fs_end {s : List UInt8} (n : Nd) (i : Nat) (h9 : n.op = 9) : fs s (.leaf n) i = whenP (decide (i = s.length)) i := set_ext fun j => by
  rw [fs_iff, when_iff]
  unfold Fit
  rw [if_neg (by omega), if_neg (by omega), if_pos h9]
  simp
  omega
theorem fs_empty {s : List UInt8} (n : Nd) (i : Nat) (hi : i ≤ s.length) (h1 : ¬ n.op = 1) (h8 : ¬ n.op = 8) (h9 : ¬ n.op = 9) : fs s (.leaf n) i = whenP true i := set_ext fun j => by
  rw [fs_iff, when_iff]
  unfold Fit
  rw [if_neg h1, if_neg h8, if_neg h9]
  simp
  omega
/-- A tree is told by its nodes, whatever is behind. -/
theorem flat_pre : ∀ (t u : Rx), t.Ok → u.Ok → ∀ (q r : List Nd), t.flat ++ q = u.flat ++ r → t = u ∧ q = r
  | .leaf n, .leaf m, _, _, q, r, h => by
    simp [Rx.flat] at h
    exact ⟨by rw [h.1], h.2⟩
  | .leaf n, .one m a, ht, hu, q, r, h => by
    simp [Rx.flat] at h
    simp only [Rx.Ok] at ht hu
    rw [h.1] at ht
    omega
  | .leaf n, .two m a b, ht, hu, q, r, h => by
    simp [Rx.flat] at h
    simp only [Rx.Ok] at ht hu
    rw [h.1] at ht
    omega
  | .one n a, .leaf m, ht, hu, q, r, h => by
    simp [Rx.flat] at h
    simp only [Rx.Ok] at ht hu
    rw [h.1] at ht
    omega
  | .one n a, .one m b, ht, hu, q, r, h => by
    simp [Rx.flat] at h
    obtain ⟨h1, h2⟩ := flat_pre a b ht.2 hu.2 _ _ h.2
    exact ⟨by rw [h.1, h1], h2⟩
  | .one n a, .two m b c, ht, hu, q, r, h => by
    simp [Rx.flat] at h
    simp only [Rx.Ok] at ht hu
    rw [h.1] at ht
    omega
  | .two n a b, .leaf m, ht, hu, q, r, h => by
    simp [Rx.flat] at h
    simp only [Rx.Ok] at ht hu
    rw [h.1] at ht
    omega
  | .two n a b, .one m c, ht, hu, q, r, h => by
    simp [Rx.flat] at h
    simp only [Rx.Ok] at ht hu
    rw [h.1] at ht
    omega
  | .two n a b, .two m c d, ht, hu, q, r, h => by
    simp [Rx.flat] at h
    obtain ⟨h1, h2⟩ := flat_pre a c ht.2.1 hu.2.1 _ _ h.2
    obtain ⟨h3, h4⟩ := flat_pre b d ht.2.2 hu.2.2 _ _ h2
    exact ⟨by rw [h.1, h1, h3], h4⟩
/-- A list of things that are apart, each one of N, has at most N. -/
theorem pigeon {α : Type} (f : Nat → α) : ∀ (N : Nat) (l : List α), l.Pairwise (fun a b => a ≠ b) → (∀ k ∈ l, ∃ c, c < N ∧ k = f c) → l.length ≤ N
  | 0, [], _, _ => Nat.le_refl _
  | 0, a :: l, _, h => by obtain ⟨c, hc, _⟩ := h a (by simp); omega
  | N + 1, l, hp, h => by
    haveI : DecidableEq α := fun a b => Classical.propDecidable (a = b)
    have h1 := pigeon f N (l.filter fun a => !decide (a = f N)) (hp.filter _) (fun k hk => by
      rw [List.mem_filter] at hk
      obtain ⟨c, hc, rfl⟩ := h k hk.1
      refine ⟨c, ?_, rfl⟩
      rcases Nat.lt_or_ge c N with h' | h'
      · exact h'
      · obtain rfl : c = N := by omega
        simp at hk)
    have h2 : ∀ (l : List α), l.Pairwise (fun a b => a ≠ b) → l.length ≤ (l.filter fun a => !decide (a = f N)).length + 1 := by
      intro l
      induction l with
      | nil => intro _; simp
      | cons a l ih =>
        intro hp
        rw [List.pairwise_cons] at hp
        by_cases ha : a = f N
        · have e : l.filter (fun a => !decide (a = f N)) = l := List.filter_eq_self.2 fun b hb => by
            have := hp.1 b hb
            simp
            intro e
            exact this (ha.trans e.symm)
          rw [List.filter_cons, e]
          simp [ha]
        · rw [List.filter_cons]
          have := ih hp.2
          simp [ha]
          omega
    have := h2 l hp
    omega
end Go.Proofs.YtphcncgdodhlbaaDoor
namespace Go.Proofs.YtphcncgdodhlbaaDoor
set_option linter.unusedSimpArgs false
set_option linter.unusedVariables false
set_option maxRecDepth 100000
open Go.RowKit

theorem td64 (a : Nat) : (a : Int).tdiv 64 = ((a / 64 : Nat) : Int) := by
  rw [Int.tdiv_eq_ediv_of_nonneg (by omega)]; omega
theorem tm64 (a : Nat) : (a : Int).tmod 64 = ((a % 64 : Nat) : Int) := by
  rw [Int.tmod_eq_emod_of_nonneg (by omega)]; omega
set_option maxHeartbeats 400000 in
theorem phas_any (p : Nat → Bool) (a : Nat) (ha : a < 448) (w : World) :
    Calls Tryd.prog 81 #[plV p, .int .i64 (a : Int)] w fun e w' => e = .returned (.bool (p a)) ∧ Below w.heap.size w w' := by
  have hw := (Hp.new w p _ rfl).cell (a / 64) (by omega)
  have h1 := td64 a
  have h2 := tm64 a
  have hx := has_word p a
  unfold plV
  go_enter Tryd.func81, Tryd.ntmps81
  go_wp2
  go_ret
  exact ⟨rfl, (Below.refl _ _).alloc (Nat.le_refl _) _⟩
set_option maxHeartbeats 400000 in
theorem pwith_any (p : Nat → Bool) (a : Nat) (ha : a < 448) (w : World) :
    Calls Tryd.prog 66 #[plV p, .int .i64 (a : Int)] w fun e w' => e = .returned (plV (withP p a)) ∧ Below w.heap.size w w' := by
  have h1 := td64 a
  have h2 := tm64 a
  have i0 : (0 : Int) ≤ (a : Int) / 64 := by omega
  have i1 : (a : Int) / 64 < 7 := by omega
  have i2 : ((a : Int) / 64).toNat = a / 64 := by omega
  have i3 : ((a : Int) % 64).toNat = a % 64 := by omega
  have i4 : (0 : Int) ≤ (a : Int) % 64 := by omega
  obtain ⟨w0, hw0⟩ : ∃ w0, w0 = (w.alloc (.cells #[.int .u64 (wd p 0), .int .u64 (wd p 1), .int .u64 (wd p 2), .int .u64 (wd p 3), .int .u64 (wd p 4), .int .u64 (wd p 5), .int .u64 (wd p 6)] 68)).alloc (.cells #[.int .u64 0, .int .u64 0, .int .u64 0, .int .u64 0, .int .u64 0, .int .u64 0, .int .u64 0] 68) := ⟨_, rfl⟩
  have hP : Hp w0 w.heap.size p := by rw [hw0]; exact (Hp.new w p _ rfl).alloc _
  have hZ : Hp w0 (w.heap.size + 1) noP := by rw [hw0]; exact Hp.zero _ _ (by simp)
  have hB : Below w.heap.size w w0 := by rw [hw0]; exact ((Below.refl _ w).alloc (Nat.le_refl _) _).alloc (by simp) _
  have hc := hP.cell (a / 64) (by omega)
  have hf := hP.frozen (a / 64)
  unfold plV
  go_enter Tryd.func66, Tryd.ntmps66
  go_wp2_with fail
  rw [← hw0]
  clear hw0
  go_region
  have hP1 : Hp (w0.setCell ⟨w.heap.size, a / 64, none⟩ (.int .u64 (bits .or .u64 (wd p (a / 64)) (IntKind.u64.wrap (2 ^ (a % 64)))))).drew w.heap.size (withP p a) := (hP.store (a / 64) (by omega) _ (with_set p a ha)).drew
  have hZ1 : Hp (w0.setCell ⟨w.heap.size, a / 64, none⟩ (.int .u64 (bits .or .u64 (wd p (a / 64)) (IntKind.u64.wrap (2 ^ (a % 64)))))).drew (w.heap.size + 1) noP := (hZ.other _ _ (by simp)).drew
  have hB1 : Below w.heap.size w (w0.setCell ⟨w.heap.size, a / 64, none⟩ (.int .u64 (bits .or .u64 (wd p (a / 64)) (IntKind.u64.wrap (2 ^ (a % 64)))))).drew := (hB.setCell (Nat.le_refl _) _).drew
  generalize (w0.setCell ⟨w.heap.size, a / 64, none⟩ (.int .u64 (bits .or .u64 (wd p (a / 64)) (IntKind.u64.wrap (2 ^ (a % 64)))))).drew = w1 at hP1 hZ1 hB1 ⊢
  clear hP hZ hB hc hf
  obtain ⟨c0, c1, c2, c3, c4, c5, c6⟩ := hP1.all
  obtain ⟨d0, d1, d2, d3, d4, d5, d6⟩ := hZ1.all
  obtain ⟨f0, f1, f2, f3, f4, f5, f6⟩ := hZ1.frz
  go_wp2
  have hq := hZ1.put7 (withP p a)
  obtain ⟨e0, e1, e2, e3, e4, e5, e6⟩ := hq.all
  refine bodyPost_ret (v := plV (withP p a)) (by simp [results, Tryd.results66, go_sem, plV, e0, e1, e2, e3, e4, e5, e6]) rfl ⟨rfl, ?_⟩
  exact below_put7 hB1 (by omega) _
set_option maxHeartbeats 400000 in
theorem pwhen_any (so : Bool) (a : Nat) (ha : a < 448) (w : World) :
    Calls Tryd.prog 61 #[.bool so, .int .i64 (a : Int)] w fun e w' => e = .returned (plV (whenP so a)) ∧ Below w.heap.size w w' := by
  have hZ : Hp (w.alloc (.cells #[.int .u64 0, .int .u64 0, .int .u64 0, .int .u64 0, .int .u64 0, .int .u64 0, .int .u64 0] 68)) w.heap.size noP := Hp.zero _ _ rfl
  have hB : Below w.heap.size w (w.alloc (.cells #[.int .u64 0, .int .u64 0, .int .u64 0, .int .u64 0, .int .u64 0, .int .u64 0, .int .u64 0] 68)) := (Below.refl _ w).alloc (Nat.le_refl _) _
  have hs : w.heap.size < (w.alloc (.cells #[.int .u64 0, .int .u64 0, .int .u64 0, .int .u64 0, .int .u64 0, .int .u64 0, .int .u64 0] 68)).heap.size := by simp
  have hwd : plV noP = .agg #[.int .u64 0, .int .u64 0, .int .u64 0, .int .u64 0, .int .u64 0, .int .u64 0, .int .u64 0] := by
    unfold plV
    rw [wd_no, wd_no, wd_no, wd_no, wd_no, wd_no, wd_no]
  have C : Hid _ := pwith_any noP a ha
  cases so with
  | false =>
    go_enter Tryd.func61, Tryd.ntmps61
    go_wp2_with fail
    refine bodyPost_ret (v := plV (whenP false a)) (by rw [when_false, hwd]; simp [results, Tryd.results61, go_sem]) rfl ⟨rfl, ?_⟩
    exact hB
  | true =>
    go_enter Tryd.func61, Tryd.ntmps61
    go_wp2_with fail
    rw [← hwd]
    refine (C.out _).mono ?_
    rintro e w1 ⟨rfl, hb⟩
    have hZ1 := hZ.below hb hs
    have hB1 : Below w.heap.size w w1 := hB.trans (hb.mono (by simp))
    clear C hZ hB
    obtain ⟨d0, d1, d2, d3, d4, d5, d6⟩ := hZ1.all
    obtain ⟨f0, f1, f2, f3, f4, f5, f6⟩ := hZ1.frz
    unfold plV
    go_wp2
    have hq := hZ1.put7 (withP noP a)
    obtain ⟨e0, e1, e2, e3, e4, e5, e6⟩ := hq.all
    refine bodyPost_ret (v := plV (withP noP a)) (by simp [results, Tryd.results61, go_sem, plV, e0, e1, e2, e3, e4, e5, e6]) rfl ⟨by rw [when_true], ?_⟩
    exact below_put7 hB1 (by omega) _
theorem idx7_0 (a0 a1 a2 a3 a4 a5 a6 : Int) (w : World) : (Instr.index 66 (.agg #[.int .u64 a0, .int .u64 a1, .int .u64 a2, .int .u64 a3, .int .u64 a4, .int .u64 a5, .int .u64 a6]) (.int .i64 0)).run Tryd.prog w = .ok (.int .u64 a0) w := by kernel_rfl
theorem idx7_1 (a0 a1 a2 a3 a4 a5 a6 : Int) (w : World) : (Instr.index 66 (.agg #[.int .u64 a0, .int .u64 a1, .int .u64 a2, .int .u64 a3, .int .u64 a4, .int .u64 a5, .int .u64 a6]) (.int .i64 1)).run Tryd.prog w = .ok (.int .u64 a1) w := by kernel_rfl
theorem idx7_2 (a0 a1 a2 a3 a4 a5 a6 : Int) (w : World) : (Instr.index 66 (.agg #[.int .u64 a0, .int .u64 a1, .int .u64 a2, .int .u64 a3, .int .u64 a4, .int .u64 a5, .int .u64 a6]) (.int .i64 2)).run Tryd.prog w = .ok (.int .u64 a2) w := by kernel_rfl
theorem idx7_3 (a0 a1 a2 a3 a4 a5 a6 : Int) (w : World) : (Instr.index 66 (.agg #[.int .u64 a0, .int .u64 a1, .int .u64 a2, .int .u64 a3, .int .u64 a4, .int .u64 a5, .int .u64 a6]) (.int .i64 3)).run Tryd.prog w = .ok (.int .u64 a3) w := by kernel_rfl
theorem idx7_4 (a0 a1 a2 a3 a4 a5 a6 : Int) (w : World) : (Instr.index 66 (.agg #[.int .u64 a0, .int .u64 a1, .int .u64 a2, .int .u64 a3, .int .u64 a4, .int .u64 a5, .int .u64 a6]) (.int .i64 4)).run Tryd.prog w = .ok (.int .u64 a4) w := by kernel_rfl
theorem idx7_5 (a0 a1 a2 a3 a4 a5 a6 : Int) (w : World) : (Instr.index 66 (.agg #[.int .u64 a0, .int .u64 a1, .int .u64 a2, .int .u64 a3, .int .u64 a4, .int .u64 a5, .int .u64 a6]) (.int .i64 5)).run Tryd.prog w = .ok (.int .u64 a5) w := by kernel_rfl
theorem idx7_6 (a0 a1 a2 a3 a4 a5 a6 : Int) (w : World) : (Instr.index 66 (.agg #[.int .u64 a0, .int .u64 a1, .int .u64 a2, .int .u64 a3, .int .u64 a4, .int .u64 a5, .int .u64 a6]) (.int .i64 6)).run Tryd.prog w = .ok (.int .u64 a6) w := by kernel_rfl
/-- A word of seven. -/
theorem idx7 (q : Nat → Bool) (k : Nat) (hk : k < 7) (w : World) : (Instr.index 66 (.agg #[.int .u64 (wd q 0), .int .u64 (wd q 1), .int .u64 (wd q 2), .int .u64 (wd q 3), .int .u64 (wd q 4), .int .u64 (wd q 5), .int .u64 (wd q 6)]) (.int .i64 (k : Int))).run Tryd.prog w = .ok (.int .u64 (wd q k)) w := by
  rcases (by omega : k = 0 ∨ k = 1 ∨ k = 2 ∨ k = 3 ∨ k = 4 ∨ k = 5 ∨ k = 6) with rfl | rfl | rfl | rfl | rfl | rfl | rfl
  · exact idx7_0 _ _ _ _ _ _ _ w
  · exact idx7_1 _ _ _ _ _ _ _ w
  · exact idx7_2 _ _ _ _ _ _ _ w
  · exact idx7_3 _ _ _ _ _ _ _ w
  · exact idx7_4 _ _ _ _ _ _ _ w
  · exact idx7_5 _ _ _ _ _ _ _ w
  · exact idx7_6 _ _ _ _ _ _ _ w
set_option maxHeartbeats 1000000 in
theorem pjoined_any (p q : Nat → Bool) (w : World) :
    Calls Tryd.prog 65 #[plV p, plV q] w fun e w' => e = .returned (plV (joinP p q)) ∧ Below w.heap.size w w' := by
  unfold plV
  go_enter Tryd.func65, Tryd.ntmps65
  go_wp2
  go_loopw [9] (fun i wr => ∃ k : Nat, k ≤ 7 ∧ i = .int .i64 k ∧ Below w.heap.size w wr ∧ Hp wr w.heap.size (joinK p q k) ∧ Hp wr (w.heap.size + 1 + 1) noP) (fun i _ => 7 - (intOf i).toNat)
  case atStart =>
    refine ⟨0, by omega, rfl, ?_, ?_, ?_⟩
    · exact (((Below.refl _ _).alloc (Nat.le_refl _) _).alloc (by simp) _).alloc (by simp; omega) _
    · rw [joinK_zero]; exact ((Hp.new _ p _ rfl).alloc _).alloc _
    · exact Hp.zero _ _ (by simp)
  case round =>
    obtain ⟨k, hk, rfl, hB, hJ, hZ⟩ := hrel
    by_cases hlt : k < 7
    · have cj := hJ.cell k hlt
      have fj := hJ.frozen k
      have i0 : (0 : Int) ≤ (k : Int) := by omega
      have i1 : (k : Int) < 7 := by omega
      have hqk := idx7 q k hlt
      go_wp2_with fail
      refine ⟨⟨k + 1, by omega, by go_num, hB.setCell (Nat.le_refl _) _, hJ.store k hlt _ (join_set p q k hlt), hZ.other _ _ (by simp only; omega)⟩, by simp [intOf]; omega⟩
    · have hk7 : k = 7 := by omega
      subst hk7
      obtain ⟨c0, c1, c2, c3, c4, c5, c6⟩ := hJ.all
      obtain ⟨d0, d1, d2, d3, d4, d5, d6⟩ := hZ.all
      obtain ⟨f0, f1, f2, f3, f4, f5, f6⟩ := hZ.frz
      go_wp2
      have hq := hZ.put7 (joinP p q)
      have e7 := joinK_end p q
      unfold cellsP at e7
      simp only [List.cons.injEq, Value.int.injEq, true_and, and_true] at e7
      obtain ⟨g0, g1, g2, g3, g4, g5, g6⟩ := e7
      rw [g0, g1, g2, g3, g4, g5, g6]
      obtain ⟨e0, e1, e2, e3, e4, e5, e6⟩ := hq.all
      refine bodyPost_ret (v := plV (joinP p q)) (by simp [results, Tryd.results65, go_sem, plV, e0, e1, e2, e3, e4, e5, e6]) rfl ⟨rfl, ?_⟩
      exact below_put7 hB (by omega) _
end Go.Proofs.YtphcncgdodhlbaaDoor
namespace Go.Proofs.YtphcncgdodhlbaaDoor
set_option linter.unusedSimpArgs false
set_option linter.unusedVariables false
set_option maxRecDepth 100000
open Go.RowKit

/-- A spot as a value and as a key. -/
def spotV (i a : Nat) : Value := .agg #[.int .i64 (i : Int), .int .i64 (a : Int)]
def spotL (i a : Nat) : Lit := .string (keyBytes [.int .i64 (i : Int), .int .i64 (a : Int)])
theorem spot_row : (94 : TypeId) < Tryd.prog.types.size := of_decide_eq_true (by kernel_rfl)
theorem spot_laid : laidOutB Tryd.prog = true := by kernel_rfl
theorem spot_wide : (match Tryd.prog.underlying 94 with | some (.array _ _) | some (.struct _) => true | _ => false) = true := by kernel_rfl
theorem spot_keyed : Maps.Keyed Tryd.prog 94 := Maps.Keyed.of_law (deep_law_laid spot_laid (m := 2) (by omega) spot_row (by kernel_rfl) spot_wide)
theorem spot_key (i a : Nat) (hi : i < 1000000) (ha : a < 1000000) : keyOf Tryd.prog 94 (spotV i a) = some (spotL i a) := by
  have hk : Tryd.prog.keyType 94 = true := by kernel_rfl
  have hf : (spotV i a).formed Tryd.prog 94 = true := by
    unfold spotV
    kernel_rfl
  obtain ⟨d, hd⟩ : ∃ d, Tryd.prog.types.size = d + 1 := ⟨Tryd.prog.types.size - 1, (Nat.sub_add_cancel (Nat.lt_of_le_of_lt (Nat.zero_le _) spot_row)).symm⟩
  have wi : (Lit.int .i64 (i : Int)).wf = true := WalkArith.wf_i64 (by omega)
  have wa : (Lit.int .i64 (a : Int)).wf = true := WalkArith.wf_i64 (by omega)
  have hc : Tryd.prog.cellsOf 94 = 2 := by kernel_rfl
  have hc1 : Tryd.prog.cellsOf 3 = 1 := by kernel_rfl
  unfold keyOf
  rw [Tryd.underlying94]
  simp only [hk, hf, Bool.and_self, if_true, hd]
  simp [spotV, spotL, Value.cells, Program.keyLits, Tryd.underlying94, Tryd.underlying3, hc, hc1, wi, wa]
/-- How an element of the map reads: as itself. -/
def rv (v : Value) : Option (DataW Value × List MemPlace) := some (.held v, [])
theorem zero_places (w : World) : (zeroValue 68).run Tryd.prog w = .ok (.agg #[.int .u64 0, .int .u64 0, .int .u64 0, .int .u64 0, .int .u64 0, .int .u64 0, .int .u64 0]) w := by kernel_rfl
/-- The map in block M holds at spots i a values x with ok i a x alone. -/
def Kn (w : World) (M : Nat) (ok : Nat → Nat → Value → Prop) : Prop :=
  ∃ D : DataW Value, w.ownsMap Tryd.prog 94 rv M (Maps.size D) D ∧ ∀ kl, Maps.has D kl = true → ∃ i a x, i < 60 ∧ a < 401 ∧ kl = spotL i a ∧ ok i a x ∧ ∀ z, D.atKey kl z = .held x
theorem Kn.made (w : World) (ok : Nat → Nat → Value → Prop) : Kn (w.alloc (.map #[] 0)) w.heap.size ok :=
  ⟨.map [], World.ownsMap_made w _ _ _, fun kl h => by simp [Maps.has] at h⟩
theorem Kn.lt {w : World} {M : Nat} {ok : Nat → Nat → Value → Prop} (h : Kn w M ok) : M < w.heap.size := by
  obtain ⟨D, h, _⟩ := h
  exact h.lt
theorem Kn.kept {w w' : World} {M : Nat} {ok : Nat → Nat → Value → Prop} {row : Option Nat} (h : Kn w M ok) (hg : w.grownBy w' row) (hne : some M ≠ row) : Kn w' M ok := by
  obtain ⟨D, h, hk⟩ := h
  exact ⟨D, h.kept hg hne, hk⟩
theorem Kn.heap {w : World} {M : Nat} {ok : Nat → Nat → Value → Prop} (h : Kn w M ok) : ∃ es clock, w.heap[M]? = some (.map es clock) := by
  obtain ⟨D, ⟨es, clock, hb, _⟩, _⟩ := h
  exact ⟨es, clock, hb⟩
theorem spot_inj {i a j b : Nat} (hi : i < 1000000) (ha : a < 1000000) (hj : j < 1000000) (hb : b < 1000000) (h : spotL i a = spotL j b) : i = j ∧ a = b := by
  have h1 := spot_key i a hi ha
  have h2 := spot_key j b hj hb
  rw [h] at h1
  have := spot_keyed.inj h1 h2
  unfold spotV at this
  simp at this
  omega
/-- What is looked up. -/
theorem Kn.look {w : World} {M : Nat} {ok : Nat → Nat → Value → Prop} (h : Kn w M ok) (i a : Nat) (hi : i < 60) (ha : a < 401) :
    (∃ x, ok i a x ∧ ∀ w' : World, w'.heap[M]? = w.heap[M]? → (Instr.lookup 90 (.map (some M)) (spotV i a) true).run Tryd.prog w' = .ok (.tuple #[x, .bool true]) w') ∨
    (∀ w' : World, w'.heap[M]? = w.heap[M]? → (Instr.lookup 90 (.map (some M)) (spotV i a) true).run Tryd.prog w' = .ok (.tuple #[.agg #[.int .u64 0, .int .u64 0, .int .u64 0, .int .u64 0, .int .u64 0, .int .u64 0, .int .u64 0], .bool false]) w') := by
  obtain ⟨D, h, hk⟩ := h
  have hkey := spot_key i a (by omega) (by omega)
  have hown : ∀ w' : World, w'.heap[M]? = w.heap[M]? → w'.ownsMap Tryd.prog 94 rv M (Maps.size D) D := fun w' e => by
    obtain ⟨es, clock, hb, r⟩ := h
    exact ⟨es, clock, e.trans hb, r⟩
  cases hh : Maps.has D (spotL i a) with
  | true =>
    obtain ⟨j, b, x, hj, hb, e, hx, hat⟩ := hk _ hh
    obtain ⟨rfl, rfl⟩ := spot_inj (by omega) (by omega) (by omega) (by omega) e
    refine Or.inl ⟨x, hx, fun w' e' => ?_⟩
    obtain ⟨v, ps, hrun, hv⟩ := (hown w' e').look_ok spot_keyed Tryd.underlying90 (zero_places w') (zd := .held _) (zp := []) rfl hkey
    rw [hat] at hv
    simp [rv] at hv
    rw [hh, hv.1] at hrun
    exact hrun
  | false =>
    refine Or.inr fun w' e' => ?_
    obtain ⟨v, ps, hrun, hv⟩ := (hown w' e').look_ok spot_keyed Tryd.underlying90 (zero_places w') (zd := .held _) (zp := []) rfl hkey
    rw [Maps.atKey_of_not_has hh] at hv
    simp [rv] at hv
    rw [hh, hv.1] at hrun
    exact hrun
theorem Kn.small {w : World} {M : Nat} {D : DataW Value} {n : Nat} (h : w.ownsMap Tryd.prog 94 rv M n D) (hk : ∀ kl, Maps.has D kl = true → ∃ i a, i < 60 ∧ a < 401 ∧ kl = spotL i a) : Maps.size D ≤ 24060 := by
  obtain ⟨es, rfl, hp, hl⟩ := h.entries spot_keyed
  have h1 : (es.map (·.1)).length ≤ 24060 := by
    refine pigeon (fun c => spotL (c / 401) (c % 401)) 24060 _ (List.pairwise_map.2 hp) (fun k hm => ?_)
    obtain ⟨q, hq, rfl⟩ := List.mem_map.1 hm
    have : Maps.has (DataW.map es) q.1 = true := by
      rw [Maps.has_eq, List.any_eq_true]
      exact ⟨q, hq, WideAt.sameKey_self (hl q hq)⟩
    obtain ⟨i, a, hi, ha, e⟩ := hk _ this
    refine ⟨i * 401 + a, by omega, ?_⟩
    rw [e]
    have e1 : (i * 401 + a) / 401 = i := by omega
    have e2 : (i * 401 + a) % 401 = a := by omega
    simp only [e1, e2]
  simpa [Maps.size] using h1
/-- What is stored. -/
theorem Kn.store {w : World} {M : Nat} {ok : Nat → Nat → Value → Prop} (h : Kn w M ok) (i a : Nat) (x : Value) (hi : i < 60) (ha : a < 401) (hx : ok i a x) :
    ∃ w', (Instr.mapUpdate 90 (.map (some M)) (spotV i a) x).run Tryd.prog w = .ok () w' ∧ Kn w' M ok ∧ w.grownBy w' (some M) := by
  obtain ⟨D, h, hk⟩ := h
  have hkey := spot_key i a (by omega) (by omega)
  have hs := Kn.small h (fun kl hh => by obtain ⟨i, a, x, h1, h2, h3, _⟩ := hk kl hh; exact ⟨i, a, h1, h2, h3⟩)
  obtain ⟨w', hrun, hown, hg⟩ := h.update spot_keyed Tryd.underlying90 (by unfold maxLen; omega) hkey (val := x) (d := .held x) (ps := []) rfl
  have hkl := spot_keyed.key hkey
  refine ⟨w', hrun, ⟨D.put (spotL i a) (.held x), ?_, fun kl hh => ?_⟩, hg⟩
  · obtain ⟨es, clock, hb, F, _, e⟩ := hown
    refine ⟨es, clock, hb, F, ?_, e⟩
    rw [e]
    simp [Maps.size, length_sorted]
  · by_cases e : kl = spotL i a
    · subst e
      exact ⟨i, a, x, hi, ha, rfl, hx, fun z => Maps.atKey_put_same h.isMap hkl _ _⟩
    · rw [Maps.has_put_other e] at hh
      obtain ⟨j, b, y, h1, h2, h3, h4, h5⟩ := hk kl hh
      exact ⟨j, b, y, h1, h2, h3, h4, fun z => by rw [Maps.atKey_put_other e]; exact h5 z⟩
end Go.Proofs.YtphcncgdodhlbaaDoor
namespace Go.Proofs.YtphcncgdodhlbaaDoor
set_option linter.unusedSimpArgs false
set_option linter.unusedVariables false
open Go.RowKit

variable {F : Fence} {n : Nat} {P : Program}

/-- What an iterator does that is a method's value: one by one it hands on xs; Tb: what it needs of each world. -/
def RunsOn {α : Type} (F : Fence) (n : Nat) (P : Program) (g : Nat) (fb : Array Value) (enc : α → Value) (Tb : World → Prop) (xs : List α) : Prop :=
  ∀ (l : Nat) (J : List α → World → Prop) (W : World), AbidesFrom W.heap.size J → (∀ pre W1, J pre W1 → Tb W1) →
    (∀ pre x rest W1, xs = pre ++ x :: rest → J pre W1 → YieldAt F (n - 1) P l #[enc x] W1 fun e W' => e = .returned (.bool true) ∧ J (pre ++ [x]) W') →
    J [] W → CallsIn F n P g (fb ++ #[.func (.yield l) #[] #[]]) W fun e W' => (∃ v, e = .returned v) ∧ J xs W'
/-- The body goes on. -/
def onPost {α : Type} (B : Nat) (I : List α → World → Prop) (xs : List α) (W : World) : Exit → Act → World → Prop
  | .normal, _, W' => KeepsFrom B W W' ∧ I xs W'
  | _, _, _ => False
theorem wpIn_runs {α : Type} {g : Operand} {ps : Array Tmp} {assign body : Code} {Q : Exit → Act → World → Prop} {a : Act} {w : World}
    (hro : F.round = none) (h1 : 1 ≤ n) (gf : Nat) (fb : Array Value) (hg : a.eval g = .func (.func gf) fb #[]) (hFg : F.fn gf) (eg : ∀ args w, (callFunc gf args).run P w = .ok (.enter gf args) w)
    (enc : α → Value) (Tb : World → Prop) (xs : List α) (hseq : RunsOn F (n - 1) P gf fb enc Tb xs) (hps : ps.size = 1)
    (I : List α → World → Prop) (hI : OwnFrom w.heap.size I) (hIT : ∀ pre W, I pre W → Tb W) (h0 : I [] w) (a₁ : α → Act)
    (hassign : ∀ (l : Nat) (x : α) (W : World) (K : Act → World → Prop), K (a₁ x) W →
      assign.wpIn (F.inRound l) (n - 1 - 1) P (Exit.then K (fun _ _ _ => False)) { tmps := (ps.zip #[enc x]).foldl (fun t (p, v) => t.setIfInBounds p v) a.tmps, defers := [] } W)
    (hbody : ∀ (l : Nat) (pre : List α) (x : α) (rest : List α) (W : World), xs = pre ++ x :: rest → I pre W → body.wpIn (F.inRound l) (n - 1 - 1) P (onPost w.heap.size I (pre ++ [x]) W) (a₁ x) W)
    (hdone : ∀ (D : Nat) (W : World), w.heap.size ≤ D → I xs W → W.heap[D]? = some (.deferred (some [])) → Q .normal { a with defers := { target := .collected D, args := #[] } :: a.defers } W) :
    (Code.rangeFunc g ps assign body).wpIn F n P Q a w := by
  refine wpIn_rangeFunc fun fn hfn => ?_
  rw [hro]
  -- the two blocks that the loop itself lays: for deferred calls at D, the record at L
  let D := w.heap.size
  let L := w.heap.size + 1
  let rec0 : LoopState → Option Code → Loop := fun st pe => { state := st, pending := pe, fn := fn, tmps := a.tmps, params := ps, assign := assign, body := body, defers := D }
  let V := (w.alloc (.deferred (some []))).alloc (.loop (rec0 .ready none))
  have hVL : V.heap[L]? = some (.loop (rec0 .ready none)) := by
    have := World.alloc_heap_new (w.alloc (.deferred (some []))) (.loop (rec0 .ready none))
    rwa [World.size_alloc] at this
  have hVD : V.heap[D]? = some (.deferred (some [])) := (Below.heap_alloc _ _ _ (by simp [D])).trans (World.alloc_heap_new w _)
  have hVI : I [] V := hI.alloc _ (hI.alloc _ h0)
  have hVs : V.heap.size = w.heap.size + 2 := by simp [V]
  refine ⟨L, [{ target := .collected D, args := #[] }], V, { target := .fn (.func gf) #[], args := fb ++ #[.func (.yield L) #[] #[]] }, V, gf, fb ++ #[.func (.yield L) #[] #[]], V, run_enterLoop_outer _ _ _ _ _, ?_, ?_, ?_, fun _ => h1, ?_⟩
  · simp only [resolve, hg]
    simp [go_sem, Deferred.ofValue]
  · intro f' hf'
    simp [Target.leads] at hf'
    subst hf'
    exact hFg
  · simp [invoke, go_sem, eg]
  · have key := hseq L (fun pre W => I pre W ∧ W.heap[L]? = some (.loop (rec0 .ready none)) ∧ W.heap[D]? = some (.deferred (some []))) V
      (fun s A B row hs hgr hr => by
        have hr' : ∀ r, row = some r → w.heap.size ≤ r ∧ ∃ o : Obj, A.heap[r]? = some o ∧ o.isCells = false := fun r e => by
          obtain ⟨h2, o, ho, hw⟩ := hr r e
          exact ⟨by omega, o, ho, Obj.not_cells_of_walk hw⟩
        exact ⟨hI s A B row hs.1 hgr hr', (grownBy_keeps hgr (fun r e => (hr r e).2) hs.2.1 rfl).trans hs.2.1, (grownBy_keeps hgr (fun r e => (hr r e).2) hs.2.2 rfl).trans hs.2.2⟩)
      (fun pre W h => hIT pre W h.1)
      (fun pre x rest W hx h => by
        obtain ⟨hi, hl, hd⟩ := h
        have hlt : L < W.heap.size := (Array.getElem?_eq_some_iff.1 hl).1
        have hy := run_yield (P := P) (args := #[enc x]) hl (by simp [rec0, hps])
        let Wb := W.putObj L (.loop { rec0 .ready none with state := .busy })
        have hbL : Wb.heap[L]? = some (.loop { rec0 .ready none with state := .busy }) := World.putObj_heap_same hlt
        have hbD : Wb.heap[D]? = some (.deferred (some [])) := (World.putObj_heap_other (by simp [D, L])).trans hd
        refine ⟨fn, _, assign, body, hy, roundIn_of_wpIn hfn (hassign L x W _ ⟨Wb, run_beginRound hl rfl, ?_⟩)⟩
        refine wpIn_mono (hbody L pre x rest Wb hx (hI.putObj _ hi (by simp [L]) hl rfl)) ?_
        intro e a3 W3 hp
        cases e with
        | normal =>
          obtain ⟨hk3, hi3⟩ := hp
          have hl3 := hk3.same L _ (by simp [L]) hbL rfl
          have hd3 := hk3.same D _ (Nat.le_refl _) hbD rfl
          exact ⟨_, _, run_endRound none hl3, rfl, hI.putObj _ hi3 (by simp [L]) hl3 rfl, World.putObj_heap_same (Array.getElem?_eq_some_iff.1 hl3).1, (World.putObj_heap_other (by simp [D, L])).trans hd3⟩
        | _ => exact hp.elim)
      ⟨hVI, hVL, hVD⟩
    refine key.mono ?_
    rintro e W2 ⟨⟨v, rfl⟩, hi, hl, hd⟩
    exact ⟨none, _, run_endLoop hl (by simp [rec0]), hdone D _ (Nat.le_refl _) (hI.putObj _ hi (by simp [L]) hl rfl) ((World.putObj_heap_other (by simp [D, L])).trans hd)⟩
end Go.Proofs.YtphcncgdodhlbaaDoor
namespace Go.Proofs.YtphcncgdodhlbaaDoor
set_option linter.unusedSimpArgs false
set_option linter.unusedVariables false
set_option maxRecDepth 100000
open Go.RowKit Go.Shelf
attribute [local go_sem] Oper.semAt_some

theorem el_split (p : Nat → Bool) (x N : Nat) (hx : x < N) (hp : p x = true) : ∃ rest, el p N = el p x ++ x :: rest := by
  obtain ⟨d, rfl⟩ : ∃ d, N = x + 1 + d := ⟨N - x - 1, by omega⟩
  refine ⟨(List.range d |>.map fun j => x + 1 + j).filter p, ?_⟩
  unfold el
  rw [List.range_add, List.range_succ, List.filter_append, List.filter_append]
  simp [hp]
set_option maxHeartbeats 2000000 in
theorem rises (n : Nat) (hn : 1 ≤ n) (p : Nat → Bool) : RunsOn Fence.wide n Tryd.prog 28 #[plV p] (fun x : Nat => Value.int .i64 (x : Int)) Tab (el p 448) := by
  intro l J W hJ hJT hY h0
  have hI7 : Hid _ := hid (idx7 p)
  unfold plV
  refine callsIn_of_wp Tryd.func28 rfl trivial ?_ rfl
  simp only [Tryd.ntmps28, List.size_toArray, List.length_cons, List.length_nil, Nat.reduceAdd, Nat.reduceSub, Array.replicate_succ, Array.replicate_zero, List.push_toArray, List.append_toArray, List.nil_append, List.cons_append]
  gi_wp2
  gi_loopw [8] (fun v wr => ∃ k : Nat, k ≤ 7 ∧ v = .int .i64 (k : Int) ∧ J (el p (64 * k)) wr) (fun v _ => 7 - (intOf v).toNat)
  case atStart =>
    exact ⟨0, by omega, rfl, hJ _ _ _ none h0 (World.grownBy_alloc _ _ _) (fun r e => by cases e)⟩
  case round =>
    obtain ⟨k, hk, rfl, hj⟩ := hrel
    by_cases hlt : k < 7
    · have i0 : (0 : Int) ≤ (k : Int) := by omega
      have i1 : (k : Int) < 7 := by omega
      have hqk := fun w => hI7.out k hlt w
      have hwd : wd p k = ((cutw (fun j => p (64 * k + j)) 0 : Nat) : Int) := by rw [cutw_zero]; rfl
      gi_wp2
      gi_loopw [5] (fun v wr => ∃ m : Nat, m ≤ 64 ∧ v = .int .u64 ((cutw (fun j => p (64 * k + j)) m : Nat) : Int) ∧ J (el p (64 * k + m)) wr) (fun v _ => (intOf v).toNat)
      case atStart =>
        exact ⟨0, by omega, rfl, hj⟩
      case round =>
        obtain ⟨m, hm, rfl, hj2⟩ := hrel
        by_cases hz : cutw (fun j => p (64 * k + j)) m = 0
        · have hz0 : ((cutw (fun j => p (64 * k + j)) m : Nat) : Int) = 0 := by omega
          have hj3 : J (el p (64 * (k + 1))) wr := by
            rw [el_skip' p (64 * k + m) (64 * (k + 1)) (by omega) (fun j h1 h2 => by
              have := cutw_none hz (j - 64 * k) (by omega) (by omega)
              rwa [show 64 * k + (j - 64 * k) = j by omega] at this)]
            exact hj2
          gi_wp2
          exact ⟨⟨k + 1, by omega, by go_num, hj3⟩, by simp [intOf]; omega⟩
        · obtain ⟨k0, hk0, h1, h2, h3, h4, h5⟩ := cutw_step hz
          have hlt64 : cutw (fun j => p (64 * k + j)) m < 18446744073709551616 := mkw64 _
          obtain ⟨rest, hrest⟩ := el_split p (64 * k + k0) 448 (by omega) h3
          have hj3 : J (el p (64 * k + k0)) wr := by
            rw [el_skip' p (64 * k + m) (64 * k + k0) (by omega) (fun j g1 g2 => by
              have := h4 (j - 64 * k) (by omega) (by omega)
              rwa [show 64 * k + (j - 64 * k) = j by omega] at this)]
            exact hj2
          obtain ⟨fn, tmps, assign, body, hy, hR⟩ := hY _ _ rest wr hrest hj3
          have hTz := tz_any _ hz hlt64 wr (hJT _ _ hj2)
          rw [← hk0] at hTz
          replace hTz := hid hTz
          have hnz : (((cutw (fun j => p (64 * k + j)) m : Nat) : Int) == 0) = false := by rw [beq_eq_false_iff_ne]; omega
          have ev : ((64 * k + k0 : Nat) : Int) = (k : Int) * 64 + (k0 : Int) := by omega
          rw [ev] at hy
          have hand : bits .and .u64 ((cutw (fun j => p (64 * k + j)) m : Nat) : Int) (((cutw (fun j => p (64 * k + j)) m : Nat) : Int) - 1) = ((cutw (fun j => p (64 * k + j)) (k0 + 1) : Nat) : Int) := by
            have e1 : ((cutw (fun j => p (64 * k + j)) m : Nat) : Int) - 1 = ((cutw (fun j => p (64 * k + j)) m - 1 : Nat) : Int) := by omega
            rw [e1, u64_and_nat _ _ hlt64 (by omega), h5]
          have hless : cutw (fun j => p (64 * k + j)) (k0 + 1) < cutw (fun j => p (64 * k + j)) m := by
            rw [← h5]
            have : cutw (fun j => p (64 * k + j)) m &&& (cutw (fun j => p (64 * k + j)) m - 1) ≤ cutw (fun j => p (64 * k + j)) m - 1 := Nat.and_le_right
            omega
          clear h5 hk0
          generalize hn2 : cutw (fun j => p (64 * k + j)) (k0 + 1) = n2 at hand hless
          generalize cutw (fun j => p (64 * k + j)) m = nn at *
          gi_wp2_with (refine ⟨trivial, ?_⟩; gi_at_call 41; refine (callsIn_wide.2 hTz.out).mono ?_; rintro e w' ⟨rfl, rfl⟩)
          refine hR.mono ?_
          rintro e W3 ⟨rfl, hJ3⟩
          gi_wp2
          exact ⟨⟨k0 + 1, by omega, by rw [hn2], by rw [← Nat.add_assoc, el_snoc p _ h3]; exact hJ3⟩, by simp [intOf]; omega⟩
    · have hk7 : k = 7 := by omega
      subst hk7
      gi_wp2
      go_end0
      exact ⟨⟨_, rfl⟩, hj⟩
theorem enters_rising : ∀ args w, (callFunc 28 args).run Tryd.prog w = .ok (.enter 28 args) w := fun _ _ => by kernel_rfl
end Go.Proofs.YtphcncgdodhlbaaDoor
