/- The landed reader: one item, whole. -/
import Derived.Test.YtmdfdlljeggbbaaRa7
set_option linter.unusedSimpArgs false
set_option linter.unusedVariables false
set_option maxRecDepth 100000
namespace Go.Proofs.Ytmdfdlljeggbbaa
open Go.RowKit
/-- One item: from which byte on, how many, what is left. -/
def itm (l : List UInt8) : Except Nat (Nat × Nat × List UInt8) :=
  match rd1 l with
  | .error k => .error k
  | .ok (lo, l1) =>
    if l1.head? = some 45 then
      match rd1 l1.tail with
      | .error k => .error k
      | .ok (hi, l2) => if hi < lo then .error l.length else .ok (lo, hi + 1 - lo, l2)
    else .ok (lo, 1, l1)
theorem items_itm (f : Nat) (c : C4) (l : List UInt8) (h : l.head? ≠ some 93) : items (f + 1) c l = match itm l with
    | .error k => .error k
    | .ok (lo, n, r) => items f (addTo c lo n) r := by
  rw [items, if_neg h, itm]
  cases rd1 l with
  | error k => rfl
  | ok p =>
    obtain ⟨lo, l1⟩ := p
    simp only
    split
    · cases rd1 l1.tail with
      | error k => rfl
      | ok q =>
        obtain ⟨hi, l2⟩ := q
        simp only
        split <;> rfl
    · simp only
      rfl
theorem itm_len (l : List UInt8) (lo n : Nat) (r : List UInt8) (h : itm l = .ok (lo, n, r)) : lo + n ≤ 256 ∧ r.length < l.length := by
  rw [itm] at h
  cases h1 : rd1 l with
  | error k => rw [h1] at h; cases h
  | ok p =>
    obtain ⟨lo', l1⟩ := p
    have g1 := rd1_len l lo' l1 h1
    rw [h1] at h
    simp only at h
    split at h
    · rename_i hh
      have g2 := (tail_len l1 _ hh).2
      cases h2 : rd1 l1.tail with
      | error k => rw [h2] at h; cases h
      | ok q =>
        obtain ⟨hi, l2⟩ := q
        have g3 := rd1_len _ hi l2 h2
        rw [h2] at h
        simp only at h
        split at h
        · cases h
        · injection h with h
          injection h with ha hb
          injection hb with hb hc
          subst ha; subst hb; subst hc
          omega
    · injection h with h
      injection h with ha hb
      injection hb with hb hc
      subst ha; subst hb; subst hc
      omega
theorem item_ok (g : Nat) (s : ByteArray) (a : Nat) (v : Value) (l : List UInt8) (lo n : Nat) (r : List UInt8) (hr : itm l = .ok (lo, n, r)) (w : World) (h : PA w g s a v l) :
    Calls Try.prog 63 #[.pointer (some ⟨g, 0, none⟩)] w fun e w' => e = .returned (rng lo n).v ∧ (∃ a', PA w' g s a' v r) ∧ w.grownBy w' (some g) := by
  rw [itm] at hr
  cases h1 : rd1 l with
  | error k => rw [h1] at hr; cases hr
  | ok p =>
    obtain ⟨lo', l1⟩ := p
    rw [h1] at hr
    simp only at hr
    split at hr
    · rename_i hh
      cases h2 : rd1 l1.tail with
      | error k => rw [h2] at hr; cases hr
      | ok q =>
        obtain ⟨hi, l2⟩ := q
        rw [h2] at hr
        simp only at hr
        split at hr
        · cases hr
        · rename_i hlo
          injection hr with hr
          injection hr with ha hb
          injection hb with hb hc
          subst ha; subst hb; subst hc
          exact item_two g s a v l lo' l1 h1 hh hi l2 h2 (by omega) w h
    · rename_i hh
      injection hr with hr
      injection hr with ha hb
      injection hb with hb hc
      subst ha; subst hb; subst hc
      exact item_one g s a v l lo' l1 h1 hh w h
theorem item_bad (g : Nat) (s : ByteArray) (a : Nat) (v : Value) (l : List UInt8) (k : Nat) (hr : itm l = .error k) (w : World) (h : PA w g s a v l) :
    Calls Try.prog 63 #[.pointer (some ⟨g, 0, none⟩)] w fun e w' => e = .panicked (mis ((s.size : Int) - (k : Int))) ∧ Stk w' g ∧ w.grownBy w' (some g) := by
  rw [itm] at hr
  cases h1 : rd1 l with
  | error k' =>
    rw [h1] at hr
    injection hr with hr
    subst hr
    exact item_bad1 g s a v l k' h1 w h
  | ok p =>
    obtain ⟨lo', l1⟩ := p
    rw [h1] at hr
    simp only at hr
    split at hr
    · rename_i hh
      cases h2 : rd1 l1.tail with
      | error k' =>
        rw [h2] at hr
        injection hr with hr
        subst hr
        exact item_bad2 g s a v l lo' l1 h1 hh k' h2 w h
      | ok q =>
        obtain ⟨hi, l2⟩ := q
        rw [h2] at hr
        simp only at hr
        split at hr
        · rename_i hlo
          injection hr with hr
          subst hr
          exact item_bad3 g s a v l lo' l1 h1 hh hi l2 h2 hlo w h
        · cases hr
    · cases hr
end Go.Proofs.Ytmdfdlljeggbbaa
