/- The landed reader: items. -/
import Derived.Test.YtmdfdlljeggbbaaRa6
import Derived.Test.YtmdfdlljeggbbaaWk2
import Derived.Test.YtmdfdlljeggbbaaPrz
set_option linter.unusedSimpArgs false
set_option linter.unusedVariables false
set_option maxRecDepth 100000
namespace Go.Proofs.Ytmdfdlljeggbbaa
open Go.RowKit
theorem rng_addTo (lo : Nat) : ∀ n, rng lo n = addTo z4 lo n
  | 0 => rfl
  | n + 1 => by rw [rng, addTo, rng_addTo lo n]
theorem or_rng {c : C4} (hc : c.ok) (lo n : Nat) (h : lo + n ≤ 256) : c.or (rng lo n) = addTo c lo n := by
  apply C4.ext_has (C4.or_ok hc (rng_ok lo n)) (addTo_ok hc lo n)
  intro j hj
  rw [C4.has_or hc (rng_ok lo n), rng_addTo, addTo_has z4_ok lo n h j hj, addTo_has hc lo n h j hj, z4_has]
  simp
/-- A post that does not hang on the frame where it panics. -/
def PanicIs (C : List PanicEntry → List Deferred → World → Prop) (Q : Exit → Act → World → Prop) : Exit → Act → World → Prop
  | .panic c, a, w => C c a.defers w
  | e, a, w => Q e a w
theorem PanicIs.normal {C : List PanicEntry → List Deferred → World → Prop} {Q : Exit → Act → World → Prop} {a : Act} {w : World} (h : Q .normal a w) : PanicIs C Q .normal a w := h
theorem wp_panicIs {c : Code} {Q : Exit → Act → World → Prop} {a : Act} {w : World} (C : List PanicEntry → List Deferred → World → Prop) (hC : ∀ c a w, C c a.defers w → Q (.panic c) a w) (h : c.wp Try.prog (PanicIs C Q) a w) : c.wp Try.prog Q a w :=
  Code.wp_mono (fun e a w h => by
    cases e <;> first | exact hC _ _ _ h | exact h) h
/-- The deferred call of close. -/
def dclose (g : Nat) (b : Int) : Deferred := { target := .fn (.func 62) #[], args := #[.pointer (some ⟨g, 0, none⟩), .int .u8 b] }
theorem door_stuck (fn : Func) (R : Ending → World → Prop) (tmps : Array Value) (z b : Int) (g : Nat) (w : World) (hs : Stk w g) (hR : ∀ w', Below w.heap.size w w' → R (.panicked (mis z)) w') :
    Leaves Try.prog fn tmps R [dclose g b] (.panicking (mis z)) w := by
  refine leaves_cons (f := 62) (args := #[.pointer (some ⟨g, 0, none⟩), .int .u8 b]) (by simp) (by simp [go_sem]) ?_
  refine (close_stuck g b _ w hs).mono ?_
  rintro e u' w' ⟨rfl, rfl, hb⟩
  exact hR w' hb
theorem door_no (fn : Func) (R : Ending → World → Prop) (tmps : Array Value) (b : UInt8) (g : Nat) (s : ByteArray) (a : Nat) (v : Value) (l : List UInt8) (w : World) (hp : PA w g s a v l) (hl : l.head? ≠ some b) (hR : ∀ w', Stk w' g → w.grownBy w' (some g) → R (.panicked (mis ((s.size : Int) - (l.length : Int)))) w') :
    Leaves Try.prog fn tmps R [dclose g (b.toNat : Int)] .returning w := by
  refine leaves_cons (f := 62) (args := #[.pointer (some ⟨g, 0, none⟩), .int .u8 (b.toNat : Int)]) (by simp) (by simp [go_sem]) ?_
  refine (close_no g s a v l b _ w hp hl).mono ?_
  rintro e u' w' ⟨rfl, rfl, hs, hg⟩
  exact hR w' hs hg
theorem door_yes (fn : Func) (R : Ending → World → Prop) (tmps : Array Value) (b : UInt8) (g : Nat) (s : ByteArray) (a : Nat) (v : Value) (r : List UInt8) (w : World) (hp : PA w g s a v (b :: r)) (hR : ∀ w', PA w' g s (a + 1) v r → w.grownBy w' (some g) → ∃ x, (results fn tmps).run Try.prog w' = .ok x w' ∧ R (.returned x) w') :
    Leaves Try.prog fn tmps R [dclose g (b.toNat : Int)] .returning w := by
  refine leaves_cons (f := 62) (args := #[.pointer (some ⟨g, 0, none⟩), .int .u8 (b.toNat : Int)]) (by simp) (by simp [go_sem]) ?_
  refine (close_yes g s a v r b _ w hp).mono ?_
  rintro e u' w' ⟨rfl, rfl, hp', hg⟩
  exact hR w' hp' hg
/-- Where the reader at g stands. -/
def plc (w : World) (g : Nat) : Nat := match w.cell? ⟨g, 1, none⟩ with
  | some (.int _ z) => z.toNat
  | _ => 0
theorem PA.plc {w : World} {g : Nat} {s : ByteArray} {a : Nat} {v : Value} {l : List UInt8} (h : PA w g s a v l) : Go.Proofs.Ytmdfdlljeggbbaa.plc w g = a := by
  rw [Go.Proofs.Ytmdfdlljeggbbaa.plc, h.rd.all.2.1]
  simp
end Go.Proofs.Ytmdfdlljeggbbaa
