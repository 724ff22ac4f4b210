/- A class as an argument: opened and shut. -/
import Derived.Test.YtmdfdlljeggbbaaProg
import Derived.Test.YtmdfdlljeggbbaaMt3
import Derived.ProofKit
import Derived.OpenShut
import Derived.Laws.IdiomArrays
set_option linter.unusedSimpArgs false
set_option linter.unusedVariables false
set_option maxRecDepth 100000
namespace Go.Proofs.Ytmdfdlljeggbbaa
open Go.ChangeShapes Go.WideShapes Go.ChangeAt Go.RowKit

theorem own : ownKnob Try.prog.godebug = none := by kernel_rfl
theorem cellsClass : Try.prog.cellsOf 24 = 4 := by kernel_rfl
theorem cellsWord : Try.prog.cellsOf 22 = 1 := by kernel_rfl
theorem list4 {α : Type} (l : List α) (h : (⟨l⟩ : Array α).size = 4) : ∃ a b c d, l = [a, b, c, d] := by
  match l, h with
  | [a, b, c, d], _ => exact ⟨a, b, c, d, rfl⟩
theorem okW_wf {x : Int} (h : (Lit.int .u64 x).wf = true) : okW x := by
  have := bounds_u64 h
  unfold okW
  omega
def dat {H : Type} (k : C4) : DataW H := .agg [.lit (.int .u64 k.a), .lit (.int .u64 k.b), .lit (.int .u64 k.c), .lit (.int .u64 k.d)]
def C4.wf (k : C4) : Prop := (Lit.int .u64 k.a).wf = true ∧ (Lit.int .u64 k.b).wf = true ∧ (Lit.int .u64 k.c).wf = true ∧ (Lit.int .u64 k.d).wf = true
theorem C4.wf_ok {k : C4} (h : k.wf) : k.ok := ⟨okW_wf h.1, okW_wf h.2.1, okW_wf h.2.2.1, okW_wf h.2.2.2⟩
set_option maxRecDepth 100000 in
theorem open_class {H : Type} {enc : TypeId × Value → H} {W : World} {base : Nat} {sp : Nat → Bool} {held : Bool} {v : Value} {d : DataW H} {p : List MemPlace}
    (hval : Value.okWide Try.prog W .any base 24 v) (h : DataW.Trod enc Try.prog W 0 sp held 24 v d p) : ∃ k : C4, v = k.v ∧ d = dat k ∧ p = [] ∧ k.wf := by
  obtain ⟨cs, rfl, hsz, _⟩ : ∃ cs, v = .agg cs ∧ cs.size = Try.prog.cellsOf 24 ∧ Row.okWide Try.prog W .any base 24 cs := by
    have h' := hval
    unfold Value.okWide at h'
    rw [Try.underlying24] at h'
    exact h'
  rw [cellsClass] at hsz
  obtain ⟨l⟩ := cs
  obtain ⟨c0, c1, c2, c3, rfl⟩ := list4 l hsz
  obtain ⟨fuel, hf⟩ := h
  obtain ⟨y0, y1, y2, y3, m, hx, hy0, hy1, hy2, hy3⟩ := trod_array4 Try.underlying24 cellsWord hf
  obtain ⟨x0, e0, rfl, w0⟩ := DataW.trod_int Try.underlying22 hy0
  obtain ⟨x1, e1, rfl, w1⟩ := DataW.trod_int Try.underlying22 hy1
  obtain ⟨x2, e2, rfl, w2⟩ := DataW.trod_int Try.underlying22 hy2
  obtain ⟨x3, e3, rfl, w3⟩ := DataW.trod_int Try.underlying22 hy3
  simp at e0 e1 e2 e3
  subst e0 e1 e2 e3
  simp only [Prod.mk.injEq] at hx
  obtain ⟨rfl, rfl⟩ := hx
  exact ⟨⟨x0, x1, x2, x3⟩, rfl, rfl, rfl, w0, w1, w2, w3⟩
theorem shut_class {H : Type} {enc : TypeId × Value → H} {W : World} {base : Nat} {sp : Nat → Bool} {held : Bool} {k : C4} (hk : k.wf) : DataW.Trod enc Try.prog W base sp held 24 k.v (dat k) [] := by
  obtain ⟨w0, w1, w2, w3⟩ := hk
  exact ⟨2, by simp [DataW.trod, Value.cells, dat, Try.underlying24, Try.underlying22, cellsClass, cellsWord, w0, w1, w2, w3, show List.range 4 = [0, 1, 2, 3] from rfl]⟩

end Go.Proofs.Ytmdfdlljeggbbaa
