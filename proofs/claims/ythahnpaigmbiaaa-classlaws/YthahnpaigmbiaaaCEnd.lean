/- Proved: for any two classes a and b the call ClassLaws(a, b) returns true, and both arguments read afterwards as before: not both is neither, twice not is itself, the numbers of both and either are those of the one and the other, and two classes have other texts. No condition. -/
import Derived.Test.YthahnpaigmbiaaaCLaw
import Derived.Test.YthahnpaigmbiaaaMt4
import Derived.ProofKit
import Derived.OpenShut
import Derived.Laws.IdiomArrays
set_option linter.unusedSimpArgs false
set_option linter.unusedVariables false
namespace Go.Proofs.Ythahnpaigmbiaaa
open Go.ChangeShapes Go.WideShapes Go.ChangeAt Go.RowKit

theorem own : ownKnob Try.prog.godebug = none := by kernel_rfl
theorem cellsClass : Try.prog.cellsOf 24 = 4 := by kernel_rfl
theorem cellsWord : Try.prog.cellsOf 22 = 1 := by kernel_rfl
theorem list4 {α : Type} (l : List α) (h : (⟨l⟩ : Array α).size = 4) : ∃ a b c d, l = [a, b, c, d] := by
  match l, h with
  | [a, b, c, d], _ => exact ⟨a, b, c, d, rfl⟩
theorem okW_wf {x : Int} (h : (Lit.int .u64 x).wf = true) : okW x := by
  have := bounds_u64 h
  unfold okW
  omega
def dat {H : Type} (k : C4) : DataW H := .agg [.lit (.int .u64 k.a), .lit (.int .u64 k.b), .lit (.int .u64 k.c), .lit (.int .u64 k.d)]
def C4.wf (k : C4) : Prop := (Lit.int .u64 k.a).wf = true ∧ (Lit.int .u64 k.b).wf = true ∧ (Lit.int .u64 k.c).wf = true ∧ (Lit.int .u64 k.d).wf = true
theorem C4.wf_ok {k : C4} (h : k.wf) : k.ok := ⟨okW_wf h.1, okW_wf h.2.1, okW_wf h.2.2.1, okW_wf h.2.2.2⟩
theorem open_class {H : Type} {enc : TypeId × Value → H} {W : World} {base : Nat} {sp : Nat → Bool} {held : Bool} {v : Value} {d : DataW H} {p : List MemPlace}
    (hval : Value.okWide Try.prog W .any base 24 v) (h : DataW.Trod enc Try.prog W 0 sp held 24 v d p) : ∃ k : C4, v = k.v ∧ d = dat k ∧ p = [] ∧ k.wf := by
  obtain ⟨cs, rfl, hsz, _⟩ : ∃ cs, v = .agg cs ∧ cs.size = Try.prog.cellsOf 24 ∧ Row.okWide Try.prog W .any base 24 cs := by
    simpa [Value.okWide, Try.underlying24] using hval
  rw [cellsClass] at hsz
  obtain ⟨l⟩ := cs
  obtain ⟨c0, c1, c2, c3, rfl⟩ := list4 l hsz
  obtain ⟨fuel, hf⟩ := h
  obtain ⟨y0, y1, y2, y3, m, hx, hy0, hy1, hy2, hy3⟩ := trod_array4 Try.underlying24 cellsWord hf
  obtain ⟨x0, e0, rfl, w0⟩ := DataW.trod_int Try.underlying22 hy0
  obtain ⟨x1, e1, rfl, w1⟩ := DataW.trod_int Try.underlying22 hy1
  obtain ⟨x2, e2, rfl, w2⟩ := DataW.trod_int Try.underlying22 hy2
  obtain ⟨x3, e3, rfl, w3⟩ := DataW.trod_int Try.underlying22 hy3
  simp at e0 e1 e2 e3
  subst e0 e1 e2 e3
  simp only [Prod.mk.injEq] at hx
  obtain ⟨rfl, rfl⟩ := hx
  exact ⟨⟨x0, x1, x2, x3⟩, rfl, rfl, rfl, w0, w1, w2, w3⟩
theorem shut_class {H : Type} {enc : TypeId × Value → H} {W : World} {base : Nat} {sp : Nat → Bool} {held : Bool} {k : C4} (hk : k.wf) : DataW.Trod enc Try.prog W base sp held 24 k.v (dat k) [] := by
  obtain ⟨w0, w1, w2, w3⟩ := hk
  exact ⟨2, by simp [DataW.trod, Value.cells, dat, Try.underlying24, Try.underlying22, cellsClass, cellsWord, w0, w1, w2, w3, show List.range 4 = [0, 1, 2, 3] from rfl]⟩

theorem laws_true (a b : C4) (ha : a.wf) (hb : b.wf) (w : World) :
    Calls Try.prog 3 #[a.v, b.v] w fun e w' => e = .returned (.bool true) ∧ Below w.heap.size w w' := by
  have oa := C4.wf_ok ha
  have ob := C4.wf_ok hb
  apply laws_walk a b w
  · rw [deMorgan oa ob]; exact eqb_self _
  · rw [not_not4 oa]; exact eqb_self _
  · rw [many_both oa ob]; simp
  · rw [many_not oa]; decide
  · exact textL_eqb oa ob

set_option maxRecDepth 100000 in
theorem lifted (os : Os) (started : os.Started) (H : Type) (enc : TypeId × Value → H) :
    ReturnsInHanded {} Try.checked os 3 .any (Rows.classLawsSpec.pre6 enc Try.prog Try.f3 Rows.classLawsRow.domain false) (Rows.classLawsSpec.post enc Try.prog Try.f3 false true false false) := by
  refine returnsInHanded_of_change (C := Try.checked) own started (by kernel_rfl) Try.func3
    (ChangeSpec.witness6 (enc := enc) (C := Try.checked) false ⟨#[], #[.agg #[.int .u64 0, .int .u64 0, .int .u64 0, .int .u64 0], .agg #[.int .u64 0, .int .u64 0, .int .u64 0, .int .u64 0]], []⟩ 8 (by kernel_rfl) (by kernel_rfl) (by kernel_rfl) (by kernel_rfl)) ?_
  intro W base args ds gs before hval0 hW hcnd _
  have hval : ∀ (j : Nat) t v, Try.f3.params[j]? = some t → args[j]? = some v → Value.okWide Try.prog W .any base t v := hval0
  have hW' := hW
  obtain ⟨p, q, hA0, hV, rfl, hfz, hnd⟩ := hW
  have hA : DataW.TrodAll enc Try.prog W 0 (fun _ => true) true Try.f3.params.toList args.toList ds p := hA0
  rw [Try.params3] at hA hval
  obtain ⟨v0, v1, d0, d1, p0, p1, rfl, rfl, rfl, h0, h1⟩ := trodAll_two hA
  obtain ⟨rfl, rfl⟩ := trodVars_none hV
  obtain ⟨a, rfl, rfl, rfl, wa⟩ := open_class (hval 0 24 v0 rfl rfl) h0
  obtain ⟨b, rfl, rfl, rfl, wb⟩ := open_class (hval 1 24 v1 rfl rfl) h1
  clear hA0 hval0
  simp only [List.append_nil] at hW'
  refine (laws_true a b wa wb W).mono fun e W' ⟨he, bel⟩ => ?_
  subst he
  exact ⟨_, rfl, _, _, _, [], _, [], hW', trodAll_mk1 (shut_bool Try.underlying4 _), (trodAll_cons_mk (shut_class wa) (trodAll_cons_mk (shut_class wb) trodAll_mk0)), rfl, bel.frame _, fun h => by cases h⟩

theorem over : Rows.classLawsRow.holds Try.pinned (OpenSpec.ofChange Rows.classLawsSpec) :=
  OpenClaim.holds_of_wide 3 Try.f3 rfl rfl rfl rfl rfl rfl rfl ⟨rfl, rfl, rfl, rfl, rfl⟩ rfl rfl rfl rfl rfl (by kernel_rfl) Try.func3 (by kernel_rfl)
    (of_decide_eq_true (by kernel_rfl)) (by unfold Func.isWrapper; first | (rw [if_pos (by decide +kernel)]; kernel_rfl) | (rw [if_neg (by decide +kernel)]; exact ⟨rfl, rfl⟩))
    (fun os started H enc _ => lifted os started H enc)

theorem classLaws_holds : Rows.ClassLawsSaid := over
#print axioms classLaws_holds
end Go.Proofs.Ythahnpaigmbiaaa
