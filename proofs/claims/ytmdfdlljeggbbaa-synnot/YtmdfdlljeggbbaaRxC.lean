/- What the document asks of package rex. -/
import Derived.Test.YtmdfdlljeggbbaaNdR
import Derived.Test.YtmdfdlljeggbbaaNdO
import Derived.Test.YtmdfdlljeggbbaaErr
set_option linter.unusedSimpArgs false
set_option linter.unusedVariables false
set_option maxRecDepth 100000
namespace Go.Proofs.Ytmdfdlljeggbbaa
open Go.RowKit

/-- What the document asks of Empty and Turn. -/
structure RexT : Prop where
  empty : ∀ ns v w, NsIn w v ns → (∀ n ∈ ns, n.wf) → Calls Try.prog 13 #[v] w fun e w' => e = .returned (.tuple #[.bool (decide (faultL ns = 0) && empE ns), errV (faultL ns)]) ∧ Below w.heap.size w w'
  turn : ∀ ns v w, NsIn w v ns → (∀ n ∈ ns, n.wf) → Calls Try.prog 12 #[v] w fun e w' => ∃ u, e = .returned (.tuple #[u, errV (faultL ns)]) ∧ Below w.heap.size w w' ∧ NsIn w' u (if faultL ns = 0 then turE ns else [])
theorem nsIn_nil (w : World) : NsIn w (.slice none 0 0) [] := ⟨none, 0, rfl, by simp, Or.inl rfl⟩
theorem nsIn_form {w : World} {v : Value} {ns : List Nd} (h : NsIn w v ns) : ∃ a cap, v = .slice a ns.length cap ∧ ns.length ≤ maxLen := by
  obtain ⟨a, cap, h1, h2, _⟩ := h
  exact ⟨a, cap, h1, h2⟩
theorem nsEq_refl (x : List Nd) : nsEq x x = true := (nsEq_iff x x).2 rfl
end Go.Proofs.Ytmdfdlljeggbbaa
