/- What the document asks of syn.Parse. -/
import Derived.Test.YtmdfdlljeggbbaaPrs
import Derived.Test.YtmdfdlljeggbbaaErr
set_option linter.unusedSimpArgs false
set_option linter.unusedVariables false
set_option maxRecDepth 100000
namespace Go.Proofs.Ytmdfdlljeggbbaa
open Go.RowKit

/-- What is read of a text: the nodes, the place, the fault. -/
inductive PsR (s : ByteArray) : List Nd → Int → Int → Prop
  | full : 200 < s.size → PsR s [] 0 3
  | bad (k : Nat) : s.size ≤ 200 → Whole s.data.toList (.error k) → PsR s [] ((s.size : Int) - (k : Int)) 5
  | many (t : Rx) : s.size ≤ 200 → Whole s.data.toList (.ok t) → 60 < t.flat.length → PsR s [] 0 3
  | ok (t : Rx) : s.size ≤ 200 → Whole s.data.toList (.ok t) → ¬ 60 < t.flat.length → PsR s t.flat 0 0
theorem psR_total (s : ByteArray) : ∃ ms k e, PsR s ms k e := by
  by_cases h : 200 < s.size
  · exact ⟨_, _, _, .full h⟩
  · obtain ⟨r, hr⟩ := whole_total s.data.toList
    cases r with
    | error k => exact ⟨_, _, _, .bad k (by omega) hr⟩
    | ok t =>
      by_cases h6 : 60 < t.flat.length
      · exact ⟨_, _, _, .many t (by omega) hr h6⟩
      · exact ⟨_, _, _, .ok t (by omega) hr h6⟩
/-- What the document asks of Parse. -/
structure SynR : Prop where
  parse : ∀ (s : ByteArray) (w : World) ms k e, s.size ≤ maxLen → PsR s ms k e → Calls Try.prog 15 #[.string s] w fun x w' => ∃ u, x = .returned (.tuple #[u, .int .i64 k, errV e]) ∧ Below w.heap.size w w' ∧ NsIn w' u ms
end Go.Proofs.Ytmdfdlljeggbbaa
