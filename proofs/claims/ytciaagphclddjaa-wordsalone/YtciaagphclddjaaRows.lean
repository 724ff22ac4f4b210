/-
  No cell of these rows narrows 'for every input' (looked for: loops, veiled, ifaces, maps, wideKeys, modest, calm, conditions, laid).
  DERIVED. THE GIVEN ROWS OF THIS SEAT. 3 by the template 'for every input the law returns true; each argument reads behind the call as it read before'; 0 by the template 'total and deterministic' (their statements: YtciaagphclddjaaTotals.lean).
  GIVEN WITH THE SEED: the statements are not yours to turn. If you find one false, say at which input.
  Laid BY PROGRAM, IN A SANDBOX (cutbox-rows.mjs): the forced cells as the released guide's own fill.sh prints them over the translation 8a02904a6bfdec9d… (all of the seat's roots in one cut). By AI agents, Wed Nov 11 2026. No macro, syntax, notation, axiom, sorry.
-/
import Derived.Test.YtciaagphclddjaaChecked
import GoSem.Claim
import GoSem.ClaimJoined
import GoSem.ClaimMapViews
import Derived.JoinedTies
import Derived.KernelRfl
namespace Go.Proofs.Ytciaagphclddjaa
/- THE CELL 'sum', in the pinned program and in every row, IS THE sha256 OF THE DUMP (.gsa) THAT YtciaagphclddjaaProg.lean LOADS. Nothing in Lean hashes anything: it is a label: what it is worth is what the hold of that sum in a sandbox is worth. -/
noncomputable def Try.pinned : Pinned := { name := "ytciaagphclddjaa", sum := "8a02904a6bfdec9d5ab5bd239f4df71eccb3fa2cf866e7384b77d8df7e0b52fe", checked := Try.checked }
namespace Rows
def none {H : Type} : Left H := { results := [], args := [] }

/-- 'winnowfanlaw1.RexTurns': WHATEVER THE INPUT: true; the input reads as it did. -/
def rexTurnsSpec : ChangeSpec := { name := "rexTurns", fn := fun _ => fun
  | [d] => { results := [.lit (.bool true)], args := [d] }
  | _ => none }
def rexTurnsRow : OpenClaim := { program := "ytciaagphclddjaa", sum := "8a02904a6bfdec9d5ab5bd239f4df71eccb3fa2cf866e7384b77d8df7e0b52fe", func := "winnowfan/winnowfanlaw1.RexTurns", spec := "rexTurns", recurses := true, apart := false }
def RexTurnsSaid : Prop := rexTurnsRow.holds Try.pinned (OpenSpec.ofChange rexTurnsSpec)

/-- ITS FALSE NEIGHBOUR: 'it returns false'. Refute it at one input. -/
def rexTurnsWrong : ChangeSpec := { name := "rexTurns", fn := fun _ => fun
  | [d] => { results := [.lit (.bool false)], args := [d] }
  | _ => none }
def RexTurnsWrongFalsely : Prop := rexTurnsRow.holds Try.pinned (OpenSpec.ofChange rexTurnsWrong)

/-- 'winnowfanlaw2.WordsAlone': WHATEVER THE INPUT: true; the input reads as it did. -/
def wordsAloneSpec : ChangeSpec := { name := "wordsAlone", fn := fun _ => fun
  | [d1, d2, d3, d4] => { results := [.lit (.bool true)], args := [d1, d2, d3, d4] }
  | _ => none }
def wordsAloneRow : OpenClaim := { program := "ytciaagphclddjaa", sum := "8a02904a6bfdec9d5ab5bd239f4df71eccb3fa2cf866e7384b77d8df7e0b52fe", func := "winnowfan/winnowfanlaw2.WordsAlone", spec := "wordsAlone", recurses := true, apart := false }
def WordsAloneSaid : Prop := wordsAloneRow.holds Try.pinned (OpenSpec.ofChange wordsAloneSpec)

/-- ITS FALSE NEIGHBOUR: 'it returns false'. Refute it at one input. -/
def wordsAloneWrong : ChangeSpec := { name := "wordsAlone", fn := fun _ => fun
  | [d1, d2, d3, d4] => { results := [.lit (.bool false)], args := [d1, d2, d3, d4] }
  | _ => none }
def WordsAloneWrongFalsely : Prop := wordsAloneRow.holds Try.pinned (OpenSpec.ofChange wordsAloneWrong)

/-- 'winnowfanlaw2.WordsMore': WHATEVER THE INPUT: true; the input reads as it did. -/
def wordsMoreSpec : ChangeSpec := { name := "wordsMore", fn := fun _ => fun
  | [d1, d2, d3] => { results := [.lit (.bool true)], args := [d1, d2, d3] }
  | _ => none }
def wordsMoreRow : OpenClaim := { program := "ytciaagphclddjaa", sum := "8a02904a6bfdec9d5ab5bd239f4df71eccb3fa2cf866e7384b77d8df7e0b52fe", func := "winnowfan/winnowfanlaw2.WordsMore", spec := "wordsMore", recurses := true, apart := false }
def WordsMoreSaid : Prop := wordsMoreRow.holds Try.pinned (OpenSpec.ofChange wordsMoreSpec)

/-- ITS FALSE NEIGHBOUR: 'it returns false'. Refute it at one input. -/
def wordsMoreWrong : ChangeSpec := { name := "wordsMore", fn := fun _ => fun
  | [d1, d2, d3] => { results := [.lit (.bool false)], args := [d1, d2, d3] }
  | _ => none }
def WordsMoreWrongFalsely : Prop := wordsMoreRow.holds Try.pinned (OpenSpec.ofChange wordsMoreWrong)

/- THE SECOND FORM. 'bulk': how many values and letters a reading holds, each counted each time it is reached (what is shared counts as often as it is met; a slice's spare places count too). A statement '..UptoSaid' is the law's where the arguments, and the package variables that the reading takes, are together of bulk at most 1048576: NARROWER than '..Said'. Prove '..Said' where nothing that the law and all that it calls make is longer than what came in: it says more and counts as full. Else prove '..UptoSaid'. A law counts once. -/
mutual
def uptoBulk {H : Type} : DataW H → Nat
  | .lit (.string bytes) => bytes.length + 1
  | .lit _ => 1
  | .nil => 1
  | .ptr d => uptoBulk d + 1
  | .slice elems spare => uptoBulkAll elems + uptoBulkAll spare + 1
  | .agg parts => uptoBulkAll parts + 1
  | .iface _ d => uptoBulk d + 1
  | .map entries => uptoBulkEntries entries + 1
  | .held _ => 1
def uptoBulkAll {H : Type} : List (DataW H) → Nat
  | [] => 0
  | d :: r => uptoBulk d + uptoBulkAll r
def uptoBulkEntries {H : Type} : List (Lit × DataW H) → Nat
  | [] => 0
  | x :: r => uptoBulkEntry x + uptoBulkEntries r
def uptoBulkEntry {H : Type} : Lit × DataW H → Nat
  | (.string bytes, d) => bytes.length + uptoBulk d + 1
  | (_, d) => uptoBulk d + 1
 end
def uptoSmall : (H : Type) → List (DataW H) → Bool := fun _ ds => decide (uptoBulkAll ds ≤ 1048576)
def OpenSpec.upto (s : _root_.Go.ChangeSpec) : _root_.Go.OpenSpec := { _root_.Go.OpenSpec.ofChange s with cond := some uptoSmall }

/-- 'winnowfanlaw1.RexTurns', WHERE WHAT IT READS IS OF BULK AT MOST 1048576: true; the input reads as it did. -/
def rexTurnsUptoRow : OpenClaim := { program := "ytciaagphclddjaa", sum := "8a02904a6bfdec9d5ab5bd239f4df71eccb3fa2cf866e7384b77d8df7e0b52fe", func := "winnowfan/winnowfanlaw1.RexTurns", spec := "rexTurns", recurses := true, apart := false, narrowed := true }
def RexTurnsUptoSaid : Prop := rexTurnsUptoRow.holds Try.pinned (OpenSpec.upto rexTurnsSpec)

/-- 'winnowfanlaw2.WordsAlone', WHERE WHAT IT READS IS OF BULK AT MOST 1048576: true; the input reads as it did. -/
def wordsAloneUptoRow : OpenClaim := { program := "ytciaagphclddjaa", sum := "8a02904a6bfdec9d5ab5bd239f4df71eccb3fa2cf866e7384b77d8df7e0b52fe", func := "winnowfan/winnowfanlaw2.WordsAlone", spec := "wordsAlone", recurses := true, apart := false, narrowed := true }
def WordsAloneUptoSaid : Prop := wordsAloneUptoRow.holds Try.pinned (OpenSpec.upto wordsAloneSpec)

/-- 'winnowfanlaw2.WordsMore', WHERE WHAT IT READS IS OF BULK AT MOST 1048576: true; the input reads as it did. -/
def wordsMoreUptoRow : OpenClaim := { program := "ytciaagphclddjaa", sum := "8a02904a6bfdec9d5ab5bd239f4df71eccb3fa2cf866e7384b77d8df7e0b52fe", func := "winnowfan/winnowfanlaw2.WordsMore", spec := "wordsMore", recurses := true, apart := false, narrowed := true }
def WordsMoreUptoSaid : Prop := wordsMoreUptoRow.holds Try.pinned (OpenSpec.upto wordsMoreSpec)

end Rows
end Go.Proofs.Ytciaagphclddjaa
