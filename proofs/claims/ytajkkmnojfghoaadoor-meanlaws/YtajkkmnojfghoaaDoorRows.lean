/-
  NARROWER THAN 'FOR EVERY INPUT', by the rows' own cells (each row's printed sentence says how): ClassIs: laid · RexIs: laid · SynBack: laid · MeanIs: laid · MeanLaws: laid · MeanTurns: laid · MeanEmpty: laid.
  DERIVED. THE GIVEN ROWS OF THIS SEAT. 7 by the template 'for every input the law returns true; each argument reads behind the call as it read before'; 0 by the template 'total and deterministic' (their statements: YtajkkmnojfghoaaDoorTotals.lean).
  GIVEN WITH THE SEED: the statements are not yours to turn. If you find one false, say at which input.
  Laid BY PROGRAM, IN A SANDBOX (cutbox-rows.mjs): the forced cells as the released guide's own fill.sh prints them over the translation 232efa1139a054d0… (all of the seat's roots in one cut). By AI agents, Wed Nov 11 2026. No macro, syntax, notation, axiom, sorry.
-/
import Derived.Test.YtajkkmnojfghoaaDoorChecked
import GoSem.Claim
import GoSem.ClaimJoined
import GoSem.ClaimMapViews
import Derived.JoinedTies
import Derived.KernelRfl
namespace Go.Proofs.YtajkkmnojfghoaaDoor
/- THE CELL 'sum', in the pinned program and in every row, IS THE sha256 OF THE DUMP (.gsa) THAT YtajkkmnojfghoaaDoorProg.lean LOADS. Nothing in Lean hashes anything: it is a label: what it is worth is what the hold of that sum in a sandbox is worth. -/
noncomputable def Tryd.pinned : Pinned := { name := "ytajkkmnojfghoaadoor", sum := "232efa1139a054d0279a46a4b03942e24aa70202b00ed1e24624408286b7e0ca", checked := Tryd.checked }
namespace Rows
def none {H : Type} : Left H := { results := [], args := [] }

/- WHAT THE LISTED PACKAGE-LEVEL VARIABLES READ AS WHEN THE CALL BEGINS. Each datum BY PROGRAM (the guide's laid-datum.mjs) off the statement by which the dump's own 'gosem.cut.vars' lays the variable. In a bare row this is a premise. The card (YtajkkmnojfghoaaDoorCards.lean) ties it to the program's text. -/
def laid_errors_errorType {H : Type} : DataW H := .iface "internal/reflectlite.rtype" (.agg [.ptr (.lit (.string [101, 114, 114, 111, 114]))])
def laid_math_bits_deBruijn64tab {H : Type} : DataW H := .agg [.lit (.int .u8 0), .lit (.int .u8 1), .lit (.int .u8 56), .lit (.int .u8 2), .lit (.int .u8 57), .lit (.int .u8 49), .lit (.int .u8 28), .lit (.int .u8 3), .lit (.int .u8 61), .lit (.int .u8 58), .lit (.int .u8 42), .lit (.int .u8 50), .lit (.int .u8 38), .lit (.int .u8 29), .lit (.int .u8 17), .lit (.int .u8 4), .lit (.int .u8 62), .lit (.int .u8 47), .lit (.int .u8 59), .lit (.int .u8 36), .lit (.int .u8 45), .lit (.int .u8 43), .lit (.int .u8 51), .lit (.int .u8 22), .lit (.int .u8 53), .lit (.int .u8 39), .lit (.int .u8 33), .lit (.int .u8 30), .lit (.int .u8 24), .lit (.int .u8 18), .lit (.int .u8 12), .lit (.int .u8 5), .lit (.int .u8 63), .lit (.int .u8 55), .lit (.int .u8 48), .lit (.int .u8 27), .lit (.int .u8 60), .lit (.int .u8 41), .lit (.int .u8 37), .lit (.int .u8 16), .lit (.int .u8 46), .lit (.int .u8 35), .lit (.int .u8 44), .lit (.int .u8 21), .lit (.int .u8 52), .lit (.int .u8 32), .lit (.int .u8 23), .lit (.int .u8 11), .lit (.int .u8 54), .lit (.int .u8 26), .lit (.int .u8 40), .lit (.int .u8 15), .lit (.int .u8 34), .lit (.int .u8 20), .lit (.int .u8 31), .lit (.int .u8 10), .lit (.int .u8 25), .lit (.int .u8 14), .lit (.int .u8 19), .lit (.int .u8 9), .lit (.int .u8 13), .lit (.int .u8 8), .lit (.int .u8 7), .lit (.int .u8 6)]

/-- 'winnowfanlaw1.ClassIs': WHATEVER THE INPUT: true; the input reads as it did. -/
def classIsSpec : ChangeSpec := { name := "classIs", fn := fun _ => fun
  | [d1, d2, d3, d4, d5] => { results := [.lit (.bool true)], args := [d1, d2, d3, d4, d5] }
  | _ => none }
def classIsRow : OpenClaim := { program := "ytajkkmnojfghoaadoor", sum := "232efa1139a054d0279a46a4b03942e24aa70202b00ed1e24624408286b7e0ca", func := "winnowfan/winnowfanlaw1.ClassIs", spec := "classIs", inPlace := ["internal/reflectlite.ValueOf", "(internal/reflectlite.Value).Type", "(internal/reflectlite.Value).IsNil", "internal/reflectlite.TypeOf", "(internal/reflectlite.Value).Elem", "(internal/reflectlite.Value).Set", "internal/bytealg.IndexByteString", "internal/abi.NoEscape"], unfollowed := true, recurses := true, named := ["errors.errorType"], plainKeys := false, apart := false, laid := [("errors.errorType", laid_errors_errorType)] }
def ClassIsSaid : Prop := classIsRow.holds Tryd.pinned (OpenSpec.ofChange classIsSpec)

/-- ITS FALSE NEIGHBOUR: 'it returns false'. Refute it at one input. -/
def classIsWrong : ChangeSpec := { name := "classIs", fn := fun _ => fun
  | [d1, d2, d3, d4, d5] => { results := [.lit (.bool false)], args := [d1, d2, d3, d4, d5] }
  | _ => none }
def ClassIsWrongFalsely : Prop := classIsRow.holds Tryd.pinned (OpenSpec.ofChange classIsWrong)

/-- 'winnowfanlaw1.RexIs': WHATEVER THE INPUT: true; the input reads as it did. -/
def rexIsSpec : ChangeSpec := { name := "rexIs", fn := fun _ => fun
  | [d1, d2] => { results := [.lit (.bool true)], args := [d1, d2] }
  | _ => none }
def rexIsRow : OpenClaim := { program := "ytajkkmnojfghoaadoor", sum := "232efa1139a054d0279a46a4b03942e24aa70202b00ed1e24624408286b7e0ca", func := "winnowfan/winnowfanlaw1.RexIs", spec := "rexIs", inPlace := ["internal/reflectlite.ValueOf", "(internal/reflectlite.Value).Type", "(internal/reflectlite.Value).IsNil", "internal/reflectlite.TypeOf", "(internal/reflectlite.Value).Elem", "(internal/reflectlite.Value).Set"], unfollowed := true, recurses := true, named := ["errors.errorType"], plainKeys := false, apart := false, laid := [("errors.errorType", laid_errors_errorType)] }
def RexIsSaid : Prop := rexIsRow.holds Tryd.pinned (OpenSpec.ofChange rexIsSpec)

/-- ITS FALSE NEIGHBOUR: 'it returns false'. Refute it at one input. -/
def rexIsWrong : ChangeSpec := { name := "rexIs", fn := fun _ => fun
  | [d1, d2] => { results := [.lit (.bool false)], args := [d1, d2] }
  | _ => none }
def RexIsWrongFalsely : Prop := rexIsRow.holds Tryd.pinned (OpenSpec.ofChange rexIsWrong)

/-- 'winnowfanlaw1.SynBack': WHATEVER THE INPUT: true; the input reads as it did. -/
def synBackSpec : ChangeSpec := { name := "synBack", fn := fun _ => fun
  | [d1, d2, d3] => { results := [.lit (.bool true)], args := [d1, d2, d3] }
  | _ => none }
def synBackRow : OpenClaim := { program := "ytajkkmnojfghoaadoor", sum := "232efa1139a054d0279a46a4b03942e24aa70202b00ed1e24624408286b7e0ca", func := "winnowfan/winnowfanlaw1.SynBack", spec := "synBack", inPlace := ["internal/abi.NoEscape", "internal/bytealg.IndexByteString", "slices.overlaps[winnowfan/api.Node]", "internal/reflectlite.ValueOf", "(internal/reflectlite.Value).Type", "(internal/reflectlite.Value).IsNil", "internal/reflectlite.TypeOf", "(internal/reflectlite.Value).Elem", "(internal/reflectlite.Value).Set"], unfollowed := true, recurses := true, named := ["errors.errorType"], plainKeys := false, apart := false, laid := [("errors.errorType", laid_errors_errorType)] }
def SynBackSaid : Prop := synBackRow.holds Tryd.pinned (OpenSpec.ofChange synBackSpec)

/-- ITS FALSE NEIGHBOUR: 'it returns false'. Refute it at one input. -/
def synBackWrong : ChangeSpec := { name := "synBack", fn := fun _ => fun
  | [d1, d2, d3] => { results := [.lit (.bool false)], args := [d1, d2, d3] }
  | _ => none }
def SynBackWrongFalsely : Prop := synBackRow.holds Tryd.pinned (OpenSpec.ofChange synBackWrong)

/-- 'winnowfanlaw1.MeanIs': WHATEVER THE INPUT: true; the input reads as it did. -/
def meanIsSpec : ChangeSpec := { name := "meanIs", fn := fun _ => fun
  | [d1, d2, d3] => { results := [.lit (.bool true)], args := [d1, d2, d3] }
  | _ => none }
def meanIsRow : OpenClaim := { program := "ytajkkmnojfghoaadoor", sum := "232efa1139a054d0279a46a4b03942e24aa70202b00ed1e24624408286b7e0ca", func := "winnowfan/winnowfanlaw1.MeanIs", spec := "meanIs", inPlace := ["internal/reflectlite.ValueOf", "(internal/reflectlite.Value).Type", "(internal/reflectlite.Value).IsNil", "internal/reflectlite.TypeOf", "(internal/reflectlite.Value).Elem", "(internal/reflectlite.Value).Set"], unfollowed := true, recurses := true, named := ["math/bits.deBruijn64tab", "errors.errorType"], plainKeys := false, apart := false, laid := [("math/bits.deBruijn64tab", laid_math_bits_deBruijn64tab), ("errors.errorType", laid_errors_errorType)] }
def MeanIsSaid : Prop := meanIsRow.holds Tryd.pinned (OpenSpec.ofChange meanIsSpec)

/-- ITS FALSE NEIGHBOUR: 'it returns false'. Refute it at one input. -/
def meanIsWrong : ChangeSpec := { name := "meanIs", fn := fun _ => fun
  | [d1, d2, d3] => { results := [.lit (.bool false)], args := [d1, d2, d3] }
  | _ => none }
def MeanIsWrongFalsely : Prop := meanIsRow.holds Tryd.pinned (OpenSpec.ofChange meanIsWrong)

/-- 'winnowfanlaw1.MeanLaws': WHATEVER THE INPUT: true; the input reads as it did. -/
def meanLawsSpec : ChangeSpec := { name := "meanLaws", fn := fun _ => fun
  | [d1, d2, d3, d4, d5] => { results := [.lit (.bool true)], args := [d1, d2, d3, d4, d5] }
  | _ => none }
def meanLawsRow : OpenClaim := { program := "ytajkkmnojfghoaadoor", sum := "232efa1139a054d0279a46a4b03942e24aa70202b00ed1e24624408286b7e0ca", func := "winnowfan/winnowfanlaw1.MeanLaws", spec := "meanLaws", unfollowed := true, recurses := true, named := ["math/bits.deBruijn64tab"], plainKeys := false, apart := false, laid := [("math/bits.deBruijn64tab", laid_math_bits_deBruijn64tab)] }
def MeanLawsSaid : Prop := meanLawsRow.holds Tryd.pinned (OpenSpec.ofChange meanLawsSpec)

/-- ITS FALSE NEIGHBOUR: 'it returns false'. Refute it at one input. -/
def meanLawsWrong : ChangeSpec := { name := "meanLaws", fn := fun _ => fun
  | [d1, d2, d3, d4, d5] => { results := [.lit (.bool false)], args := [d1, d2, d3, d4, d5] }
  | _ => none }
def MeanLawsWrongFalsely : Prop := meanLawsRow.holds Tryd.pinned (OpenSpec.ofChange meanLawsWrong)

/-- 'winnowfanlaw1.MeanTurns': WHATEVER THE INPUT: true; the input reads as it did. -/
def meanTurnsSpec : ChangeSpec := { name := "meanTurns", fn := fun _ => fun
  | [d1, d2, d3, d4] => { results := [.lit (.bool true)], args := [d1, d2, d3, d4] }
  | _ => none }
def meanTurnsRow : OpenClaim := { program := "ytajkkmnojfghoaadoor", sum := "232efa1139a054d0279a46a4b03942e24aa70202b00ed1e24624408286b7e0ca", func := "winnowfan/winnowfanlaw1.MeanTurns", spec := "meanTurns", unfollowed := true, recurses := true, named := ["math/bits.deBruijn64tab"], plainKeys := false, apart := false, laid := [("math/bits.deBruijn64tab", laid_math_bits_deBruijn64tab)] }
def MeanTurnsSaid : Prop := meanTurnsRow.holds Tryd.pinned (OpenSpec.ofChange meanTurnsSpec)

/-- ITS FALSE NEIGHBOUR: 'it returns false'. Refute it at one input. -/
def meanTurnsWrong : ChangeSpec := { name := "meanTurns", fn := fun _ => fun
  | [d1, d2, d3, d4] => { results := [.lit (.bool false)], args := [d1, d2, d3, d4] }
  | _ => none }
def MeanTurnsWrongFalsely : Prop := meanTurnsRow.holds Tryd.pinned (OpenSpec.ofChange meanTurnsWrong)

/-- 'winnowfanlaw1.MeanEmpty': WHATEVER THE INPUT: true; the input reads as it did. -/
def meanEmptySpec : ChangeSpec := { name := "meanEmpty", fn := fun _ => fun
  | [d1, d2, d3] => { results := [.lit (.bool true)], args := [d1, d2, d3] }
  | _ => none }
def meanEmptyRow : OpenClaim := { program := "ytajkkmnojfghoaadoor", sum := "232efa1139a054d0279a46a4b03942e24aa70202b00ed1e24624408286b7e0ca", func := "winnowfan/winnowfanlaw1.MeanEmpty", spec := "meanEmpty", unfollowed := true, recurses := true, named := ["math/bits.deBruijn64tab"], plainKeys := false, apart := false, laid := [("math/bits.deBruijn64tab", laid_math_bits_deBruijn64tab)] }
def MeanEmptySaid : Prop := meanEmptyRow.holds Tryd.pinned (OpenSpec.ofChange meanEmptySpec)

/-- ITS FALSE NEIGHBOUR: 'it returns false'. Refute it at one input. -/
def meanEmptyWrong : ChangeSpec := { name := "meanEmpty", fn := fun _ => fun
  | [d1, d2, d3] => { results := [.lit (.bool false)], args := [d1, d2, d3] }
  | _ => none }
def MeanEmptyWrongFalsely : Prop := meanEmptyRow.holds Tryd.pinned (OpenSpec.ofChange meanEmptyWrong)

/- THE SECOND FORM. 'bulk': how many values and letters a reading holds, each counted each time it is reached (what is shared counts as often as it is met; a slice's spare places count too). A statement '..UptoSaid' is the law's where the arguments, and the package variables that the reading takes, are together of bulk at most 1048576: NARROWER than '..Said'. Prove '..Said' where nothing that the law and all that it calls make is longer than what came in: it says more and counts as full. Else prove '..UptoSaid'. A law counts once. -/
mutual
def uptoBulk {H : Type} : DataW H → Nat
  | .lit (.string bytes) => bytes.length + 1
  | .lit _ => 1
  | .nil => 1
  | .ptr d => uptoBulk d + 1
  | .slice elems spare => uptoBulkAll elems + uptoBulkAll spare + 1
  | .agg parts => uptoBulkAll parts + 1
  | .iface _ d => uptoBulk d + 1
  | .map entries => uptoBulkEntries entries + 1
  | .held _ => 1
def uptoBulkAll {H : Type} : List (DataW H) → Nat
  | [] => 0
  | d :: r => uptoBulk d + uptoBulkAll r
def uptoBulkEntries {H : Type} : List (Lit × DataW H) → Nat
  | [] => 0
  | x :: r => uptoBulkEntry x + uptoBulkEntries r
def uptoBulkEntry {H : Type} : Lit × DataW H → Nat
  | (.string bytes, d) => bytes.length + uptoBulk d + 1
  | (_, d) => uptoBulk d + 1
 end
def uptoSmall : (H : Type) → List (DataW H) → Bool := fun _ ds => decide (uptoBulkAll ds ≤ 1048576)
def OpenSpec.upto (s : _root_.Go.ChangeSpec) : _root_.Go.OpenSpec := { _root_.Go.OpenSpec.ofChange s with cond := some uptoSmall }

/-- 'winnowfanlaw1.ClassIs', WHERE WHAT IT READS IS OF BULK AT MOST 1048576: true; the input reads as it did. -/
def classIsUptoRow : OpenClaim := { program := "ytajkkmnojfghoaadoor", sum := "232efa1139a054d0279a46a4b03942e24aa70202b00ed1e24624408286b7e0ca", func := "winnowfan/winnowfanlaw1.ClassIs", spec := "classIs", inPlace := ["internal/reflectlite.ValueOf", "(internal/reflectlite.Value).Type", "(internal/reflectlite.Value).IsNil", "internal/reflectlite.TypeOf", "(internal/reflectlite.Value).Elem", "(internal/reflectlite.Value).Set", "internal/bytealg.IndexByteString", "internal/abi.NoEscape"], unfollowed := true, recurses := true, named := ["errors.errorType"], plainKeys := false, apart := false, laid := [("errors.errorType", laid_errors_errorType)], narrowed := true }
def ClassIsUptoSaid : Prop := classIsUptoRow.holds Tryd.pinned (OpenSpec.upto classIsSpec)

/-- 'winnowfanlaw1.RexIs', WHERE WHAT IT READS IS OF BULK AT MOST 1048576: true; the input reads as it did. -/
def rexIsUptoRow : OpenClaim := { program := "ytajkkmnojfghoaadoor", sum := "232efa1139a054d0279a46a4b03942e24aa70202b00ed1e24624408286b7e0ca", func := "winnowfan/winnowfanlaw1.RexIs", spec := "rexIs", inPlace := ["internal/reflectlite.ValueOf", "(internal/reflectlite.Value).Type", "(internal/reflectlite.Value).IsNil", "internal/reflectlite.TypeOf", "(internal/reflectlite.Value).Elem", "(internal/reflectlite.Value).Set"], unfollowed := true, recurses := true, named := ["errors.errorType"], plainKeys := false, apart := false, laid := [("errors.errorType", laid_errors_errorType)], narrowed := true }
def RexIsUptoSaid : Prop := rexIsUptoRow.holds Tryd.pinned (OpenSpec.upto rexIsSpec)

/-- 'winnowfanlaw1.SynBack', WHERE WHAT IT READS IS OF BULK AT MOST 1048576: true; the input reads as it did. -/
def synBackUptoRow : OpenClaim := { program := "ytajkkmnojfghoaadoor", sum := "232efa1139a054d0279a46a4b03942e24aa70202b00ed1e24624408286b7e0ca", func := "winnowfan/winnowfanlaw1.SynBack", spec := "synBack", inPlace := ["internal/abi.NoEscape", "internal/bytealg.IndexByteString", "slices.overlaps[winnowfan/api.Node]", "internal/reflectlite.ValueOf", "(internal/reflectlite.Value).Type", "(internal/reflectlite.Value).IsNil", "internal/reflectlite.TypeOf", "(internal/reflectlite.Value).Elem", "(internal/reflectlite.Value).Set"], unfollowed := true, recurses := true, named := ["errors.errorType"], plainKeys := false, apart := false, laid := [("errors.errorType", laid_errors_errorType)], narrowed := true }
def SynBackUptoSaid : Prop := synBackUptoRow.holds Tryd.pinned (OpenSpec.upto synBackSpec)

/-- 'winnowfanlaw1.MeanIs', WHERE WHAT IT READS IS OF BULK AT MOST 1048576: true; the input reads as it did. -/
def meanIsUptoRow : OpenClaim := { program := "ytajkkmnojfghoaadoor", sum := "232efa1139a054d0279a46a4b03942e24aa70202b00ed1e24624408286b7e0ca", func := "winnowfan/winnowfanlaw1.MeanIs", spec := "meanIs", inPlace := ["internal/reflectlite.ValueOf", "(internal/reflectlite.Value).Type", "(internal/reflectlite.Value).IsNil", "internal/reflectlite.TypeOf", "(internal/reflectlite.Value).Elem", "(internal/reflectlite.Value).Set"], unfollowed := true, recurses := true, named := ["math/bits.deBruijn64tab", "errors.errorType"], plainKeys := false, apart := false, laid := [("math/bits.deBruijn64tab", laid_math_bits_deBruijn64tab), ("errors.errorType", laid_errors_errorType)], narrowed := true }
def MeanIsUptoSaid : Prop := meanIsUptoRow.holds Tryd.pinned (OpenSpec.upto meanIsSpec)

/-- 'winnowfanlaw1.MeanLaws', WHERE WHAT IT READS IS OF BULK AT MOST 1048576: true; the input reads as it did. -/
def meanLawsUptoRow : OpenClaim := { program := "ytajkkmnojfghoaadoor", sum := "232efa1139a054d0279a46a4b03942e24aa70202b00ed1e24624408286b7e0ca", func := "winnowfan/winnowfanlaw1.MeanLaws", spec := "meanLaws", unfollowed := true, recurses := true, named := ["math/bits.deBruijn64tab"], plainKeys := false, apart := false, laid := [("math/bits.deBruijn64tab", laid_math_bits_deBruijn64tab)], narrowed := true }
def MeanLawsUptoSaid : Prop := meanLawsUptoRow.holds Tryd.pinned (OpenSpec.upto meanLawsSpec)

/-- 'winnowfanlaw1.MeanTurns', WHERE WHAT IT READS IS OF BULK AT MOST 1048576: true; the input reads as it did. -/
def meanTurnsUptoRow : OpenClaim := { program := "ytajkkmnojfghoaadoor", sum := "232efa1139a054d0279a46a4b03942e24aa70202b00ed1e24624408286b7e0ca", func := "winnowfan/winnowfanlaw1.MeanTurns", spec := "meanTurns", unfollowed := true, recurses := true, named := ["math/bits.deBruijn64tab"], plainKeys := false, apart := false, laid := [("math/bits.deBruijn64tab", laid_math_bits_deBruijn64tab)], narrowed := true }
def MeanTurnsUptoSaid : Prop := meanTurnsUptoRow.holds Tryd.pinned (OpenSpec.upto meanTurnsSpec)

/-- 'winnowfanlaw1.MeanEmpty', WHERE WHAT IT READS IS OF BULK AT MOST 1048576: true; the input reads as it did. -/
def meanEmptyUptoRow : OpenClaim := { program := "ytajkkmnojfghoaadoor", sum := "232efa1139a054d0279a46a4b03942e24aa70202b00ed1e24624408286b7e0ca", func := "winnowfan/winnowfanlaw1.MeanEmpty", spec := "meanEmpty", unfollowed := true, recurses := true, named := ["math/bits.deBruijn64tab"], plainKeys := false, apart := false, laid := [("math/bits.deBruijn64tab", laid_math_bits_deBruijn64tab)], narrowed := true }
def MeanEmptyUptoSaid : Prop := meanEmptyUptoRow.holds Tryd.pinned (OpenSpec.upto meanEmptySpec)

end Rows
end Go.Proofs.YtajkkmnojfghoaaDoor
