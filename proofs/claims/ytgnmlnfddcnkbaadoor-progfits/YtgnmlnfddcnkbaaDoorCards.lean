/-
  DERIVED. GIVEN WITH THE SEED: THE CARDS: each row of YtgnmlnfddcnkbaaDoorRows.lean that lists a variable, with what it lists TIED to the program's text (the seventh form; the later family's looks); each row that meets fmt, with fmt's text TOLD by the authors' own Lean function (tested against real Go, not proved from fmt's source: count such statements apart). THE CARD IS WHAT COUNTS. Prove the row's statement (the work); the ties are given (YtgnmlnfddcnkbaaDoorTie.lean); close each card by the builder's one call (the guide's Derived/Test/ToyasCard.lean, 'card_holds'). Laid BY PROGRAM, IN A SANDBOX (cutbox-door.mjs). By AI agents, Wed Nov 11 2026. No macro, syntax, notation, axiom, sorry.
-/
import Derived.Test.YtgnmlnfddcnkbaaDoorRows
import GoSem.ClaimSeven
namespace Go.Proofs.YtgnmlnfddcnkbaaDoor
namespace Rows

/-- THE TIED CARD OF 'winnowfanlaw2.ProgFits'. -/
def progFitsCard : Claim7 := { stood := { row := progFitsRow, standIns := [], harness := (true, "3e38d6e88f3917a98cdc753ba2ba12e4458f6d49ed76fff9d0e901dce2d7cfc5"), looks := true }, kinds := [], alts := [], laidByText := true, laidKinds := [.data], laidTests := true, laidLooks := .later }
def ProgFitsCardSaid : Prop := Claim7.holds Tryd.pinned (.plain (OpenSpec.ofChange progFitsSpec)) progFitsCard

/-- THE TIED CARD OF 'winnowfanlaw2.ProgTurns'. -/
def progTurnsCard : Claim7 := { stood := { row := progTurnsRow, standIns := [], harness := (true, "3e38d6e88f3917a98cdc753ba2ba12e4458f6d49ed76fff9d0e901dce2d7cfc5"), looks := true }, kinds := [], alts := [], laidByText := true, laidKinds := [.data], laidTests := true, laidLooks := .later }
def ProgTurnsCardSaid : Prop := Claim7.holds Tryd.pinned (.plain (OpenSpec.ofChange progTurnsSpec)) progTurnsCard

/-- THE TIED CARD OF 'winnowfanlaw2.SimIs'. -/
def simIsCard : Claim7 := { stood := { row := simIsRow, standIns := [], harness := (true, "3e38d6e88f3917a98cdc753ba2ba12e4458f6d49ed76fff9d0e901dce2d7cfc5"), looks := true }, kinds := [], alts := [], laidByText := true, laidKinds := [.data, .handle], laidTests := true, laidLooks := .later }
def SimIsCardSaid : Prop := Claim7.holds Tryd.pinned (.plain (OpenSpec.ofChange simIsSpec)) simIsCard

/-- THE TIED CARD OF 'winnowfanlaw2.AutoSame'. -/
def autoSameCard : Claim7 := { stood := { row := autoSameRow, standIns := [], harness := (true, "3e38d6e88f3917a98cdc753ba2ba12e4458f6d49ed76fff9d0e901dce2d7cfc5"), looks := true }, kinds := [], alts := [], laidByText := true, laidKinds := [.data, .handle], laidTests := true, laidLooks := .later }
def AutoSameCardSaid : Prop := Claim7.holds Tryd.pinned (.plain (OpenSpec.ofChange autoSameSpec)) autoSameCard

/-- THE SECOND FORM's CARD OF 'winnowfanlaw2.ProgFits'. -/
def progFitsUptoCard : Claim7 := { stood := { row := progFitsUptoRow, standIns := [], harness := (true, "3e38d6e88f3917a98cdc753ba2ba12e4458f6d49ed76fff9d0e901dce2d7cfc5"), looks := true }, kinds := [], alts := [], laidByText := true, laidKinds := [.data], laidTests := true, laidLooks := .later }
def ProgFitsUptoCardSaid : Prop := Claim7.holds Tryd.pinned (.plain (OpenSpec.upto progFitsSpec)) progFitsUptoCard

/-- THE SECOND FORM's CARD OF 'winnowfanlaw2.ProgTurns'. -/
def progTurnsUptoCard : Claim7 := { stood := { row := progTurnsUptoRow, standIns := [], harness := (true, "3e38d6e88f3917a98cdc753ba2ba12e4458f6d49ed76fff9d0e901dce2d7cfc5"), looks := true }, kinds := [], alts := [], laidByText := true, laidKinds := [.data], laidTests := true, laidLooks := .later }
def ProgTurnsUptoCardSaid : Prop := Claim7.holds Tryd.pinned (.plain (OpenSpec.upto progTurnsSpec)) progTurnsUptoCard

/-- THE SECOND FORM's CARD OF 'winnowfanlaw2.SimIs'. -/
def simIsUptoCard : Claim7 := { stood := { row := simIsUptoRow, standIns := [], harness := (true, "3e38d6e88f3917a98cdc753ba2ba12e4458f6d49ed76fff9d0e901dce2d7cfc5"), looks := true }, kinds := [], alts := [], laidByText := true, laidKinds := [.data, .handle], laidTests := true, laidLooks := .later }
def SimIsUptoCardSaid : Prop := Claim7.holds Tryd.pinned (.plain (OpenSpec.upto simIsSpec)) simIsUptoCard

/-- THE SECOND FORM's CARD OF 'winnowfanlaw2.AutoSame'. -/
def autoSameUptoCard : Claim7 := { stood := { row := autoSameUptoRow, standIns := [], harness := (true, "3e38d6e88f3917a98cdc753ba2ba12e4458f6d49ed76fff9d0e901dce2d7cfc5"), looks := true }, kinds := [], alts := [], laidByText := true, laidKinds := [.data, .handle], laidTests := true, laidLooks := .later }
def AutoSameUptoCardSaid : Prop := Claim7.holds Tryd.pinned (.plain (OpenSpec.upto autoSameSpec)) autoSameUptoCard
end Rows
end Go.Proofs.YtgnmlnfddcnkbaaDoor
