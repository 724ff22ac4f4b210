/-
  DERIVED. GIVEN WITH THE SEED: THE CARDS: each row of YtopoiljgghglaaaDoorRows.lean that lists a variable, with what it lists TIED to the program's text (the seventh form; the later family's looks); each row that meets fmt, with fmt's text TOLD by the authors' own Lean function (tested against real Go, not proved from fmt's source: count such statements apart). THE CARD IS WHAT COUNTS. Prove the row's statement (the work); the ties are given (YtopoiljgghglaaaDoorTie.lean); close each card by the builder's one call (the guide's Derived/Test/ToyasCard.lean, 'card_holds'). Laid BY PROGRAM, IN A SANDBOX (cutbox-door.mjs). By AI agents, Wed Nov 11 2026. No macro, syntax, notation, axiom, sorry.
-/
import Derived.Test.YtopoiljgghglaaaDoorRows
import GoSem.ClaimSeven
namespace Go.Proofs.YtopoiljgghglaaaDoor
namespace Rows

/-- THE TIED CARD OF 'winnowfanlaw2.ProgFits'. -/
def progFitsCard : Claim7 := { stood := { row := progFitsRow, standIns := [], harness := (true, "9e3f707c072eeae31ef0c256e96a81060d55ab9198bb50d4df4aab4f183b59e8"), looks := true }, kinds := [], alts := [], laidByText := true, laidKinds := [.data], laidTests := true, laidLooks := .later }
def ProgFitsCardSaid : Prop := Claim7.holds Tryd.pinned (.plain (OpenSpec.ofChange progFitsSpec)) progFitsCard

/-- THE TIED CARD OF 'winnowfanlaw2.SimIs'. -/
def simIsCard : Claim7 := { stood := { row := simIsRow, standIns := [], harness := (true, "9e3f707c072eeae31ef0c256e96a81060d55ab9198bb50d4df4aab4f183b59e8"), looks := true }, kinds := [], alts := [], laidByText := true, laidKinds := [.handle], laidTests := true, laidLooks := .later }
def SimIsCardSaid : Prop := Claim7.holds Tryd.pinned (.plain (OpenSpec.ofChange simIsSpec)) simIsCard

/-- THE SECOND FORM's CARD OF 'winnowfanlaw2.ProgFits'. -/
def progFitsUptoCard : Claim7 := { stood := { row := progFitsUptoRow, standIns := [], harness := (true, "9e3f707c072eeae31ef0c256e96a81060d55ab9198bb50d4df4aab4f183b59e8"), looks := true }, kinds := [], alts := [], laidByText := true, laidKinds := [.data], laidTests := true, laidLooks := .later }
def ProgFitsUptoCardSaid : Prop := Claim7.holds Tryd.pinned (.plain (OpenSpec.upto progFitsSpec)) progFitsUptoCard

/-- THE SECOND FORM's CARD OF 'winnowfanlaw2.SimIs'. -/
def simIsUptoCard : Claim7 := { stood := { row := simIsUptoRow, standIns := [], harness := (true, "9e3f707c072eeae31ef0c256e96a81060d55ab9198bb50d4df4aab4f183b59e8"), looks := true }, kinds := [], alts := [], laidByText := true, laidKinds := [.handle], laidTests := true, laidLooks := .later }
def SimIsUptoCardSaid : Prop := Claim7.holds Tryd.pinned (.plain (OpenSpec.upto simIsSpec)) simIsUptoCard
end Rows
end Go.Proofs.YtopoiljgghglaaaDoor
