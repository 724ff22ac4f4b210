/-
  DERIVED. GIVEN WITH THE SEED: THE CARDS: each row of YthmiomgjeimblaaDoorRows.lean that lists a variable, with what it lists TIED to the program's text (the seventh form; the later family's looks); each row that meets fmt, with fmt's text TOLD by the authors' own Lean function (tested against real Go, not proved from fmt's source: count such statements apart). THE CARD IS WHAT COUNTS. Prove the row's statement (the work); the ties are given (YthmiomgjeimblaaDoorTie.lean); close each card by the builder's one call (the guide's Derived/Test/ToyasCard.lean, 'card_holds'). Laid BY PROGRAM, IN A SANDBOX (cutbox-door.mjs). By AI agents, Wed Nov 11 2026. No macro, syntax, notation, axiom, sorry.
-/
import Derived.Test.YthmiomgjeimblaaDoorRows
import GoSem.ClaimSeven
namespace Go.Proofs.YthmiomgjeimblaaDoor
namespace Rows

/-- THE TIED CARD OF 'winnowfanlaw2.ProgIs'. -/
def progIsCard : Claim7 := { stood := { row := progIsRow, standIns := [], harness := (true, "c2482f97c0d181323365056aa69fd1d4b9dc451b2b9ed1c43cec8b3ebd893c6f"), looks := true }, kinds := [], alts := [], laidByText := true, laidKinds := [.data, .data, .data, .handle], laidTests := true, laidLooks := .later }
def ProgIsCardSaid : Prop := Claim7.holds Tryd.pinned (.plain (OpenSpec.ofChange progIsSpec)) progIsCard

/-- THE SECOND FORM's CARD OF 'winnowfanlaw2.ProgIs'. -/
def progIsUptoCard : Claim7 := { stood := { row := progIsUptoRow, standIns := [], harness := (true, "c2482f97c0d181323365056aa69fd1d4b9dc451b2b9ed1c43cec8b3ebd893c6f"), looks := true }, kinds := [], alts := [], laidByText := true, laidKinds := [.data, .data, .data, .handle], laidTests := true, laidLooks := .later }
def ProgIsUptoCardSaid : Prop := Claim7.holds Tryd.pinned (.plain (OpenSpec.upto progIsSpec)) progIsUptoCard
end Rows
end Go.Proofs.YthmiomgjeimblaaDoor
