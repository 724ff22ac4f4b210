/-
  DERIVED. GIVEN WITH THE SEED: THE CARDS: each row of YtmdfdlljeggbbaaGreatDoorRows.lean that lists a variable, with what it lists TIED to the program's text (the seventh form; the later family's looks); each row that meets fmt, with fmt's text TOLD by the authors' own Lean function (tested against real Go, not proved from fmt's source: count such statements apart). THE CARD IS WHAT COUNTS. Prove the row's statement (the work); the ties are given (YtmdfdlljeggbbaaGreatDoorTie.lean); close each card by the builder's one call (the guide's Derived/Test/ToyasCard.lean, 'card_holds'). Laid BY PROGRAM, IN A SANDBOX (cutbox-door.mjs). By AI agents, Wed Nov 11 2026. No macro, syntax, notation, axiom, sorry.
-/
import Derived.Test.YtmdfdlljeggbbaaGreatDoorRows
import GoSem.ClaimSeven
namespace Go.Proofs.YtmdfdlljeggbbaaGreatDoor
namespace Rows

/-- THE TIED CARD OF 'winnowfanlaw1.SynIs'. -/
def synIsCard : Claim7 := { stood := { row := synIsRow, standIns := [], harness := (true, "11d2b181c528d105d8b3c153893fc606bb708c01e00f7a3b2359a01fce75290b"), looks := true }, kinds := [], alts := [], laidByText := true, laidKinds := [.handle], laidTests := true, laidLooks := .later }
def SynIsCardSaid : Prop := Claim7.holds Tryz.pinned (.plain (OpenSpec.ofChange synIsSpec)) synIsCard

/-- THE SECOND FORM's CARD OF 'winnowfanlaw1.SynIs'. -/
def synIsUptoCard : Claim7 := { stood := { row := synIsUptoRow, standIns := [], harness := (true, "11d2b181c528d105d8b3c153893fc606bb708c01e00f7a3b2359a01fce75290b"), looks := true }, kinds := [], alts := [], laidByText := true, laidKinds := [.handle], laidTests := true, laidLooks := .later }
def SynIsUptoCardSaid : Prop := Claim7.holds Tryz.pinned (.plain (OpenSpec.upto synIsSpec)) synIsUptoCard
end Rows
end Go.Proofs.YtmdfdlljeggbbaaGreatDoor
