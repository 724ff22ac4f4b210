/-
  DERIVED. GIVEN WITH THE SEED: THE CARDS: each row of YtejbififfceamaaGreatDoorRows.lean that lists a variable, with what it lists TIED to the program's text (the seventh form; the later family's looks); each row that meets fmt, with fmt's text TOLD by the authors' own Lean function (tested against real Go, not proved from fmt's source: count such statements apart). THE CARD IS WHAT COUNTS. Prove the row's statement (the work); the ties are given (YtejbififfceamaaGreatDoorTie.lean); close each card by the builder's one call (the guide's Derived/Test/ToyasCard.lean, 'card_holds'). Laid BY PROGRAM, IN A SANDBOX (cutbox-door.mjs). By AI agents, Wed Nov 11 2026. No macro, syntax, notation, axiom, sorry.
-/
import Derived.Test.YtejbififfceamaaGreatDoorRows
import GoSem.ClaimSeven
namespace Go.Proofs.YtejbififfceamaaGreatDoor
namespace Rows

/-- THE TIED CARD OF 'winnowfanlaw3.SetPlays'. -/
def setPlaysCard : Claim7 := { stood := { row := setPlaysRow, standIns := [], harness := (true, "4951029ae3a3daef76294f64716a4b5a968cadc2fd90d613e0a00e0f50500703"), looks := true }, kinds := [], alts := [], laidByText := true, laidKinds := [.data, .handle], laidTests := true, laidLooks := .later }
def SetPlaysCardSaid : Prop := Claim7.holds Tryz.pinned (.plain (OpenSpec.ofChange setPlaysSpec)) setPlaysCard

/-- THE TIED CARD OF 'winnowfanlaw3.SetAlone'. -/
def setAloneCard : Claim7 := { stood := { row := setAloneRow, standIns := [], harness := (true, "4951029ae3a3daef76294f64716a4b5a968cadc2fd90d613e0a00e0f50500703"), looks := true }, kinds := [], alts := [], laidByText := true, laidKinds := [.data], laidTests := true, laidLooks := .later }
def SetAloneCardSaid : Prop := Claim7.holds Tryz.pinned (.plain (OpenSpec.ofChange setAloneSpec)) setAloneCard

/-- THE TIED CARD OF 'winnowfanlaw3.SetFilter'. -/
def setFilterCard : Claim7 := { stood := { row := setFilterRow, standIns := [], harness := (true, "4951029ae3a3daef76294f64716a4b5a968cadc2fd90d613e0a00e0f50500703"), looks := true }, kinds := [], alts := [], laidByText := true, laidKinds := [.data], laidTests := true, laidLooks := .later }
def SetFilterCardSaid : Prop := Claim7.holds Tryz.pinned (.plain (OpenSpec.ofChange setFilterSpec)) setFilterCard

/-- THE SECOND FORM's CARD OF 'winnowfanlaw3.SetPlays'. -/
def setPlaysUptoCard : Claim7 := { stood := { row := setPlaysUptoRow, standIns := [], harness := (true, "4951029ae3a3daef76294f64716a4b5a968cadc2fd90d613e0a00e0f50500703"), looks := true }, kinds := [], alts := [], laidByText := true, laidKinds := [.data, .handle], laidTests := true, laidLooks := .later }
def SetPlaysUptoCardSaid : Prop := Claim7.holds Tryz.pinned (.plain (OpenSpec.upto setPlaysSpec)) setPlaysUptoCard

/-- THE SECOND FORM's CARD OF 'winnowfanlaw3.SetAlone'. -/
def setAloneUptoCard : Claim7 := { stood := { row := setAloneUptoRow, standIns := [], harness := (true, "4951029ae3a3daef76294f64716a4b5a968cadc2fd90d613e0a00e0f50500703"), looks := true }, kinds := [], alts := [], laidByText := true, laidKinds := [.data], laidTests := true, laidLooks := .later }
def SetAloneUptoCardSaid : Prop := Claim7.holds Tryz.pinned (.plain (OpenSpec.upto setAloneSpec)) setAloneUptoCard

/-- THE SECOND FORM's CARD OF 'winnowfanlaw3.SetFilter'. -/
def setFilterUptoCard : Claim7 := { stood := { row := setFilterUptoRow, standIns := [], harness := (true, "4951029ae3a3daef76294f64716a4b5a968cadc2fd90d613e0a00e0f50500703"), looks := true }, kinds := [], alts := [], laidByText := true, laidKinds := [.data], laidTests := true, laidLooks := .later }
def SetFilterUptoCardSaid : Prop := Claim7.holds Tryz.pinned (.plain (OpenSpec.upto setFilterSpec)) setFilterUptoCard
end Rows
end Go.Proofs.YtejbififfceamaaGreatDoor
