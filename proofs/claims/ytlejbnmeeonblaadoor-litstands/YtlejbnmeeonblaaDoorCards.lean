/-
  DERIVED. GIVEN WITH THE SEED: THE CARDS: each row of YtlejbnmeeonblaaDoorRows.lean that lists a variable, with what it lists TIED to the program's text (the seventh form; the later family's looks); each row that meets fmt, with fmt's text TOLD by the authors' own Lean function (tested against real Go, not proved from fmt's source: count such statements apart). THE CARD IS WHAT COUNTS. Prove the row's statement (the work); the ties are given (YtlejbnmeeonblaaDoorTie.lean); close each card by the builder's one call (the guide's Derived/Test/ToyasCard.lean, 'card_holds'). Laid BY PROGRAM, IN A SANDBOX (cutbox-door.mjs). By AI agents, Wed Nov 11 2026. No macro, syntax, notation, axiom, sorry.
-/
import Derived.Test.YtlejbnmeeonblaaDoorRows
import GoSem.ClaimSeven
namespace Go.Proofs.YtlejbnmeeonblaaDoor
namespace Rows

/-- THE TIED CARD OF 'winnowfanlaw2.LitIs'. -/
def litIsCard : Claim7 := { stood := { row := litIsRow, standIns := [], harness := (true, "b85e11e826a82169d7105c0ed30bfa3d797e830b1798dbc9b9ec634d39ea787d"), looks := true }, kinds := [], alts := [], laidByText := true, laidKinds := [.handle], laidTests := true, laidLooks := .later }
def LitIsCardSaid : Prop := Claim7.holds Tryd.pinned (.plain (OpenSpec.ofChange litIsSpec)) litIsCard

/-- THE TIED CARD OF 'winnowfanlaw2.LitStands'. -/
def litStandsCard : Claim7 := { stood := { row := litStandsRow, standIns := [], harness := (true, "b85e11e826a82169d7105c0ed30bfa3d797e830b1798dbc9b9ec634d39ea787d"), looks := true }, kinds := [], alts := [], laidByText := true, laidKinds := [.data], laidTests := true, laidLooks := .later }
def LitStandsCardSaid : Prop := Claim7.holds Tryd.pinned (.plain (OpenSpec.ofChange litStandsSpec)) litStandsCard

/-- THE SECOND FORM's CARD OF 'winnowfanlaw2.LitIs'. -/
def litIsUptoCard : Claim7 := { stood := { row := litIsUptoRow, standIns := [], harness := (true, "b85e11e826a82169d7105c0ed30bfa3d797e830b1798dbc9b9ec634d39ea787d"), looks := true }, kinds := [], alts := [], laidByText := true, laidKinds := [.handle], laidTests := true, laidLooks := .later }
def LitIsUptoCardSaid : Prop := Claim7.holds Tryd.pinned (.plain (OpenSpec.upto litIsSpec)) litIsUptoCard

/-- THE SECOND FORM's CARD OF 'winnowfanlaw2.LitStands'. -/
def litStandsUptoCard : Claim7 := { stood := { row := litStandsUptoRow, standIns := [], harness := (true, "b85e11e826a82169d7105c0ed30bfa3d797e830b1798dbc9b9ec634d39ea787d"), looks := true }, kinds := [], alts := [], laidByText := true, laidKinds := [.data], laidTests := true, laidLooks := .later }
def LitStandsUptoCardSaid : Prop := Claim7.holds Tryd.pinned (.plain (OpenSpec.upto litStandsSpec)) litStandsUptoCard
end Rows
end Go.Proofs.YtlejbnmeeonblaaDoor
