/-
  DERIVED. GIVEN WITH THE SEED: THE CARDS: each row of YteeamifjldoihaaDoorRows.lean that lists a variable, with what it lists TIED to the program's text (the seventh form; the later family's looks); each row that meets fmt, with fmt's text TOLD by the authors' own Lean function (tested against real Go, not proved from fmt's source: count such statements apart). THE CARD IS WHAT COUNTS. Prove the row's statement (the work); the ties are given (YteeamifjldoihaaDoorTie.lean); close each card by the builder's one call (the guide's Derived/Test/ToyasCard.lean, 'card_holds'). Laid BY PROGRAM, IN A SANDBOX (cutbox-door.mjs). By AI agents, Wed Nov 11 2026. No macro, syntax, notation, axiom, sorry.
-/
import Derived.Test.YteeamifjldoihaaDoorRows
import GoSem.ClaimSeven
namespace Go.Proofs.YteeamifjldoihaaDoor
namespace Rows

/-- THE TIED CARD OF 'winnowfanlaw3.FeedIs'. -/
def feedIsCard : Claim7 := { stood := { row := feedIsRow, standIns := [], harness := (true, "b62e18f54b4bf8cff0d29df525e8b763564d82538a539a8a5e3787145a12afa1"), looks := true }, kinds := [], alts := [], laidByText := true, laidKinds := [.data, .handle], laidTests := true, laidLooks := .later }
def FeedIsCardSaid : Prop := Claim7.holds Tryd.pinned (.plain (OpenSpec.ofChange feedIsSpec)) feedIsCard

/-- THE TIED CARD OF 'winnowfanlaw3.FeedPieces'. -/
def feedPiecesCard : Claim7 := { stood := { row := feedPiecesRow, standIns := [], harness := (true, "b62e18f54b4bf8cff0d29df525e8b763564d82538a539a8a5e3787145a12afa1"), looks := true }, kinds := [], alts := [], laidByText := true, laidKinds := [.data], laidTests := true, laidLooks := .later }
def FeedPiecesCardSaid : Prop := Claim7.holds Tryd.pinned (.plain (OpenSpec.ofChange feedPiecesSpec)) feedPiecesCard

/-- THE SECOND FORM's CARD OF 'winnowfanlaw3.FeedIs'. -/
def feedIsUptoCard : Claim7 := { stood := { row := feedIsUptoRow, standIns := [], harness := (true, "b62e18f54b4bf8cff0d29df525e8b763564d82538a539a8a5e3787145a12afa1"), looks := true }, kinds := [], alts := [], laidByText := true, laidKinds := [.data, .handle], laidTests := true, laidLooks := .later }
def FeedIsUptoCardSaid : Prop := Claim7.holds Tryd.pinned (.plain (OpenSpec.upto feedIsSpec)) feedIsUptoCard

/-- THE SECOND FORM's CARD OF 'winnowfanlaw3.FeedPieces'. -/
def feedPiecesUptoCard : Claim7 := { stood := { row := feedPiecesUptoRow, standIns := [], harness := (true, "b62e18f54b4bf8cff0d29df525e8b763564d82538a539a8a5e3787145a12afa1"), looks := true }, kinds := [], alts := [], laidByText := true, laidKinds := [.data], laidTests := true, laidLooks := .later }
def FeedPiecesUptoCardSaid : Prop := Claim7.holds Tryd.pinned (.plain (OpenSpec.upto feedPiecesSpec)) feedPiecesUptoCard
end Rows
end Go.Proofs.YteeamifjldoihaaDoor
