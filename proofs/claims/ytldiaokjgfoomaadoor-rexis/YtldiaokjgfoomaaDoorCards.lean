/-
  DERIVED. GIVEN WITH THE SEED: THE CARDS: each row of YtldiaokjgfoomaaDoorRows.lean that lists a variable, with what it lists TIED to the program's text (the seventh form; the later family's looks); each row that meets fmt, with fmt's text TOLD by the authors' own Lean function (tested against real Go, not proved from fmt's source: count such statements apart). THE CARD IS WHAT COUNTS. Prove the row's statement (the work); the ties are given (YtldiaokjgfoomaaDoorTie.lean); close each card by the builder's one call (the guide's Derived/Test/ToyasCard.lean, 'card_holds'). Laid BY PROGRAM, IN A SANDBOX (cutbox-door.mjs). By AI agents, Wed Nov 11 2026. No macro, syntax, notation, axiom, sorry.
-/
import Derived.Test.YtldiaokjgfoomaaDoorRows
import GoSem.ClaimSeven
namespace Go.Proofs.YtldiaokjgfoomaaDoor
namespace Rows

/-- THE TIED CARD OF 'winnowfanlaw1.ClassIs'. -/
def classIsCard : Claim7 := { stood := { row := classIsRow, standIns := [], harness := (true, "da3beca619dbb7d501758d835cf90d87bbbc3f61e1343fca2e5a84841c4b7fdb"), looks := true }, kinds := [], alts := [], laidByText := true, laidKinds := [.handle], laidTests := true, laidLooks := .later }
def ClassIsCardSaid : Prop := Claim7.holds Tryd.pinned (.plain (OpenSpec.ofChange classIsSpec)) classIsCard

/-- THE TIED CARD OF 'winnowfanlaw1.RexIs'. -/
def rexIsCard : Claim7 := { stood := { row := rexIsRow, standIns := [], harness := (true, "da3beca619dbb7d501758d835cf90d87bbbc3f61e1343fca2e5a84841c4b7fdb"), looks := true }, kinds := [], alts := [], laidByText := true, laidKinds := [.handle], laidTests := true, laidLooks := .later }
def RexIsCardSaid : Prop := Claim7.holds Tryd.pinned (.plain (OpenSpec.ofChange rexIsSpec)) rexIsCard

/-- THE SECOND FORM's CARD OF 'winnowfanlaw1.ClassIs'. -/
def classIsUptoCard : Claim7 := { stood := { row := classIsUptoRow, standIns := [], harness := (true, "da3beca619dbb7d501758d835cf90d87bbbc3f61e1343fca2e5a84841c4b7fdb"), looks := true }, kinds := [], alts := [], laidByText := true, laidKinds := [.handle], laidTests := true, laidLooks := .later }
def ClassIsUptoCardSaid : Prop := Claim7.holds Tryd.pinned (.plain (OpenSpec.upto classIsSpec)) classIsUptoCard

/-- THE SECOND FORM's CARD OF 'winnowfanlaw1.RexIs'. -/
def rexIsUptoCard : Claim7 := { stood := { row := rexIsUptoRow, standIns := [], harness := (true, "da3beca619dbb7d501758d835cf90d87bbbc3f61e1343fca2e5a84841c4b7fdb"), looks := true }, kinds := [], alts := [], laidByText := true, laidKinds := [.handle], laidTests := true, laidLooks := .later }
def RexIsUptoCardSaid : Prop := Claim7.holds Tryd.pinned (.plain (OpenSpec.upto rexIsSpec)) rexIsUptoCard
end Rows
end Go.Proofs.YtldiaokjgfoomaaDoor
