/-
  DERIVED. GIVEN WITH THE SEED: THE CARDS: each row of YtmdfdlljeggbbaaDoorRows.lean that lists a variable, with what it lists TIED to the program's text (the seventh form; the later family's looks); each row that meets fmt, with fmt's text TOLD by the authors' own Lean function (tested against real Go, not proved from fmt's source: count such statements apart). THE CARD IS WHAT COUNTS. Prove the row's statement (the work); the ties are given (YtmdfdlljeggbbaaDoorTie.lean); close each card by the builder's one call (the guide's Derived/Test/ToyasCard.lean, 'card_holds'). Laid BY PROGRAM, IN A SANDBOX (cutbox-door.mjs). By AI agents, Wed Nov 11 2026. No macro, syntax, notation, axiom, sorry.
-/
import Derived.Test.YtmdfdlljeggbbaaDoorRows
import GoSem.ClaimSeven
namespace Go.Proofs.YtmdfdlljeggbbaaDoor
namespace Rows

/-- THE TIED CARD OF 'winnowfanlaw1.ClassIs'. -/
def classIsCard : Claim7 := { stood := { row := classIsRow, standIns := [], harness := (true, "3be992caed9b4eb0fcf6cda9a6c445a1ae664efd2c9012850221e1e06646a1a4"), looks := true }, kinds := [], alts := [], laidByText := true, laidKinds := [.handle], laidTests := true, laidLooks := .later }
def ClassIsCardSaid : Prop := Claim7.holds Tryd.pinned (.plain (OpenSpec.ofChange classIsSpec)) classIsCard

/-- THE TIED CARD OF 'winnowfanlaw1.RexIs'. -/
def rexIsCard : Claim7 := { stood := { row := rexIsRow, standIns := [], harness := (true, "3be992caed9b4eb0fcf6cda9a6c445a1ae664efd2c9012850221e1e06646a1a4"), looks := true }, kinds := [], alts := [], laidByText := true, laidKinds := [.handle], laidTests := true, laidLooks := .later }
def RexIsCardSaid : Prop := Claim7.holds Tryd.pinned (.plain (OpenSpec.ofChange rexIsSpec)) rexIsCard

/-- THE TIED CARD OF 'winnowfanlaw1.SynBack'. -/
def synBackCard : Claim7 := { stood := { row := synBackRow, standIns := [], harness := (true, "3be992caed9b4eb0fcf6cda9a6c445a1ae664efd2c9012850221e1e06646a1a4"), looks := true }, kinds := [], alts := [], laidByText := true, laidKinds := [.handle], laidTests := true, laidLooks := .later }
def SynBackCardSaid : Prop := Claim7.holds Tryd.pinned (.plain (OpenSpec.ofChange synBackSpec)) synBackCard

/-- THE SECOND FORM's CARD OF 'winnowfanlaw1.ClassIs'. -/
def classIsUptoCard : Claim7 := { stood := { row := classIsUptoRow, standIns := [], harness := (true, "3be992caed9b4eb0fcf6cda9a6c445a1ae664efd2c9012850221e1e06646a1a4"), looks := true }, kinds := [], alts := [], laidByText := true, laidKinds := [.handle], laidTests := true, laidLooks := .later }
def ClassIsUptoCardSaid : Prop := Claim7.holds Tryd.pinned (.plain (OpenSpec.upto classIsSpec)) classIsUptoCard

/-- THE SECOND FORM's CARD OF 'winnowfanlaw1.RexIs'. -/
def rexIsUptoCard : Claim7 := { stood := { row := rexIsUptoRow, standIns := [], harness := (true, "3be992caed9b4eb0fcf6cda9a6c445a1ae664efd2c9012850221e1e06646a1a4"), looks := true }, kinds := [], alts := [], laidByText := true, laidKinds := [.handle], laidTests := true, laidLooks := .later }
def RexIsUptoCardSaid : Prop := Claim7.holds Tryd.pinned (.plain (OpenSpec.upto rexIsSpec)) rexIsUptoCard

/-- THE SECOND FORM's CARD OF 'winnowfanlaw1.SynBack'. -/
def synBackUptoCard : Claim7 := { stood := { row := synBackUptoRow, standIns := [], harness := (true, "3be992caed9b4eb0fcf6cda9a6c445a1ae664efd2c9012850221e1e06646a1a4"), looks := true }, kinds := [], alts := [], laidByText := true, laidKinds := [.handle], laidTests := true, laidLooks := .later }
def SynBackUptoCardSaid : Prop := Claim7.holds Tryd.pinned (.plain (OpenSpec.upto synBackSpec)) synBackUptoCard
end Rows
end Go.Proofs.YtmdfdlljeggbbaaDoor
