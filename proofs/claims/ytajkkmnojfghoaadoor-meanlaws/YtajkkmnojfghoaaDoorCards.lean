/-
  DERIVED. GIVEN WITH THE SEED: THE CARDS: each row of YtajkkmnojfghoaaDoorRows.lean that lists a variable, with what it lists TIED to the program's text (the seventh form; the later family's looks); each row that meets fmt, with fmt's text TOLD by the authors' own Lean function (tested against real Go, not proved from fmt's source: count such statements apart). THE CARD IS WHAT COUNTS. Prove the row's statement (the work); the ties are given (YtajkkmnojfghoaaDoorTie.lean); close each card by the builder's one call (the guide's Derived/Test/ToyasCard.lean, 'card_holds'). Laid BY PROGRAM, IN A SANDBOX (cutbox-door.mjs). By AI agents, Wed Nov 11 2026. No macro, syntax, notation, axiom, sorry.
-/
import Derived.Test.YtajkkmnojfghoaaDoorRows
import GoSem.ClaimSeven
namespace Go.Proofs.YtajkkmnojfghoaaDoor
namespace Rows

/-- THE TIED CARD OF 'winnowfanlaw1.ClassIs'. -/
def classIsCard : Claim7 := { stood := { row := classIsRow, standIns := [], harness := (true, "8d4ce13faca705641f18d143e9a9fd21868019f8d96bc41e0d51c37eca32da2c"), looks := true }, kinds := [], alts := [], laidByText := true, laidKinds := [.handle], laidTests := true, laidLooks := .later }
def ClassIsCardSaid : Prop := Claim7.holds Tryd.pinned (.plain (OpenSpec.ofChange classIsSpec)) classIsCard

/-- THE TIED CARD OF 'winnowfanlaw1.RexIs'. -/
def rexIsCard : Claim7 := { stood := { row := rexIsRow, standIns := [], harness := (true, "8d4ce13faca705641f18d143e9a9fd21868019f8d96bc41e0d51c37eca32da2c"), looks := true }, kinds := [], alts := [], laidByText := true, laidKinds := [.handle], laidTests := true, laidLooks := .later }
def RexIsCardSaid : Prop := Claim7.holds Tryd.pinned (.plain (OpenSpec.ofChange rexIsSpec)) rexIsCard

/-- THE TIED CARD OF 'winnowfanlaw1.SynBack'. -/
def synBackCard : Claim7 := { stood := { row := synBackRow, standIns := [], harness := (true, "8d4ce13faca705641f18d143e9a9fd21868019f8d96bc41e0d51c37eca32da2c"), looks := true }, kinds := [], alts := [], laidByText := true, laidKinds := [.handle], laidTests := true, laidLooks := .later }
def SynBackCardSaid : Prop := Claim7.holds Tryd.pinned (.plain (OpenSpec.ofChange synBackSpec)) synBackCard

/-- THE TIED CARD OF 'winnowfanlaw1.MeanIs'. -/
def meanIsCard : Claim7 := { stood := { row := meanIsRow, standIns := [], harness := (true, "8d4ce13faca705641f18d143e9a9fd21868019f8d96bc41e0d51c37eca32da2c"), looks := true }, kinds := [], alts := [], laidByText := true, laidKinds := [.data, .handle], laidTests := true, laidLooks := .later }
def MeanIsCardSaid : Prop := Claim7.holds Tryd.pinned (.plain (OpenSpec.ofChange meanIsSpec)) meanIsCard

/-- THE TIED CARD OF 'winnowfanlaw1.MeanLaws'. -/
def meanLawsCard : Claim7 := { stood := { row := meanLawsRow, standIns := [], harness := (true, "8d4ce13faca705641f18d143e9a9fd21868019f8d96bc41e0d51c37eca32da2c"), looks := true }, kinds := [], alts := [], laidByText := true, laidKinds := [.data], laidTests := true, laidLooks := .later }
def MeanLawsCardSaid : Prop := Claim7.holds Tryd.pinned (.plain (OpenSpec.ofChange meanLawsSpec)) meanLawsCard

/-- THE TIED CARD OF 'winnowfanlaw1.MeanTurns'. -/
def meanTurnsCard : Claim7 := { stood := { row := meanTurnsRow, standIns := [], harness := (true, "8d4ce13faca705641f18d143e9a9fd21868019f8d96bc41e0d51c37eca32da2c"), looks := true }, kinds := [], alts := [], laidByText := true, laidKinds := [.data], laidTests := true, laidLooks := .later }
def MeanTurnsCardSaid : Prop := Claim7.holds Tryd.pinned (.plain (OpenSpec.ofChange meanTurnsSpec)) meanTurnsCard

/-- THE TIED CARD OF 'winnowfanlaw1.MeanEmpty'. -/
def meanEmptyCard : Claim7 := { stood := { row := meanEmptyRow, standIns := [], harness := (true, "8d4ce13faca705641f18d143e9a9fd21868019f8d96bc41e0d51c37eca32da2c"), looks := true }, kinds := [], alts := [], laidByText := true, laidKinds := [.data], laidTests := true, laidLooks := .later }
def MeanEmptyCardSaid : Prop := Claim7.holds Tryd.pinned (.plain (OpenSpec.ofChange meanEmptySpec)) meanEmptyCard

/-- THE SECOND FORM's CARD OF 'winnowfanlaw1.ClassIs'. -/
def classIsUptoCard : Claim7 := { stood := { row := classIsUptoRow, standIns := [], harness := (true, "8d4ce13faca705641f18d143e9a9fd21868019f8d96bc41e0d51c37eca32da2c"), looks := true }, kinds := [], alts := [], laidByText := true, laidKinds := [.handle], laidTests := true, laidLooks := .later }
def ClassIsUptoCardSaid : Prop := Claim7.holds Tryd.pinned (.plain (OpenSpec.upto classIsSpec)) classIsUptoCard

/-- THE SECOND FORM's CARD OF 'winnowfanlaw1.RexIs'. -/
def rexIsUptoCard : Claim7 := { stood := { row := rexIsUptoRow, standIns := [], harness := (true, "8d4ce13faca705641f18d143e9a9fd21868019f8d96bc41e0d51c37eca32da2c"), looks := true }, kinds := [], alts := [], laidByText := true, laidKinds := [.handle], laidTests := true, laidLooks := .later }
def RexIsUptoCardSaid : Prop := Claim7.holds Tryd.pinned (.plain (OpenSpec.upto rexIsSpec)) rexIsUptoCard

/-- THE SECOND FORM's CARD OF 'winnowfanlaw1.SynBack'. -/
def synBackUptoCard : Claim7 := { stood := { row := synBackUptoRow, standIns := [], harness := (true, "8d4ce13faca705641f18d143e9a9fd21868019f8d96bc41e0d51c37eca32da2c"), looks := true }, kinds := [], alts := [], laidByText := true, laidKinds := [.handle], laidTests := true, laidLooks := .later }
def SynBackUptoCardSaid : Prop := Claim7.holds Tryd.pinned (.plain (OpenSpec.upto synBackSpec)) synBackUptoCard

/-- THE SECOND FORM's CARD OF 'winnowfanlaw1.MeanIs'. -/
def meanIsUptoCard : Claim7 := { stood := { row := meanIsUptoRow, standIns := [], harness := (true, "8d4ce13faca705641f18d143e9a9fd21868019f8d96bc41e0d51c37eca32da2c"), looks := true }, kinds := [], alts := [], laidByText := true, laidKinds := [.data, .handle], laidTests := true, laidLooks := .later }
def MeanIsUptoCardSaid : Prop := Claim7.holds Tryd.pinned (.plain (OpenSpec.upto meanIsSpec)) meanIsUptoCard

/-- THE SECOND FORM's CARD OF 'winnowfanlaw1.MeanLaws'. -/
def meanLawsUptoCard : Claim7 := { stood := { row := meanLawsUptoRow, standIns := [], harness := (true, "8d4ce13faca705641f18d143e9a9fd21868019f8d96bc41e0d51c37eca32da2c"), looks := true }, kinds := [], alts := [], laidByText := true, laidKinds := [.data], laidTests := true, laidLooks := .later }
def MeanLawsUptoCardSaid : Prop := Claim7.holds Tryd.pinned (.plain (OpenSpec.upto meanLawsSpec)) meanLawsUptoCard

/-- THE SECOND FORM's CARD OF 'winnowfanlaw1.MeanTurns'. -/
def meanTurnsUptoCard : Claim7 := { stood := { row := meanTurnsUptoRow, standIns := [], harness := (true, "8d4ce13faca705641f18d143e9a9fd21868019f8d96bc41e0d51c37eca32da2c"), looks := true }, kinds := [], alts := [], laidByText := true, laidKinds := [.data], laidTests := true, laidLooks := .later }
def MeanTurnsUptoCardSaid : Prop := Claim7.holds Tryd.pinned (.plain (OpenSpec.upto meanTurnsSpec)) meanTurnsUptoCard

/-- THE SECOND FORM's CARD OF 'winnowfanlaw1.MeanEmpty'. -/
def meanEmptyUptoCard : Claim7 := { stood := { row := meanEmptyUptoRow, standIns := [], harness := (true, "8d4ce13faca705641f18d143e9a9fd21868019f8d96bc41e0d51c37eca32da2c"), looks := true }, kinds := [], alts := [], laidByText := true, laidKinds := [.data], laidTests := true, laidLooks := .later }
def MeanEmptyUptoCardSaid : Prop := Claim7.holds Tryd.pinned (.plain (OpenSpec.upto meanEmptySpec)) meanEmptyUptoCard
end Rows
end Go.Proofs.YtajkkmnojfghoaaDoor
