/-
  DERIVED. GIVEN WITH THE SEED: THE CARDS: each row of YtphcncgdodhlbaaDoorRows.lean that lists a variable, with what it lists TIED to the program's text (the seventh form; the later family's looks); each row that meets fmt, with fmt's text TOLD by the authors' own Lean function (tested against real Go, not proved from fmt's source: count such statements apart). THE CARD IS WHAT COUNTS. Prove the row's statement (the work); the ties are given (YtphcncgdodhlbaaDoorTie.lean); close each card by the builder's one call (the guide's Derived/Test/ToyasCard.lean, 'card_holds'). Laid BY PROGRAM, IN A SANDBOX (cutbox-door.mjs). By AI agents, Wed Nov 11 2026. No macro, syntax, notation, axiom, sorry.
-/
import Derived.Test.YtphcncgdodhlbaaDoorRows
import GoSem.ClaimSeven
namespace Go.Proofs.YtphcncgdodhlbaaDoor
namespace Rows

/-- THE TIED CARD OF 'winnowfanlaw2.FindIs'. -/
def findIsCard : Claim7 := { stood := { row := findIsRow, standIns := [], harness := (true, "87e40c64a390881a28c7cc74f3341abf0c095c33d6c0e5df0046171eb35f0db9"), looks := true }, kinds := [], alts := [], laidByText := true, laidKinds := [.data, .handle], laidTests := true, laidLooks := .later }
def FindIsCardSaid : Prop := Claim7.holds Tryd.pinned (.plain (OpenSpec.ofChange findIsSpec)) findIsCard

/-- THE TIED CARD OF 'winnowfanlaw2.FindFirst'. -/
def findFirstCard : Claim7 := { stood := { row := findFirstRow, standIns := [], harness := (true, "87e40c64a390881a28c7cc74f3341abf0c095c33d6c0e5df0046171eb35f0db9"), looks := true }, kinds := [], alts := [], laidByText := true, laidKinds := [.data, .handle], laidTests := true, laidLooks := .later }
def FindFirstCardSaid : Prop := Claim7.holds Tryd.pinned (.plain (OpenSpec.ofChange findFirstSpec)) findFirstCard

/-- THE TIED CARD OF 'winnowfanlaw2.FindAll'. -/
def findAllCard : Claim7 := { stood := { row := findAllRow, standIns := [], harness := (true, "87e40c64a390881a28c7cc74f3341abf0c095c33d6c0e5df0046171eb35f0db9"), looks := true }, kinds := [], alts := [], laidByText := true, laidKinds := [.data, .handle], laidTests := true, laidLooks := .later }
def FindAllCardSaid : Prop := Claim7.holds Tryd.pinned (.plain (OpenSpec.ofChange findAllSpec)) findAllCard

/-- THE TIED CARD OF 'winnowfanlaw2.FindLater'. -/
def findLaterCard : Claim7 := { stood := { row := findLaterRow, standIns := [], harness := (true, "87e40c64a390881a28c7cc74f3341abf0c095c33d6c0e5df0046171eb35f0db9"), looks := true }, kinds := [], alts := [], laidByText := true, laidKinds := [.data, .handle], laidTests := true, laidLooks := .later }
def FindLaterCardSaid : Prop := Claim7.holds Tryd.pinned (.plain (OpenSpec.ofChange findLaterSpec)) findLaterCard

/-- THE SECOND FORM's CARD OF 'winnowfanlaw2.FindIs'. -/
def findIsUptoCard : Claim7 := { stood := { row := findIsUptoRow, standIns := [], harness := (true, "87e40c64a390881a28c7cc74f3341abf0c095c33d6c0e5df0046171eb35f0db9"), looks := true }, kinds := [], alts := [], laidByText := true, laidKinds := [.data, .handle], laidTests := true, laidLooks := .later }
def FindIsUptoCardSaid : Prop := Claim7.holds Tryd.pinned (.plain (OpenSpec.upto findIsSpec)) findIsUptoCard

/-- THE SECOND FORM's CARD OF 'winnowfanlaw2.FindFirst'. -/
def findFirstUptoCard : Claim7 := { stood := { row := findFirstUptoRow, standIns := [], harness := (true, "87e40c64a390881a28c7cc74f3341abf0c095c33d6c0e5df0046171eb35f0db9"), looks := true }, kinds := [], alts := [], laidByText := true, laidKinds := [.data, .handle], laidTests := true, laidLooks := .later }
def FindFirstUptoCardSaid : Prop := Claim7.holds Tryd.pinned (.plain (OpenSpec.upto findFirstSpec)) findFirstUptoCard

/-- THE SECOND FORM's CARD OF 'winnowfanlaw2.FindAll'. -/
def findAllUptoCard : Claim7 := { stood := { row := findAllUptoRow, standIns := [], harness := (true, "87e40c64a390881a28c7cc74f3341abf0c095c33d6c0e5df0046171eb35f0db9"), looks := true }, kinds := [], alts := [], laidByText := true, laidKinds := [.data, .handle], laidTests := true, laidLooks := .later }
def FindAllUptoCardSaid : Prop := Claim7.holds Tryd.pinned (.plain (OpenSpec.upto findAllSpec)) findAllUptoCard

/-- THE SECOND FORM's CARD OF 'winnowfanlaw2.FindLater'. -/
def findLaterUptoCard : Claim7 := { stood := { row := findLaterUptoRow, standIns := [], harness := (true, "87e40c64a390881a28c7cc74f3341abf0c095c33d6c0e5df0046171eb35f0db9"), looks := true }, kinds := [], alts := [], laidByText := true, laidKinds := [.data, .handle], laidTests := true, laidLooks := .later }
def FindLaterUptoCardSaid : Prop := Claim7.holds Tryd.pinned (.plain (OpenSpec.upto findLaterSpec)) findLaterUptoCard
end Rows
end Go.Proofs.YtphcncgdodhlbaaDoor
