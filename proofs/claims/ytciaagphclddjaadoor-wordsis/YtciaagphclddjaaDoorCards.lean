/-
  DERIVED. GIVEN WITH THE SEED: THE CARDS: each row of YtciaagphclddjaaDoorRows.lean that lists a variable, with what it lists TIED to the program's text (the seventh form; the later family's looks); each row that meets fmt, with fmt's text TOLD by the authors' own Lean function (tested against real Go, not proved from fmt's source: count such statements apart). THE CARD IS WHAT COUNTS. Prove the row's statement (the work); the ties are given (YtciaagphclddjaaDoorTie.lean); close each card by the builder's one call (the guide's Derived/Test/ToyasCard.lean, 'card_holds'). Laid BY PROGRAM, IN A SANDBOX (cutbox-door.mjs). By AI agents, Wed Nov 11 2026. No macro, syntax, notation, axiom, sorry.
-/
import Derived.Test.YtciaagphclddjaaDoorRows
import GoSem.ClaimSeven
namespace Go.Proofs.YtciaagphclddjaaDoor
namespace Rows

/-- THE TIED CARD OF 'winnowfanlaw1.RexIs'. -/
def rexIsCard : Claim7 := { stood := { row := rexIsRow, standIns := [], harness := (true, "011a74e33111053397beb088c6cbba7a378ad7418dac5588f16614f81f002941"), looks := true }, kinds := [], alts := [], laidByText := true, laidKinds := [.handle], laidTests := true, laidLooks := .later }
def RexIsCardSaid : Prop := Claim7.holds Tryd.pinned (.plain (OpenSpec.ofChange rexIsSpec)) rexIsCard

/-- THE TIED CARD OF 'winnowfanlaw2.WordsIs'. -/
def wordsIsCard : Claim7 := { stood := { row := wordsIsRow, standIns := [], harness := (true, "011a74e33111053397beb088c6cbba7a378ad7418dac5588f16614f81f002941"), looks := true }, kinds := [], alts := [], laidByText := true, laidKinds := [.handle], laidTests := true, laidLooks := .later }
def WordsIsCardSaid : Prop := Claim7.holds Tryd.pinned (.plain (OpenSpec.ofChange wordsIsSpec)) wordsIsCard

/-- THE SECOND FORM's CARD OF 'winnowfanlaw1.RexIs'. -/
def rexIsUptoCard : Claim7 := { stood := { row := rexIsUptoRow, standIns := [], harness := (true, "011a74e33111053397beb088c6cbba7a378ad7418dac5588f16614f81f002941"), looks := true }, kinds := [], alts := [], laidByText := true, laidKinds := [.handle], laidTests := true, laidLooks := .later }
def RexIsUptoCardSaid : Prop := Claim7.holds Tryd.pinned (.plain (OpenSpec.upto rexIsSpec)) rexIsUptoCard

/-- THE SECOND FORM's CARD OF 'winnowfanlaw2.WordsIs'. -/
def wordsIsUptoCard : Claim7 := { stood := { row := wordsIsUptoRow, standIns := [], harness := (true, "011a74e33111053397beb088c6cbba7a378ad7418dac5588f16614f81f002941"), looks := true }, kinds := [], alts := [], laidByText := true, laidKinds := [.handle], laidTests := true, laidLooks := .later }
def WordsIsUptoCardSaid : Prop := Claim7.holds Tryd.pinned (.plain (OpenSpec.upto wordsIsSpec)) wordsIsUptoCard
end Rows
end Go.Proofs.YtciaagphclddjaaDoor
