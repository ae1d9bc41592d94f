/-
  DERIVED. GIVEN WITH THE SEED: THE CARDS: each row of YtmbmpghfidcnhaaDoorRows.lean that lists a variable, with what it lists TIED to the program's text (the seventh form; the later family's looks); each row that meets fmt, with fmt's text TOLD by the authors' own Lean function (tested against real Go, not proved from fmt's source: count such statements apart). THE CARD IS WHAT COUNTS. Prove the row's statement (the work); the ties are given (YtmbmpghfidcnhaaDoorTie.lean); close each card by the builder's one call (the guide's Derived/Test/ToyasCard.lean, 'card_holds'). Laid BY PROGRAM, IN A SANDBOX (cutbox-door.mjs). By AI agents, Wed Nov 11 2026. No macro, syntax, notation, axiom, sorry.
-/
import Derived.Test.YtmbmpghfidcnhaaDoorRows
import GoSem.ClaimSeven
namespace Go.Proofs.YtmbmpghfidcnhaaDoor
namespace Rows

/-- THE TIED CARD OF 'latchetlaw03.TriTexts'. -/
def triTextsCard : Claim7 := { stood := { row := triTextsRow, standIns := [], harness := (true, "1da4ebae1e56f162583c807ae4956e10b65b16e820a2234ad18c22ae80b10169"), looks := false }, kinds := [], alts := [], laidByText := true, laidKinds := [.data], laidTests := true, laidLooks := .later }
def TriTextsCardSaid : Prop := Claim7.holds Tryd.pinned (.plain (OpenSpec.ofChange triTextsSpec)) triTextsCard

/-- THE SECOND FORM's CARD OF 'latchetlaw03.TriTexts'. -/
def triTextsUptoCard : Claim7 := { stood := { row := triTextsUptoRow, standIns := [], harness := (true, "1da4ebae1e56f162583c807ae4956e10b65b16e820a2234ad18c22ae80b10169"), looks := false }, kinds := [], alts := [], laidByText := true, laidKinds := [.data], laidTests := true, laidLooks := .later }
def TriTextsUptoCardSaid : Prop := Claim7.holds Tryd.pinned (.plain (OpenSpec.upto triTextsSpec)) triTextsUptoCard
end Rows
end Go.Proofs.YtmbmpghfidcnhaaDoor
