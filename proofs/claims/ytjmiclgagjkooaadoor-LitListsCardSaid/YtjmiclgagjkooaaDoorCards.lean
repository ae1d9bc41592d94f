/-
  DERIVED. GIVEN WITH THE SEED: THE CARDS: each row of YtjmiclgagjkooaaDoorRows.lean that lists a variable, with what it lists TIED to the program's text (the seventh form; the later family's looks); each row that meets fmt, with fmt's text TOLD by the authors' own Lean function (tested against real Go, not proved from fmt's source: count such statements apart). THE CARD IS WHAT COUNTS. Prove the row's statement (the work); the ties are given (YtjmiclgagjkooaaDoorTie.lean); close each card by the builder's one call (the guide's Derived/Test/ToyasCard.lean, 'card_holds'). Laid BY PROGRAM, IN A SANDBOX (cutbox-door.mjs). By AI agents, Wed Nov 11 2026. No macro, syntax, notation, axiom, sorry.
-/
import Derived.Test.YtjmiclgagjkooaaDoorRows
import GoSem.ClaimSeven
namespace Go.Proofs.YtjmiclgagjkooaaDoor
namespace Rows

/-- THE TIED CARD OF 'latchetlaw02.LitTells'. -/
def litTellsCard : Claim7 := { stood := { row := litTellsRow, standIns := [], harness := (true, "3373bff87c8dc842c0dc111c88a2583e26e22cd2d7730049122f4fd6dac24851"), looks := false }, kinds := [], alts := [], laidByText := true, laidKinds := [.data, .data, .data], laidTests := true, laidLooks := .later }
def LitTellsCardSaid : Prop := Claim7.holds Tryd.pinned (.plain (OpenSpec.ofChange litTellsSpec)) litTellsCard

/-- THE TIED CARD OF 'latchetlaw02.LitLists'. -/
def litListsCard : Claim7 := { stood := { row := litListsRow, standIns := [], harness := (true, "3373bff87c8dc842c0dc111c88a2583e26e22cd2d7730049122f4fd6dac24851"), looks := false }, kinds := [], alts := [], laidByText := true, laidKinds := [.data, .data, .data], laidTests := true, laidLooks := .later }
def LitListsCardSaid : Prop := Claim7.holds Tryd.pinned (.plain (OpenSpec.ofChange litListsSpec)) litListsCard

/-- THE TIED CARD OF 'latchetlaw02.LitTexts'. -/
def litTextsCard : Claim7 := { stood := { row := litTextsRow, standIns := [], harness := (true, "3373bff87c8dc842c0dc111c88a2583e26e22cd2d7730049122f4fd6dac24851"), looks := false }, kinds := [], alts := [], laidByText := true, laidKinds := [.data, .data, .data], laidTests := true, laidLooks := .later }
def LitTextsCardSaid : Prop := Claim7.holds Tryd.pinned (.plain (OpenSpec.ofChange litTextsSpec)) litTextsCard

/-- THE SECOND FORM's CARD OF 'latchetlaw02.LitTells'. -/
def litTellsUptoCard : Claim7 := { stood := { row := litTellsUptoRow, standIns := [], harness := (true, "3373bff87c8dc842c0dc111c88a2583e26e22cd2d7730049122f4fd6dac24851"), looks := false }, kinds := [], alts := [], laidByText := true, laidKinds := [.data, .data, .data], laidTests := true, laidLooks := .later }
def LitTellsUptoCardSaid : Prop := Claim7.holds Tryd.pinned (.plain (OpenSpec.upto litTellsSpec)) litTellsUptoCard

/-- THE SECOND FORM's CARD OF 'latchetlaw02.LitLists'. -/
def litListsUptoCard : Claim7 := { stood := { row := litListsUptoRow, standIns := [], harness := (true, "3373bff87c8dc842c0dc111c88a2583e26e22cd2d7730049122f4fd6dac24851"), looks := false }, kinds := [], alts := [], laidByText := true, laidKinds := [.data, .data, .data], laidTests := true, laidLooks := .later }
def LitListsUptoCardSaid : Prop := Claim7.holds Tryd.pinned (.plain (OpenSpec.upto litListsSpec)) litListsUptoCard

/-- THE SECOND FORM's CARD OF 'latchetlaw02.LitTexts'. -/
def litTextsUptoCard : Claim7 := { stood := { row := litTextsUptoRow, standIns := [], harness := (true, "3373bff87c8dc842c0dc111c88a2583e26e22cd2d7730049122f4fd6dac24851"), looks := false }, kinds := [], alts := [], laidByText := true, laidKinds := [.data, .data, .data], laidTests := true, laidLooks := .later }
def LitTextsUptoCardSaid : Prop := Claim7.holds Tryd.pinned (.plain (OpenSpec.upto litTextsSpec)) litTextsUptoCard
end Rows
end Go.Proofs.YtjmiclgagjkooaaDoor
