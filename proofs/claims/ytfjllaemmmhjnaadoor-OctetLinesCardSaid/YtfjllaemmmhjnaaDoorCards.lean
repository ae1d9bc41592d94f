/-
  DERIVED. GIVEN WITH THE SEED: THE CARDS: each row of YtfjllaemmmhjnaaDoorRows.lean that lists a variable, with what it lists TIED to the program's text (the seventh form; the later family's looks); each row that meets fmt, with fmt's text TOLD by the authors' own Lean function (tested against real Go, not proved from fmt's source: count such statements apart). THE CARD IS WHAT COUNTS. Prove the row's statement (the work); the ties are given (YtfjllaemmmhjnaaDoorTie.lean); close each card by the builder's one call (the guide's Derived/Test/ToyasCard.lean, 'card_holds'). Laid BY PROGRAM, IN A SANDBOX (cutbox-door.mjs). By AI agents, Wed Nov 11 2026. No macro, syntax, notation, axiom, sorry.
-/
import Derived.Test.YtfjllaemmmhjnaaDoorRows
import GoSem.ClaimSeven
namespace Go.Proofs.YtfjllaemmmhjnaaDoor
namespace Rows

/-- THE TIED CARD OF 'latchetlaw01.OctetPuts'. -/
def octetPutsCard : Claim7 := { stood := { row := octetPutsRow, standIns := [], harness := (true, "5e359b84e73c055093ab44d095fb2683064db22550332738ceaa451304907457"), looks := false }, kinds := [], alts := [], laidByText := true, laidKinds := [.data, .data, .data], laidTests := true, laidLooks := .later }
def OctetPutsCardSaid : Prop := Claim7.holds Tryd.pinned (.plain (OpenSpec.ofChange octetPutsSpec)) octetPutsCard

/-- THE TIED CARD OF 'latchetlaw01.OctetGets'. -/
def octetGetsCard : Claim7 := { stood := { row := octetGetsRow, standIns := [], harness := (true, "5e359b84e73c055093ab44d095fb2683064db22550332738ceaa451304907457"), looks := false }, kinds := [], alts := [], laidByText := true, laidKinds := [.data, .data, .data], laidTests := true, laidLooks := .later }
def OctetGetsCardSaid : Prop := Claim7.holds Tryd.pinned (.plain (OpenSpec.ofChange octetGetsSpec)) octetGetsCard

/-- THE TIED CARD OF 'latchetlaw01.OctetLines'. -/
def octetLinesCard : Claim7 := { stood := { row := octetLinesRow, standIns := [], harness := (true, "5e359b84e73c055093ab44d095fb2683064db22550332738ceaa451304907457"), looks := false }, kinds := [], alts := [], laidByText := true, laidKinds := [.data, .data, .data, .data, .pinned], laidTests := true, laidLooks := .later }
def OctetLinesCardSaid : Prop := Claim7.holds Tryd.pinned (.plain (OpenSpec.ofChange octetLinesSpec)) octetLinesCard

/-- THE TIED CARD OF 'latchetlaw01.OctetBits'. -/
def octetBitsCard : Claim7 := { stood := { row := octetBitsRow, standIns := [], harness := (true, "5e359b84e73c055093ab44d095fb2683064db22550332738ceaa451304907457"), looks := false }, kinds := [], alts := [], laidByText := true, laidKinds := [.data, .data, .data], laidTests := true, laidLooks := .later }
def OctetBitsCardSaid : Prop := Claim7.holds Tryd.pinned (.plain (OpenSpec.ofChange octetBitsSpec)) octetBitsCard

/-- THE SECOND FORM's CARD OF 'latchetlaw01.OctetPuts'. -/
def octetPutsUptoCard : Claim7 := { stood := { row := octetPutsUptoRow, standIns := [], harness := (true, "5e359b84e73c055093ab44d095fb2683064db22550332738ceaa451304907457"), looks := false }, kinds := [], alts := [], laidByText := true, laidKinds := [.data, .data, .data], laidTests := true, laidLooks := .later }
def OctetPutsUptoCardSaid : Prop := Claim7.holds Tryd.pinned (.plain (OpenSpec.upto octetPutsSpec)) octetPutsUptoCard

/-- THE SECOND FORM's CARD OF 'latchetlaw01.OctetGets'. -/
def octetGetsUptoCard : Claim7 := { stood := { row := octetGetsUptoRow, standIns := [], harness := (true, "5e359b84e73c055093ab44d095fb2683064db22550332738ceaa451304907457"), looks := false }, kinds := [], alts := [], laidByText := true, laidKinds := [.data, .data, .data], laidTests := true, laidLooks := .later }
def OctetGetsUptoCardSaid : Prop := Claim7.holds Tryd.pinned (.plain (OpenSpec.upto octetGetsSpec)) octetGetsUptoCard

/-- THE SECOND FORM's CARD OF 'latchetlaw01.OctetLines'. -/
def octetLinesUptoCard : Claim7 := { stood := { row := octetLinesUptoRow, standIns := [], harness := (true, "5e359b84e73c055093ab44d095fb2683064db22550332738ceaa451304907457"), looks := false }, kinds := [], alts := [], laidByText := true, laidKinds := [.data, .data, .data, .data, .pinned], laidTests := true, laidLooks := .later }
def OctetLinesUptoCardSaid : Prop := Claim7.holds Tryd.pinned (.plain (OpenSpec.upto octetLinesSpec)) octetLinesUptoCard

/-- THE SECOND FORM's CARD OF 'latchetlaw01.OctetBits'. -/
def octetBitsUptoCard : Claim7 := { stood := { row := octetBitsUptoRow, standIns := [], harness := (true, "5e359b84e73c055093ab44d095fb2683064db22550332738ceaa451304907457"), looks := false }, kinds := [], alts := [], laidByText := true, laidKinds := [.data, .data, .data], laidTests := true, laidLooks := .later }
def OctetBitsUptoCardSaid : Prop := Claim7.holds Tryd.pinned (.plain (OpenSpec.upto octetBitsSpec)) octetBitsUptoCard
end Rows
end Go.Proofs.YtfjllaemmmhjnaaDoor
