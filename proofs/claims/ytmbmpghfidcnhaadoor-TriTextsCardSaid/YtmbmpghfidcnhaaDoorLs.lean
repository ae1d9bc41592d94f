/- What the row lists: the signs in a world. -/
import Derived.Test.YtmbmpghfidcnhaaDoorCards
import Derived.Test.YtmbmpghfidcnhaaDoorTie
import Derived.Test.YtmbmpghfidcnhaaDoorX1
import Derived.WalkKit
import Derived.ProofKit
import Derived.OpenShut
import Derived.ShutString
import Derived.Deep.DeepHandedRow
import Derived.Lib.LaidTab
import Derived.Stop.LaidErr
namespace Go.Proofs.YtmbmpghfidcnhaaDoor.tri
open Go.ChangeShapes Go.WideShapes Go.ChangeAt Go.RowKit

theorem own : ownKnob Tryd.prog.godebug = none := by kernel_rfl
theorem gSigType : (Tryd.prog.globals[0]?).map (·.type) = some 38 := by kernel_rfl
theorem cells3 : Tryd.prog.cellsOf 38 = 3 := by kernel_rfl
theorem cells1 : Tryd.prog.cellsOf 5 = 1 := by kernel_rfl
theorem sigData : Rows.laid_latchet_tri_signs (H := Unit) = Lib.tabData .u8 [48, 49, 120] := by kernel_rfl

/-- WHAT THE ROW's LIST GIVES -/
theorem sgn_of {W : World} {rest : List (String × DataW Unit)} (h : laidMet Tryd.prog (("latchet/tri.signs", Rows.laid_latchet_tri_signs) :: rest) W) : Sgn W := by
  rw [sigData] at h
  exact Lib.tabIs_of_head gSig gSigType Tryd.underlying38 Tryd.underlying5 cells1 cells3 h

/-- A WORLD FOR THE WITNESS: the settled one, the signs laid. -/
def put (cs : Array Value) : Obj → Obj
  | .cells _ t frozen => .cells cs t frozen
  | o => o
noncomputable def laidWorld (os : Os) : World :=
  { World.holding Tryd.prog os ⟨#[], #[], []⟩ with heap := (World.holding Tryd.prog os ⟨#[], #[], []⟩).heap.modify 0 (put #[.int .u8 48, .int .u8 49, .int .u8 120]) }
end Go.Proofs.YtmbmpghfidcnhaaDoor.tri
