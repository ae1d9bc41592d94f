/- What the row lists: the library's error in a world; a world in which all that is listed is laid. -/
import Derived.Test.YtchokhfcemeagaaDoorCards
import Derived.Test.YtchokhfcemeagaaDoorTie
import Derived.Test.YtchokhfcemeagaaDoorQ5
import Derived.WalkKit
import Derived.ProofKit
import Derived.OpenShut
import Derived.ShutString
import Derived.Deep.DeepHandedRow
import Derived.Stop.LaidErr
import Derived.Lay
namespace Go.Proofs.YtchokhfcemeagaaDoor.score
open Go.ChangeShapes Go.WideShapes Go.ChangeAt Go.RowKit

theorem own : ownKnob Tryd.prog.godebug = none := by kernel_rfl
theorem starErr : "*" ++ "errors.errorString" = "*errors.errorString" := by decide
theorem rowErr (u : TypeId) (h : Tryd.prog.typeName? 3 u = some "*errors.errorString") : u = 64 :=
  typeName_ptr_named (nm := "errors.errorString") (by rw [starErr]; kernel_rfl) (by kernel_rfl) (by decide) u (by rw [starErr]; exact h)
theorem es_of {a b c d : String × DataW Unit} {W : World} {rest : List (String × DataW Unit)} (h : laidMet Tryd.prog (a :: b :: c :: d :: ("strconv.ErrSyntax", Rows.laid_strconv_ErrSyntax) :: rest) W) : Es W := by
  obtain ⟨x, t, hv, -, -, -⟩ := laid_sentinel (g := 1) h.tail.tail.tail.tail (by kernel_rfl) (by kernel_rfl) Tryd.underlying36 rowErr Tryd.underlying64 Tryd.underlying66 rfl rfl Tryd.underlying9 (by kernel_rfl) (by kernel_rfl)
  have hc := World.var?_cell (show Tryd.prog.globalNamed "strconv.ErrSyntax" = some 1 by kernel_rfl) hv 0
  have hc2 : W.cell? ⟨1, 0, none⟩ = some (.iface 64 (.pointer (some x))) := by simpa using hc
  exact ⟨_, hc2, .inr ⟨_, _, rfl⟩, World.block_lt_of_cell? W _ hc2⟩

/-- A WORLD FOR THE WITNESS: the settled one, all that is listed laid. -/
noncomputable def laidWorld (os : Os) : World := World.laidAll Tryd.prog os Rows.scoreTextsRow.laid
end Go.Proofs.YtchokhfcemeagaaDoor.score
