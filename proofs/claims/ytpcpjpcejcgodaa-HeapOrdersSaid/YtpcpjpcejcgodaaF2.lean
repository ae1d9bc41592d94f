/- The walk of the document's example. -/
import Derived.Test.YtpcpjpcejcgodaaF1
import Derived.Lib.SmallJoins
import Derived.Deep.QuietTactic
import Derived.BigQuiet
namespace Go.Proofs.Ytpcpjpcejcgodaa.score
open Go.RowKit
open Go.Proofs.Ytpcpjpcejcgodaa.fns

theorem NaN_any (w : World) : Calls Try.prog 23 #[] w fun e w' => e = .returned (.float .f64 9221120237041090561) ∧ w = w' := by
  have hf := from_run
  go_enter Try.func23, Try.ntmps23
  go_wp2
  go_ret
  exact ⟨rfl, rfl⟩
end Go.Proofs.Ytpcpjpcejcgodaa.score
