/- The walk of octet's writer of decimal digits, by the library's. -/
import Derived.Test.YtjmiclgagjkooaaDoorProg
import Derived.Test.YtjmiclgagjkooaaDoorShelf
import Derived.WalkKit
import Derived.Handy
import Derived.Outline
import Derived.Lib.AppendIntMem
import Derived.PlainAid
import Derived.OwnWalk
import Derived.Below
namespace Go.Proofs.YtjmiclgagjkooaaDoor.oct
open Go.RowKit Go.PlainAid

/-- the library's table of powers of ten stands -/
def Tab (w : World) : Prop := Lib.TabIs Tryd.prog w "internal/strconv.uint64pow10" .u64 Lib.pow10Tab
theorem Tab.on {w w' : World} (h : Tab w) (hb : Below w.heap.size w w') : Tab w' := Lib.tabBelow_of_tabIs h w' hb

theorem dec_any (n : Int) (w : World) (h0 : -9223372036854775808 ≤ n) (h1 : n ≤ 9223372036854775807) (hT : Tab w) :
    Calls Tryd.prog 34 #[.int .i64 n] w fun e w' => e = .returned (.string ⟨(Lib.itoa n).toArray⟩) ∧ Below w.heap.size w w' := by
  go_enter Tryd.func34, Tryd.ntmps34
  go_wp2_with (go_at_call 42; refine (Tryd.strconv_Itoa n h0 h1 _ hT).mono ?_; rintro e w' ⟨rfl, k, os, rfl⟩)
  go_ret
  exact ⟨rfl, Lib.below_grow _ _ (Nat.le_refl _) _ _⟩

end Go.Proofs.YtjmiclgagjkooaaDoor.oct
