/- Whether a number is a place of a text. -/
import Derived.Test.YtjmiclgagjkooaaDoorProg
import Derived.Test.YtjmiclgagjkooaaDoorFn
import Derived.WalkKit
import Derived.Handy
import Derived.Outline
namespace Go.Proofs.YtjmiclgagjkooaaDoor.oct
open Go.RowKit Go.PlainAid
open Go.Proofs.YtjmiclgagjkooaaDoor.fns

theorem isPlace_yes (s : ByteArray) (a : Int) (w : World) (h0 : 0 ≤ a) (h1 : a ≤ s.size) :
    Calls Tryd.prog 40 #[.string s, .int .i64 a] w fun e w' => e = .returned (.bool true) ∧ w = w' := by
  go_enter Tryd.func40, Tryd.ntmps40
  go_wp2
  go_ret
  exact ⟨rfl, rfl⟩
theorem isPlace_no (s : ByteArray) (a : Int) (w : World) (h : a < 0 ∨ (s.size : Int) < a) :
    Calls Tryd.prog 40 #[.string s, .int .i64 a] w fun e w' => e = .returned (.bool false) ∧ w = w' := by
  by_cases h0 : 0 ≤ a
  · have h1 : decide (a ≤ (s.size : Int)) = false := by simp; omega
    clear h
    go_enter Tryd.func40, Tryd.ntmps40
    go_wp2
    go_ret
    exact ⟨rfl, rfl⟩
  · clear h
    go_enter Tryd.func40, Tryd.ntmps40
    go_wp2
    go_ret
    exact ⟨rfl, rfl⟩

end Go.Proofs.YtjmiclgagjkooaaDoor.oct
