/- The examples that every statement ends in. -/
import Derived.Test.YtfjllaemmmhjnaaDoorW1
import Derived.Test.YtfjllaemmmhjnaaDoorW3
import Derived.Test.YtfjllaemmmhjnaaDoorW5
import Derived.Test.YtfjllaemmmhjnaaDoorShelf
import Derived.Lib.AppendIntMem
namespace Go.Proofs.YtfjllaemmmhjnaaDoor.oct
open Go.RowKit Go.PlainAid
open Go.Proofs.YtfjllaemmmhjnaaDoor.fns

/-- the library's table of powers of ten stands -/
def Tab (w : World) : Prop := Lib.TabIs Tryd.prog w "internal/strconv.uint64pow10" .u64 Lib.pow10Tab
theorem Tab.on {w w' : World} (h : Tab w) (hb : Below w.heap.size w w') : Tab w' := Lib.tabBelow_of_tabIs h w' hb

theorem dec_any (n : Int) (w : World) (h0 : -9223372036854775808 ≤ n) (h1 : n ≤ 9223372036854775807) (hT : Tab w) :
    Calls Tryd.prog 10 #[.int .i64 n] w fun e w' => e = .returned (.string ⟨(Lib.itoa n).toArray⟩) ∧ Below w.heap.size w w' := by
  go_enter Tryd.func10, Tryd.ntmps10
  go_wp2_with (go_at_call 27; refine (Tryd.strconv_Itoa n h0 h1 _ hT).mono ?_; rintro e w' ⟨rfl, k, os, rfl⟩)
  go_ret
  exact ⟨rfl, Lib.below_grow _ _ (Nat.le_refl _) _ _⟩

theorem get_a (w : World) : Calls Tryd.prog 8 #[.string ⟨#[120, 172, 2]⟩, .int .i64 1] w fun e w' => e = .returned (.tuple #[.int .u32 300, .int .i64 3, .int .i64 0]) ∧ w = w' := by
  have h := get_any ⟨#[120, 172, 2]⟩ 1 w (by decide)
  rw [show getAt ⟨#[120, 172, 2]⟩ 1 = (300, 3, 0) by decide] at h
  exact h
theorem get_b (w : World) : Calls Tryd.prog 8 #[.string ⟨#[128, 0]⟩, .int .i64 0] w fun e w' => e = .returned (.tuple #[.int .u32 0, .int .i64 0, .int .i64 2]) ∧ w = w' := by
  have h := get_any ⟨#[128, 0]⟩ 0 w (by decide)
  rw [show getAt ⟨#[128, 0]⟩ 0 = (0, 0, 2) by decide] at h
  exact h
theorem nat_a (w : World) : Calls Tryd.prog 14 #[.string ⟨#[48, 55]⟩, .int .i64 0] w fun e w' => e = .returned (.tuple #[.int .i64 0, .int .i64 0, .int .i64 2]) ∧ w = w' := by
  have h := nat_any ⟨#[48, 55]⟩ 0 w (by decide)
  rw [show natAt ⟨#[48, 55]⟩ 0 = (0, 0, 2) by decide] at h
  exact h
theorem num_a (w : World) : Calls Tryd.prog 7 #[.int .u32 300] w fun e w' => e = .returned (.string ⟨#[172, 2]⟩) ∧ Below w.heap.size w w' := by
  have h := num_any 300 w (by decide)
  rw [show numS 300 = ⟨#[172, 2]⟩ by decide] at h
  exact h
theorem dec_a (w : World) (hT : Tab w) : Calls Tryd.prog 10 #[.int .i64 (-7)] w fun e w' => e = .returned (.string ⟨#[45, 55]⟩) ∧ Below w.heap.size w w' := by
  have h := dec_any (-7) w (by decide) (by decide) hT
  rw [show Lib.itoa (-7) = [45, 55] by simp [Lib.itoa, Lib.decDigits]] at h
  exact h

theorem lives_any (w : World) (hT : Tab w) : Calls Tryd.prog 12 #[] w fun e w' => e = .returned (.bool true) ∧ Below w.heap.size w w' := by
  go_enter Tryd.func12, Tryd.ntmps12
  go_wp2_with fail
  go_at_call 8; refine (get_a _).mono ?_; rintro e w' ⟨rfl, rfl⟩
  go_wp2_with fail
  go_at_call 8; refine (get_b _).mono ?_; rintro e w' ⟨rfl, rfl⟩
  go_wp2_with fail
  go_at_call 14; refine (nat_a _).mono ?_; rintro e w' ⟨rfl, rfl⟩
  go_wp2_with fail
  go_at_call 7; refine (num_a _).mono ?_; rintro e w1 ⟨rfl, hb1⟩
  go_wp2_with fail
  go_at_call 10; refine (dec_a _ (hT.on hb1)).mono ?_; rintro e w2 ⟨rfl, hb2⟩
  go_wp2_with fail
  go_ret
  exact ⟨rfl, hb1.trans (hb2.mono hb1.size)⟩
end Go.Proofs.YtfjllaemmmhjnaaDoor.oct
