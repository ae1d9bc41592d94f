/- The walks of small functions on scores. -/
import Derived.Test.YtpcpjpcejcgodaaProg
import Derived.Test.YtpcpjpcejcgodaaFnF
import Derived.WalkKit
import Derived.Handy
import Derived.Outline
import Derived.Below
import Derived.Laws.Externs
import Derived.Laws.Cover2
import Derived.Laws.FloatArith
import Derived.Laws.BitsAllLaws
namespace Go.Proofs.Ytpcpjpcejcgodaa.score
open Go.RowKit
open Go.Proofs.Ytpcpjpcejcgodaa.fns

theorem retI {k : IntKind} {a b : Int} (h : a = b) : Ending.returned (.int k a) = .returned (.int k b) := by rw [h]
theorem retB {a b : Bool} (h : a = b) : Ending.returned (.bool a) = .returned (.bool b) := by rw [h]
theorem retF {a b : Nat} (h : a = b) : Ending.returned (.float .f64 a) = .returned (.float .f64 b) := by rw [h]

theorem from_run (n : Int) (w : World) : (callFunc 20 #[.int .u64 n]).run Try.prog w = .ok (.value (.float .f64 n.toNat)) w := by
  rw [run_callFunc_extern Try.func20 (by kernel_rfl) (by kernel_rfl) (by kernel_rfl) (e := Extern.MathFloatBits.float64frombits) (by kernel_rfl)]; rfl

theorem noNumber_any (b : Nat) (w : World) : Calls Try.prog 22 #[.float .f64 b] w fun e w' => e = .returned (.bool (isNan b)) ∧ w = w' := by
  go_enter Try.func22, Try.ntmps22
  go_wp2
  go_ret
  exact ⟨retB (f_self b), rfl⟩
theorem Of_any (b : Int) (w : World) : Calls Try.prog 8 #[.int .u64 b] w fun e w' => e = .returned (.float .f64 b.toNat) ∧ w = w' := by
  have hd := from_run
  go_enter Try.func8, Try.ntmps8
  go_wp2
  go_ret
  exact ⟨rfl, rfl⟩
theorem noNumber_of {b : Nat} {x : Bool} (h : isNan b = x) (w : World) : Calls Try.prog 22 #[.float .f64 b] w fun e w' => e = .returned (.bool x) ∧ w = w' := by
  have := noNumber_any b w; rw [h] at this; exact this
theorem Less_any (a b : Nat) (w : World) (ha : W64 a) (hb : W64 b) : Calls Try.prog 10 #[.float .f64 a, .float .f64 b] w fun e w' => e = .returned (.bool (decide (key a < key b))) ∧ w = w' := by
  have hl := less_key (a := a) hb
  cases h : isNan a
  · rw [h, if_neg (by decide)] at hl
    have HL : Hid ((FloatKind.f64.format.order a b == some .lt) = decide (key a < key b)) := Lib.hid (by rw [f_lss ha hb, h]; exact hl)
    have HN := Lib.hid h
    clear h hl
    go_enter Try.func10, Try.ntmps10
    go_wp2_with fail
    go_at_call 22; refine (noNumber_of HN.out _).mono ?_; rintro e w' ⟨rfl, rfl⟩
    go_wp2_with fail
    go_ret
    exact ⟨retB HL.out, rfl⟩
  · rw [h, if_pos rfl] at hl
    have HL := Lib.hid hl
    have HN := Lib.hid h
    clear h hl
    go_enter Try.func10, Try.ntmps10
    go_wp2_with fail
    go_at_call 22; refine (noNumber_of HN.out _).mono ?_; rintro e w' ⟨rfl, rfl⟩
    go_wp2_with fail
    go_at_call 22; refine (noNumber_any _ _).mono ?_; rintro e w' ⟨rfl, rfl⟩
    go_wp2_with fail
    go_ret
    exact ⟨retB HL.out, rfl⟩
theorem Less_of {a b : Nat} {x : Bool} (h : decide (key a < key b) = x) (ha : W64 a) (hb : W64 b) (w : World) : Calls Try.prog 10 #[.float .f64 a, .float .f64 b] w fun e w' => e = .returned (.bool x) ∧ w = w' := by
  have := Less_any a b w ha hb; rw [h] at this; exact this
end Go.Proofs.Ytpcpjpcejcgodaa.score
