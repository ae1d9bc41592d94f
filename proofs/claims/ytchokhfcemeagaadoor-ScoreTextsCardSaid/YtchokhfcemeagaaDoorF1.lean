/- The walks of small functions on scores. -/
import Derived.Test.YtchokhfcemeagaaDoorProg
import Derived.Test.YtchokhfcemeagaaDoorFnF
import Derived.WalkKit
import Derived.Handy
import Derived.Outline
import Derived.Below
import Derived.Laws.Externs
import Derived.Laws.Cover2
import Derived.Laws.FloatArith
import Derived.Laws.BitsAllLaws
namespace Go.Proofs.YtchokhfcemeagaaDoor.score
open Go.RowKit
open Go.Proofs.YtchokhfcemeagaaDoor.fns

theorem retI {k : IntKind} {a b : Int} (h : a = b) : Ending.returned (.int k a) = .returned (.int k b) := by rw [h]
theorem retB {a b : Bool} (h : a = b) : Ending.returned (.bool a) = .returned (.bool b) := by rw [h]
theorem retF {a b : Nat} (h : a = b) : Ending.returned (.float .f64 a) = .returned (.float .f64 b) := by rw [h]

theorem bits_run (b : Nat) (w : World) : (callFunc 14 #[.float .f64 b]).run Tryd.prog w = .ok (.value (.int .u64 b)) w := by
  rw [run_callFunc_extern Tryd.func14 (by kernel_rfl) (by kernel_rfl) (by kernel_rfl) (e := Extern.MathFloatBits.float64bits) (by kernel_rfl)]; rfl
theorem from_run (n : Int) (w : World) : (callFunc 12 #[.int .u64 n]).run Tryd.prog w = .ok (.value (.float .f64 n.toNat)) w := by
  rw [run_callFunc_extern Tryd.func12 (by kernel_rfl) (by kernel_rfl) (by kernel_rfl) (e := Extern.MathFloatBits.float64frombits) (by kernel_rfl)]; rfl

theorem noNumber_any (b : Nat) (w : World) : Calls Tryd.prog 15 #[.float .f64 b] w fun e w' => e = .returned (.bool (isNan b)) ∧ w = w' := by
  go_enter Tryd.func15, Tryd.ntmps15
  go_wp2
  go_ret
  exact ⟨retB (f_self b), rfl⟩
theorem Of_any (b : Int) (w : World) : Calls Tryd.prog 8 #[.int .u64 b] w fun e w' => e = .returned (.float .f64 b.toNat) ∧ w = w' := by
  have hd := from_run
  go_enter Tryd.func8, Tryd.ntmps8
  go_wp2
  go_ret
  exact ⟨rfl, rfl⟩
theorem refNan_any (b : Nat) (w : World) : Calls Tryd.prog 24 #[.int .u64 b] w fun e w' => e = .returned (.bool (isNan b)) ∧ w = w' := by
  go_enter Tryd.func24, Tryd.ntmps24
  go_wp2
  go_ret
  exact ⟨retB (isNan_cast b), rfl⟩
theorem noNumber_of {b : Nat} {x : Bool} (h : isNan b = x) (w : World) : Calls Tryd.prog 15 #[.float .f64 b] w fun e w' => e = .returned (.bool x) ∧ w = w' := by
  have := noNumber_any b w; rw [h] at this; exact this
theorem refNan_of {b : Nat} {x : Bool} (h : isNan b = x) (w : World) : Calls Tryd.prog 24 #[.int .u64 b] w fun e w' => e = .returned (.bool x) ∧ w = w' := by
  have := refNan_any b w; rw [h] at this; exact this
theorem refPlain_any (b : Nat) (w : World) : Calls Tryd.prog 13 #[.int .u64 b] w fun e w' => e = .returned (.int .u64 (plain b)) ∧ w = w' := by
  cases h : isNan b
  · have HP := Lib.hid (plain_no h)
    have HN := Lib.hid h
    clear h
    go_enter Tryd.func13, Tryd.ntmps13
    go_wp2_with fail
    go_at_call 24; refine (refNan_of HN.out _).mono ?_; rintro e w' ⟨rfl, rfl⟩
    go_wp2_with fail
    go_ret
    exact ⟨retI (by rw [HP.out]), rfl⟩
  · have HP := Lib.hid (plain_yes h)
    have HN := Lib.hid h
    clear h
    go_enter Tryd.func13, Tryd.ntmps13
    go_wp2_with fail
    go_at_call 24; refine (refNan_of HN.out _).mono ?_; rintro e w' ⟨rfl, rfl⟩
    go_wp2_with fail
    go_ret
    exact ⟨retI (by rw [HP.out]; rfl), rfl⟩
theorem Less_any (a b : Nat) (w : World) (ha : W64 a) (hb : W64 b) : Calls Tryd.prog 18 #[.float .f64 a, .float .f64 b] w fun e w' => e = .returned (.bool (decide (key a < key b))) ∧ w = w' := by
  have hl := less_key (a := a) hb
  cases h : isNan a
  · rw [h, if_neg (by decide)] at hl
    have HL : Hid ((FloatKind.f64.format.order a b == some .lt) = decide (key a < key b)) := Lib.hid (by rw [f_lss ha hb, h]; exact hl)
    have HN := Lib.hid h
    clear h hl
    go_enter Tryd.func18, Tryd.ntmps18
    go_wp2_with fail
    go_at_call 15; refine (noNumber_of HN.out _).mono ?_; rintro e w' ⟨rfl, rfl⟩
    go_wp2_with fail
    go_ret
    exact ⟨retB HL.out, rfl⟩
  · rw [h, if_pos rfl] at hl
    have HL := Lib.hid hl
    have HN := Lib.hid h
    clear h hl
    go_enter Tryd.func18, Tryd.ntmps18
    go_wp2_with fail
    go_at_call 15; refine (noNumber_of HN.out _).mono ?_; rintro e w' ⟨rfl, rfl⟩
    go_wp2_with fail
    go_at_call 15; refine (noNumber_any _ _).mono ?_; rintro e w' ⟨rfl, rfl⟩
    go_wp2_with fail
    go_ret
    exact ⟨retB HL.out, rfl⟩
theorem Less_of {a b : Nat} {x : Bool} (h : decide (key a < key b) = x) (ha : W64 a) (hb : W64 b) (w : World) : Calls Tryd.prog 18 #[.float .f64 a, .float .f64 b] w fun e w' => e = .returned (.bool x) ∧ w = w' := by
  have := Less_any a b w ha hb; rw [h] at this; exact this
theorem Abs_any (b : Nat) (w : World) (hb : W64 b) : Calls Tryd.prog 36 #[.float .f64 b] w fun e w' => e = .returned (.float .f64 (b % 9223372036854775808)) ∧ w = w' := by
  have hd := bits_run
  have hf := from_run
  have HC := Lib.hid (clear_hi hb)
  go_enter Tryd.func36, Tryd.ntmps36
  go_wp2
  go_ret
  exact ⟨retF (by rw [HC.out]; rfl), rfl⟩
theorem IsInf_any (b : Nat) (w : World) (hb : W64 b) (hn : isNan b = false) : Calls Tryd.prog 32 #[.float .f64 b, .int .i64 0] w fun e w' => e = .returned (.bool (odd b)) ∧ w = w' := by
  have HO := Lib.hid (big_of hn)
  go_enter Tryd.func32, Tryd.ntmps32
  go_wp2_with fail
  go_at_call 36; refine (Abs_any _ _ hb).mono ?_; rintro e w' ⟨rfl, rfl⟩
  go_wp2_with fail
  go_ret
  exact ⟨retB HO.out, rfl⟩
theorem finite_any (b : Nat) (w : World) (hb : W64 b) : Calls Tryd.prog 25 #[.float .f64 b] w fun e w' => e = .returned (.bool (!odd b)) ∧ w = w' := by
  cases h : isNan b
  · have HN := Lib.hid h
    clear h
    go_enter Tryd.func25, Tryd.ntmps25
    go_wp2_with fail
    go_at_call 15; refine (noNumber_of HN.out _).mono ?_; rintro e w' ⟨rfl, rfl⟩
    go_wp2_with fail
    go_at_call 32; refine (IsInf_any _ _ hb HN.out).mono ?_; rintro e w' ⟨rfl, rfl⟩
    go_wp2_with fail
    go_ret
    exact ⟨rfl, rfl⟩
  · have HO := Lib.hid (odd_nan h)
    have HN := Lib.hid h
    clear h
    go_enter Tryd.func25, Tryd.ntmps25
    go_wp2_with fail
    go_at_call 15; refine (noNumber_of HN.out _).mono ?_; rintro e w' ⟨rfl, rfl⟩
    go_wp2_with fail
    go_ret
    exact ⟨retB (by rw [HO.out]; rfl), rfl⟩
theorem finite_of {b : Nat} {x : Bool} (h : odd b = !x) (hb : W64 b) (w : World) : Calls Tryd.prog 25 #[.float .f64 b] w fun e w' => e = .returned (.bool x) ∧ w = w' := by
  have := finite_any b w hb; rw [h, Bool.not_not] at this; exact this
theorem is_any (a b : Nat) (w : World) : Calls Tryd.prog 6 #[.float .f64 a, .int .u64 b] w fun e w' => e = .returned (.bool ((plain a : Int) == (plain b : Int))) ∧ w = w' := by
  have hd := bits_run
  go_enter Tryd.func6, Tryd.ntmps6
  go_wp2_with fail
  go_at_call 13; refine (refPlain_any _ _).mono ?_; rintro e w' ⟨rfl, rfl⟩
  go_wp2_with fail
  go_at_call 13; refine (refPlain_any _ _).mono ?_; rintro e w' ⟨rfl, rfl⟩
  go_wp2_with fail
  go_ret
  exact ⟨rfl, rfl⟩
theorem is_of {a b : Nat} (h : plain a = plain b) (w : World) : Calls Tryd.prog 6 #[.float .f64 a, .int .u64 b] w fun e w' => e = .returned (.bool true) ∧ w = w' := by
  have := is_any a b w; rw [h] at this; simpa using this
end Go.Proofs.YtchokhfcemeagaaDoor.score
