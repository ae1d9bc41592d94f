/- The walks of small functions on scores. -/
import Derived.Test.YtchokhfcemeagaaProg
import Derived.Test.YtchokhfcemeagaaFnF
import Derived.WalkKit
import Derived.Handy
import Derived.Outline
import Derived.Below
import Derived.Laws.Externs
import Derived.Laws.Cover2
import Derived.Laws.FloatArith
import Derived.Laws.BitsAllLaws
namespace Go.Proofs.Ytchokhfcemeagaa.score
open Go.RowKit
open Go.Proofs.Ytchokhfcemeagaa.fns

theorem retI {k : IntKind} {a b : Int} (h : a = b) : Ending.returned (.int k a) = .returned (.int k b) := by rw [h]
theorem retB {a b : Bool} (h : a = b) : Ending.returned (.bool a) = .returned (.bool b) := by rw [h]
theorem retF {a b : Nat} (h : a = b) : Ending.returned (.float .f64 a) = .returned (.float .f64 b) := by rw [h]

theorem bits_run (b : Nat) (w : World) : (callFunc 16 #[.float .f64 b]).run Try.prog w = .ok (.value (.int .u64 b)) w := by
  rw [run_callFunc_extern Try.func16 (by kernel_rfl) (by kernel_rfl) (by kernel_rfl) (e := Extern.MathFloatBits.float64bits) (by kernel_rfl)]; rfl
theorem from_run (n : Int) (w : World) : (callFunc 17 #[.int .u64 n]).run Try.prog w = .ok (.value (.float .f64 n.toNat)) w := by
  rw [run_callFunc_extern Try.func17 (by kernel_rfl) (by kernel_rfl) (by kernel_rfl) (e := Extern.MathFloatBits.float64frombits) (by kernel_rfl)]; rfl

theorem noNumber_any (b : Nat) (w : World) : Calls Try.prog 18 #[.float .f64 b] w fun e w' => e = .returned (.bool (isNan b)) ∧ w = w' := by
  go_enter Try.func18, Try.ntmps18
  go_wp2
  go_ret
  exact ⟨retB (f_self b), rfl⟩
theorem Of_any (b : Int) (w : World) : Calls Try.prog 5 #[.int .u64 b] w fun e w' => e = .returned (.float .f64 b.toNat) ∧ w = w' := by
  have hd := from_run
  go_enter Try.func5, Try.ntmps5
  go_wp2
  go_ret
  exact ⟨rfl, rfl⟩
theorem refNan_any (b : Nat) (w : World) : Calls Try.prog 19 #[.int .u64 b] w fun e w' => e = .returned (.bool (isNan b)) ∧ w = w' := by
  go_enter Try.func19, Try.ntmps19
  go_wp2
  go_ret
  exact ⟨retB (isNan_cast b), rfl⟩
theorem refOdd_any (b : Nat) (w : World) : Calls Try.prog 14 #[.int .u64 b] w fun e w' => e = .returned (.bool (odd b)) ∧ w = w' := by
  go_enter Try.func14, Try.ntmps14
  go_wp2
  go_ret
  exact ⟨retB (odd_cast b), rfl⟩
theorem noNumber_of {b : Nat} {x : Bool} (h : isNan b = x) (w : World) : Calls Try.prog 18 #[.float .f64 b] w fun e w' => e = .returned (.bool x) ∧ w = w' := by
  have := noNumber_any b w; rw [h] at this; exact this
theorem refNan_of {b : Nat} {x : Bool} (h : isNan b = x) (w : World) : Calls Try.prog 19 #[.int .u64 b] w fun e w' => e = .returned (.bool x) ∧ w = w' := by
  have := refNan_any b w; rw [h] at this; exact this
theorem refOdd_of {b : Nat} {x : Bool} (h : odd b = x) (w : World) : Calls Try.prog 14 #[.int .u64 b] w fun e w' => e = .returned (.bool x) ∧ w = w' := by
  have := refOdd_any b w; rw [h] at this; exact this
theorem refPlain_any (b : Nat) (w : World) : Calls Try.prog 26 #[.int .u64 b] w fun e w' => e = .returned (.int .u64 (plain b)) ∧ w = w' := by
  cases h : isNan b
  · have HP := Lib.hid (plain_no h)
    have HN := Lib.hid h
    clear h
    go_enter Try.func26, Try.ntmps26
    go_wp2_with fail
    go_at_call 19; refine (refNan_of HN.out _).mono ?_; rintro e w' ⟨rfl, rfl⟩
    go_wp2_with fail
    go_ret
    exact ⟨retI (by rw [HP.out]), rfl⟩
  · have HP := Lib.hid (plain_yes h)
    have HN := Lib.hid h
    clear h
    go_enter Try.func26, Try.ntmps26
    go_wp2_with fail
    go_at_call 19; refine (refNan_of HN.out _).mono ?_; rintro e w' ⟨rfl, rfl⟩
    go_wp2_with fail
    go_ret
    exact ⟨retI (by rw [HP.out]; rfl), rfl⟩
theorem Key_any (b : Nat) (w : World) (hb : W64 b) : Calls Try.prog 6 #[.float .f64 b] w fun e w' => e = .returned (.int .u64 (key b)) ∧ w = w' := by
  have hd := bits_run
  cases h : isNan b
  · have c1 := eq_zero h hb
    have hk := key_ge h hb
    by_cases h0 : b = 0 ∨ b = 9223372036854775808
    · have HK := Lib.hid (show key b = 9223372036854775808 by rcases h0 with rfl | rfl <;> decide)
      rw [decide_eq_true h0] at c1
      have HN := Lib.hid h
      clear h hk h0
      go_enter Try.func6, Try.ntmps6
      go_wp2_with fail
      go_at_call 18; refine (noNumber_of HN.out _).mono ?_; rintro e w' ⟨rfl, rfl⟩
      go_wp2_with fail
      go_ret
      exact ⟨retI (by rw [HK.out]; rfl), rfl⟩
    · rw [decide_eq_false h0] at c1
      have HN := Lib.hid h
      by_cases h1 : 9223372036854775808 ≤ b
      · have c2 := hi_yes hb h1
        have HK : Hid (key b = 18446744073709551615 - b) := Lib.hid (by rw [hk, if_pos h1, if_neg (by omega)])
        have HX := Lib.hid (u64_turn hb)
        clear h hk h0
        go_enter Try.func6, Try.ntmps6
        go_wp2_with fail
        go_at_call 18; refine (noNumber_of HN.out _).mono ?_; rintro e w' ⟨rfl, rfl⟩
        go_wp2_with fail
        all_goals first | exact absurd ‹IntKind.u64.signed = true› (by decide) | skip
        go_ret
        exact ⟨retI (by rw [HK.out, HX.out]), rfl⟩
      · have c2 := hi_no hb (by omega)
        have HK : Hid (key b = b + 9223372036854775808) := Lib.hid (by rw [hk, if_neg h1])
        have HX := Lib.hid (or_hi (b := b) (by omega))
        clear h hk h0
        go_enter Try.func6, Try.ntmps6
        go_wp2_with fail
        go_at_call 18; refine (noNumber_of HN.out _).mono ?_; rintro e w' ⟨rfl, rfl⟩
        go_wp2_with fail
        go_ret
        exact ⟨retI (by rw [HK.out, HX.out]), rfl⟩
  · have HK := Lib.hid (key_nan h)
    have HN := Lib.hid h
    clear h
    go_enter Try.func6, Try.ntmps6
    go_wp2_with fail
    go_at_call 18; refine (noNumber_of HN.out _).mono ?_; rintro e w' ⟨rfl, rfl⟩
    go_wp2_with fail
    go_ret
    exact ⟨retI (by rw [HK.out]; rfl), rfl⟩
theorem refKey_any (b : Nat) (w : World) (hb : W64 b) : Calls Try.prog 7 #[.int .u64 b] w fun e w' => e = .returned (.int .u64 (key b)) ∧ w = w' := by
  cases h : isNan b
  · have hk := key_ge h hb
    have HN := Lib.hid h
    by_cases h0 : b = 9223372036854775808
    · subst h0
      have HK := Lib.hid (show key 9223372036854775808 = 9223372036854775808 by decide)
      clear h hk
      go_enter Try.func7, Try.ntmps7
      go_wp2_with fail
      go_at_call 19; refine (refNan_of HN.out _).mono ?_; rintro e w' ⟨rfl, rfl⟩
      go_wp2_with fail
      go_ret
      exact ⟨retI (by rw [HK.out]; rfl), rfl⟩
    · have c1 : ((b : Int) == 9223372036854775808) = false := by simp; omega
      by_cases h1 : 9223372036854775808 ≤ b
      · have HK : Hid (key b = 18446744073709551615 - b) := Lib.hid (by rw [hk, if_pos h1, if_neg (by omega)])
        have c2 : (9223372036854775808 : Int) ≤ b := by omega
        have HB := Lib.hid hb
        clear h hk h0 hb
        go_enter Try.func7, Try.ntmps7
        go_wp2_with fail
        go_at_call 19; refine (refNan_of HN.out _).mono ?_; rintro e w' ⟨rfl, rfl⟩
        go_wp2_with fail
        go_ret
        exact ⟨retI (by rw [HK.out]; have := HB.out; unfold W64 at this; first | omega | (rw [IntKind.wrap_u64]; omega)), rfl⟩
      · have HK : Hid (key b = b + 9223372036854775808) := Lib.hid (by rw [hk, if_neg h1])
        have c2 : decide ((9223372036854775808 : Int) ≤ b) = false := by simp; omega
        have HB : Hid (b < 9223372036854775808) := Lib.hid (by omega)
        clear h hk h0 hb
        go_enter Try.func7, Try.ntmps7
        go_wp2_with fail
        go_at_call 19; refine (refNan_of HN.out _).mono ?_; rintro e w' ⟨rfl, rfl⟩
        go_wp2_with fail
        go_ret
        exact ⟨retI (by rw [HK.out]; have := HB.out; first | omega | (rw [IntKind.wrap_u64]; omega)), rfl⟩
  · have HK := Lib.hid (key_nan h)
    have HN := Lib.hid h
    clear h
    go_enter Try.func7, Try.ntmps7
    go_wp2_with fail
    go_at_call 19; refine (refNan_of HN.out _).mono ?_; rintro e w' ⟨rfl, rfl⟩
    go_wp2_with fail
    go_ret
    exact ⟨retI (by rw [HK.out]; rfl), rfl⟩
theorem Less_any (a b : Nat) (w : World) (ha : W64 a) (hb : W64 b) : Calls Try.prog 8 #[.float .f64 a, .float .f64 b] w fun e w' => e = .returned (.bool (decide (key a < key b))) ∧ w = w' := by
  have hl := less_key (a := a) hb
  cases h : isNan a
  · rw [h, if_neg (by decide)] at hl
    have HL : Hid ((FloatKind.f64.format.order a b == some .lt) = decide (key a < key b)) := Lib.hid (by rw [f_lss ha hb, h]; exact hl)
    have HN := Lib.hid h
    clear h hl
    go_enter Try.func8, Try.ntmps8
    go_wp2_with fail
    go_at_call 18; refine (noNumber_of HN.out _).mono ?_; rintro e w' ⟨rfl, rfl⟩
    go_wp2_with fail
    go_ret
    exact ⟨retB HL.out, rfl⟩
  · rw [h, if_pos rfl] at hl
    have HL := Lib.hid hl
    have HN := Lib.hid h
    clear h hl
    go_enter Try.func8, Try.ntmps8
    go_wp2_with fail
    go_at_call 18; refine (noNumber_of HN.out _).mono ?_; rintro e w' ⟨rfl, rfl⟩
    go_wp2_with fail
    go_at_call 18; refine (noNumber_any _ _).mono ?_; rintro e w' ⟨rfl, rfl⟩
    go_wp2_with fail
    go_ret
    exact ⟨retB HL.out, rfl⟩
theorem Less_of {a b : Nat} {x : Bool} (h : decide (key a < key b) = x) (ha : W64 a) (hb : W64 b) (w : World) : Calls Try.prog 8 #[.float .f64 a, .float .f64 b] w fun e w' => e = .returned (.bool x) ∧ w = w' := by
  have := Less_any a b w ha hb; rw [h] at this; exact this
theorem Abs_any (b : Nat) (w : World) (hb : W64 b) : Calls Try.prog 29 #[.float .f64 b] w fun e w' => e = .returned (.float .f64 (b % 9223372036854775808)) ∧ w = w' := by
  have hd := bits_run
  have hf := from_run
  have HC := Lib.hid (clear_hi hb)
  go_enter Try.func29, Try.ntmps29
  go_wp2
  go_ret
  exact ⟨retF (by rw [HC.out]; rfl), rfl⟩
theorem IsInf_any (b : Nat) (w : World) (hb : W64 b) (hn : isNan b = false) : Calls Try.prog 28 #[.float .f64 b, .int .i64 0] w fun e w' => e = .returned (.bool (odd b)) ∧ w = w' := by
  have HO := Lib.hid (big_of hn)
  go_enter Try.func28, Try.ntmps28
  go_wp2_with fail
  go_at_call 29; refine (Abs_any _ _ hb).mono ?_; rintro e w' ⟨rfl, rfl⟩
  go_wp2_with fail
  go_ret
  exact ⟨retB HO.out, rfl⟩
theorem finite_any (b : Nat) (w : World) (hb : W64 b) : Calls Try.prog 27 #[.float .f64 b] w fun e w' => e = .returned (.bool (!odd b)) ∧ w = w' := by
  cases h : isNan b
  · have HN := Lib.hid h
    clear h
    go_enter Try.func27, Try.ntmps27
    go_wp2_with fail
    go_at_call 18; refine (noNumber_of HN.out _).mono ?_; rintro e w' ⟨rfl, rfl⟩
    go_wp2_with fail
    go_at_call 28; refine (IsInf_any _ _ hb HN.out).mono ?_; rintro e w' ⟨rfl, rfl⟩
    go_wp2_with fail
    go_ret
    exact ⟨rfl, rfl⟩
  · have HO := Lib.hid (odd_nan h)
    have HN := Lib.hid h
    clear h
    go_enter Try.func27, Try.ntmps27
    go_wp2_with fail
    go_at_call 18; refine (noNumber_of HN.out _).mono ?_; rintro e w' ⟨rfl, rfl⟩
    go_wp2_with fail
    go_ret
    exact ⟨retB (by rw [HO.out]; rfl), rfl⟩
theorem finite_of {b : Nat} {x : Bool} (h : odd b = !x) (hb : W64 b) (w : World) : Calls Try.prog 27 #[.float .f64 b] w fun e w' => e = .returned (.bool x) ∧ w = w' := by
  have := finite_any b w hb; rw [h, Bool.not_not] at this; exact this
theorem is_any (a b : Nat) (w : World) : Calls Try.prog 15 #[.float .f64 a, .int .u64 b] w fun e w' => e = .returned (.bool ((plain a : Int) == (plain b : Int))) ∧ w = w' := by
  have hd := bits_run
  go_enter Try.func15, Try.ntmps15
  go_wp2_with fail
  go_at_call 26; refine (refPlain_any _ _).mono ?_; rintro e w' ⟨rfl, rfl⟩
  go_wp2_with fail
  go_at_call 26; refine (refPlain_any _ _).mono ?_; rintro e w' ⟨rfl, rfl⟩
  go_wp2_with fail
  go_ret
  exact ⟨rfl, rfl⟩
theorem is_of {a b : Nat} (h : plain a = plain b) (w : World) : Calls Try.prog 15 #[.float .f64 a, .int .u64 b] w fun e w' => e = .returned (.bool true) ∧ w = w' := by
  have := is_any a b w; rw [h] at this; simpa using this
end Go.Proofs.Ytchokhfcemeagaa.score
