/- The walk of the document's example. -/
import Derived.Test.YtchokhfcemeagaaF1
import Derived.Lib.SmallJoins
import Derived.Deep.QuietTactic
import Derived.BigQuiet
namespace Go.Proofs.Ytchokhfcemeagaa.score
open Go.RowKit
open Go.Proofs.Ytchokhfcemeagaa.fns

theorem Inf_one (w : World) : Calls Try.prog 20 #[.int .i64 1] w fun e w' => e = .returned (.float .f64 9218868437227405312) ∧ w = w' := by
  have hf := from_run
  go_enter Try.func20, Try.ntmps20
  go_wp2
  go_ret
  exact ⟨rfl, rfl⟩
theorem NaN_any (w : World) : Calls Try.prog 21 #[] w fun e w' => e = .returned (.float .f64 9221120237041090561) ∧ w = w' := by
  have hf := from_run
  go_enter Try.func21, Try.ntmps21
  go_wp2
  go_ret
  exact ⟨rfl, rfl⟩
theorem Copysign_one (w : World) : Calls Try.prog 22 #[.float .f64 0, .float .f64 13830554455654793216] w fun e w' => e = .returned (.float .f64 9223372036854775808) ∧ w = w' := by
  have hd := bits_run
  have hf := from_run
  have HC : Hid ((bits .or .u64 (bits .andNot .u64 0 9223372036854775808) (bits .and .u64 13830554455654793216 9223372036854775808)).toNat = 9223372036854775808) := Lib.hid (by decide)
  go_enter Try.func22, Try.ntmps22
  go_wp2
  go_ret
  exact ⟨retF HC.out, rfl⟩
theorem Bump_inf (w : World) : Calls Try.prog 23 #[.float .f64 9218868437227405312, .float .f64 18442240474082181120] w fun e w' => e = .returned (.float .f64 0) ∧ w' = w.drew := by
  obtain ⟨q, hq, -, hrun⟩ := run_nan (P := Try.prog) .add (.inl rfl) 24 9218868437227405312 18442240474082181120 w (by decide +kernel)
  have HN := Lib.hid hq
  clear hq
  go_enter Try.func23, Try.ntmps23
  go_wp2_with fail
  go_at_call 18; refine (noNumber_of HN.out _).mono ?_; rintro e w' ⟨rfl, rfl⟩
  go_wp2_with fail
  go_ret
  exact ⟨rfl, rfl⟩
theorem Grow_two (w : World) : Calls Try.prog 24 #[.float .f64 4607182418800017408, .float .f64 4602678819172646912] w fun e w' => e = .returned (.float .f64 4611686018427387904) ∧ w = w' := by
  have c1 : (FloatKind.f64.format.order 4602678819172646912 0 == some .gt) = true := by decide +kernel
  have c2 : (FloatKind.f64.format.order 4602678819172646912 4607182418800017408 == some .lt) = true := by decide +kernel
  have hq := run_float_arith (P := Try.prog) w .quo 24 .f64 4607182418800017408 4602678819172646912 4611686018427387904 (by decide +kernel)
  have ho : odd 4611686018427387904 = !true := by decide +kernel
  have HO := Lib.hid ho
  clear ho
  go_enter Try.func24, Try.ntmps24
  go_wp2_with fail
  go_at_call 27; refine (finite_of HO.out (by unfold W64; omega) _).mono ?_; rintro e w' ⟨rfl, rfl⟩
  go_wp2_with fail
  go_ret
  exact ⟨rfl, rfl⟩
theorem Grow_nan (w : World) : Calls Try.prog 24 #[.float .f64 4607182418800017408, .float .f64 9221120237041090561] w fun e w' => e = .returned (.float .f64 4607182418800017408) ∧ w = w' := by
  have c1 : (FloatKind.f64.format.order 9221120237041090561 0 == some .gt) = false := by decide +kernel
  go_enter Try.func24, Try.ntmps24
  go_wp2_with fail
  go_ret
  exact ⟨rfl, rfl⟩
theorem lives_any (w : World) : Calls Try.prog 12 #[] w fun e w' => e = .returned (.bool true) ∧ w' = w.drew := by
  have hneg : Op.unary .neg (.float .f64 9218868437227405312) = pure (.float .f64 18442240474082181120) := by rfl
  have c1 : (FloatKind.f64.format.order 0 0 == some .eq) = true := by decide +kernel
  have c2 : (FloatKind.f64.format.order 4611686018427387904 4611686018427387904 == some .eq) = true := by decide +kernel
  have c3 : (FloatKind.f64.format.order 4607182418800017408 4607182418800017408 == some .eq) = true := by decide +kernel
  have H1 : Hid (decide (key 9221120237041090561 < key 18442240474082181120) = true) := Lib.hid (by decide +kernel)
  have H2 : Hid (decide (key 13830554455654793216 < key 0) = true) := Lib.hid (by decide +kernel)
  have H3 : Hid (decide (key 9223372036854775808 < key 0) = false) := Lib.hid (by decide +kernel)
  go_enter Try.func12, Try.ntmps12
  go_wp2_with fail
  go_at_call 20; refine (Inf_one _).mono ?_; rintro e w' ⟨rfl, rfl⟩
  go_wp2_with fail
  go_at_call 21; refine (NaN_any _).mono ?_; rintro e w' ⟨rfl, rfl⟩
  go_wp2_with fail
  go_at_call 8; refine (Less_of H1.out (by unfold W64; omega) (by unfold W64; omega) _).mono ?_; rintro e w' ⟨rfl, rfl⟩
  go_wp2_with fail
  go_at_call 8; refine (Less_of H2.out (by unfold W64; omega) (by unfold W64; omega) _).mono ?_; rintro e w' ⟨rfl, rfl⟩
  go_wp2_with fail
  go_at_call 22; refine (Copysign_one _).mono ?_; rintro e w' ⟨rfl, rfl⟩
  go_wp2_with fail
  go_at_call 8; refine (Less_of H3.out (by unfold W64; omega) (by unfold W64; omega) _).mono ?_; rintro e w' ⟨rfl, rfl⟩
  go_wp2_with fail
  go_at_call 23; refine (Bump_inf _).mono ?_; rintro e w' ⟨rfl, rfl⟩
  go_wp2_with fail
  go_at_call 24; refine (Grow_two _).mono ?_; rintro e w' ⟨rfl, rfl⟩
  go_wp2_with fail
  go_at_call 24; refine (Grow_nan _).mono ?_; rintro e w' ⟨rfl, rfl⟩
  go_wp2_with fail
  go_ret
  exact ⟨rfl, rfl⟩
theorem shrunk_any (b : Nat) (w : World) (hb : W64 b) : Calls Try.prog 25 #[.float .f64 b] w fun e w' => e = .returned (.float .f64 (shr b)) ∧ w = w' := by
  cases h : odd b
  · have hq := run_float_arith (P := Try.prog) w .mul 24 .f64 b 3110860544497550640 (shr b) (mul_fin h)
    have HO : Hid (odd b = !true) := Lib.hid h
    clear h
    go_enter Try.func25, Try.ntmps25
    go_wp2_with fail
    go_at_call 27; refine (finite_of HO.out hb _).mono ?_; rintro e w' ⟨rfl, rfl⟩
    go_wp2_with fail
    go_ret
    exact ⟨rfl, rfl⟩
  · have HS := Lib.hid (shr_odd h)
    have HO : Hid (odd b = !false) := Lib.hid h
    clear h
    go_enter Try.func25, Try.ntmps25
    go_wp2_with fail
    go_at_call 27; refine (finite_of HO.out hb _).mono ?_; rintro e w' ⟨rfl, rfl⟩
    go_wp2_with fail
    go_ret
    exact ⟨retF HS.out.symm, rfl⟩
end Go.Proofs.Ytchokhfcemeagaa.score
