/- The walk of the document's example. -/
import Derived.Test.YtchokhfcemeagaaDoorF1
import Derived.Lib.SmallJoins
import Derived.Deep.QuietTactic
import Derived.BigQuiet
namespace Go.Proofs.YtchokhfcemeagaaDoor.score
open Go.RowKit
open Go.Proofs.YtchokhfcemeagaaDoor.fns

theorem Inf_one (w : World) : Calls Tryd.prog 16 #[.int .i64 1] w fun e w' => e = .returned (.float .f64 9218868437227405312) ∧ w = w' := by
  have hf := from_run
  go_enter Tryd.func16, Tryd.ntmps16
  go_wp2
  go_ret
  exact ⟨rfl, rfl⟩
theorem NaN_any (w : World) : Calls Tryd.prog 17 #[] w fun e w' => e = .returned (.float .f64 9221120237041090561) ∧ w = w' := by
  have hf := from_run
  go_enter Tryd.func17, Tryd.ntmps17
  go_wp2
  go_ret
  exact ⟨rfl, rfl⟩
theorem Copysign_one (w : World) : Calls Tryd.prog 19 #[.float .f64 0, .float .f64 13830554455654793216] w fun e w' => e = .returned (.float .f64 9223372036854775808) ∧ w = w' := by
  have hd := bits_run
  have hf := from_run
  have HC : Hid ((bits .or .u64 (bits .andNot .u64 0 9223372036854775808) (bits .and .u64 13830554455654793216 9223372036854775808)).toNat = 9223372036854775808) := Lib.hid (by decide)
  go_enter Tryd.func19, Tryd.ntmps19
  go_wp2
  go_ret
  exact ⟨retF HC.out, rfl⟩
theorem Bump_inf (w : World) : Calls Tryd.prog 20 #[.float .f64 9218868437227405312, .float .f64 18442240474082181120] w fun e w' => e = .returned (.float .f64 0) ∧ w' = w.drew := by
  obtain ⟨q, hq, -, hrun⟩ := run_nan (P := Tryd.prog) .add (.inl rfl) 23 9218868437227405312 18442240474082181120 w (by decide +kernel)
  have HN := Lib.hid hq
  clear hq
  go_enter Tryd.func20, Tryd.ntmps20
  go_wp2_with fail
  go_at_call 15; refine (noNumber_of HN.out _).mono ?_; rintro e w' ⟨rfl, rfl⟩
  go_wp2_with fail
  go_ret
  exact ⟨rfl, rfl⟩
theorem Grow_two (w : World) : Calls Tryd.prog 21 #[.float .f64 4607182418800017408, .float .f64 4602678819172646912] w fun e w' => e = .returned (.float .f64 4611686018427387904) ∧ w = w' := by
  have c1 : (FloatKind.f64.format.order 4602678819172646912 0 == some .gt) = true := by decide +kernel
  have c2 : (FloatKind.f64.format.order 4602678819172646912 4607182418800017408 == some .lt) = true := by decide +kernel
  have hq := run_float_arith (P := Tryd.prog) w .quo 23 .f64 4607182418800017408 4602678819172646912 4611686018427387904 (by decide +kernel)
  have ho : odd 4611686018427387904 = !true := by decide +kernel
  have HO := Lib.hid ho
  clear ho
  go_enter Tryd.func21, Tryd.ntmps21
  go_wp2_with fail
  go_at_call 25; refine (finite_of HO.out (by unfold W64; omega) _).mono ?_; rintro e w' ⟨rfl, rfl⟩
  go_wp2_with fail
  go_ret
  exact ⟨rfl, rfl⟩
theorem Grow_nan (w : World) : Calls Tryd.prog 21 #[.float .f64 4607182418800017408, .float .f64 9221120237041090561] w fun e w' => e = .returned (.float .f64 4607182418800017408) ∧ w = w' := by
  have c1 : (FloatKind.f64.format.order 9221120237041090561 0 == some .gt) = false := by decide +kernel
  go_enter Tryd.func21, Tryd.ntmps21
  go_wp2_with fail
  go_ret
  exact ⟨rfl, rfl⟩
theorem lives_any (w : World) : Calls Tryd.prog 10 #[] w fun e w' => e = .returned (.bool true) ∧ w' = w.drew := by
  have hneg : Op.unary .neg (.float .f64 9218868437227405312) = pure (.float .f64 18442240474082181120) := by rfl
  have c1 : (FloatKind.f64.format.order 0 0 == some .eq) = true := by decide +kernel
  have c2 : (FloatKind.f64.format.order 4611686018427387904 4611686018427387904 == some .eq) = true := by decide +kernel
  have c3 : (FloatKind.f64.format.order 4607182418800017408 4607182418800017408 == some .eq) = true := by decide +kernel
  have H1 : Hid (decide (key 9221120237041090561 < key 18442240474082181120) = true) := Lib.hid (by decide +kernel)
  have H2 : Hid (decide (key 13830554455654793216 < key 0) = true) := Lib.hid (by decide +kernel)
  have H3 : Hid (decide (key 9223372036854775808 < key 0) = false) := Lib.hid (by decide +kernel)
  go_enter Tryd.func10, Tryd.ntmps10
  go_wp2_with fail
  go_at_call 16; refine (Inf_one _).mono ?_; rintro e w' ⟨rfl, rfl⟩
  go_wp2_with fail
  go_at_call 17; refine (NaN_any _).mono ?_; rintro e w' ⟨rfl, rfl⟩
  go_wp2_with fail
  go_at_call 18; refine (Less_of H1.out (by unfold W64; omega) (by unfold W64; omega) _).mono ?_; rintro e w' ⟨rfl, rfl⟩
  go_wp2_with fail
  go_at_call 18; refine (Less_of H2.out (by unfold W64; omega) (by unfold W64; omega) _).mono ?_; rintro e w' ⟨rfl, rfl⟩
  go_wp2_with fail
  go_at_call 19; refine (Copysign_one _).mono ?_; rintro e w' ⟨rfl, rfl⟩
  go_wp2_with fail
  go_at_call 18; refine (Less_of H3.out (by unfold W64; omega) (by unfold W64; omega) _).mono ?_; rintro e w' ⟨rfl, rfl⟩
  go_wp2_with fail
  go_at_call 20; refine (Bump_inf _).mono ?_; rintro e w' ⟨rfl, rfl⟩
  go_wp2_with fail
  go_at_call 21; refine (Grow_two _).mono ?_; rintro e w' ⟨rfl, rfl⟩
  go_wp2_with fail
  go_at_call 21; refine (Grow_nan _).mono ?_; rintro e w' ⟨rfl, rfl⟩
  go_wp2_with fail
  go_ret
  exact ⟨rfl, rfl⟩
end Go.Proofs.YtchokhfcemeagaaDoor.score
