/- The walk of the document's Below. -/
import Derived.Test.YtpagcphebokkmaaG1
import Derived.Deep.DeepCutAuto
namespace Go.Proofs.Ytpagcphebokkmaa.rnd
open Go.RowKit
open Go.Proofs.Ytpagcphebokkmaa.fns

theorem refBelow_no (s n : Int) (w : World) (hn : n < 1) :
    Calls Try.prog 10 #[.agg #[.int .u64 s], .int .i64 n] w fun e w' => e = .returned (.tuple #[.int .i64 0, .agg #[.int .u64 s]]) ∧ Below w.heap.size w w' := by
  go_enter Try.func10, Try.ntmps10
  go_wp2_with fail
  go_region
  all_goals
    go_wp2_with fail
    refine bodyPost_ret (v := .tuple #[.int .i64 0, .agg #[.int .u64 s]]) (by simp [results, Try.results10, go_sem]) rfl ⟨rfl, ?_⟩
    repeat (first | exact Below.refl _ _ | refine Below.drew ?_ | refine Below.setCell ?_ (by simp) _ | refine Below.alloc ?_ (by simp) _)
theorem refBelow_any (s n : Int) (w : World) (h1 : 1 ≤ n) (h2 : n ≤ 9223372036854775807) :
    Calls Try.prog 10 #[.agg #[.int .u64 s], .int .i64 n] w fun e w' => e = .returned (.tuple #[.int .i64 (blw (out (nxt s)) n), .agg #[.int .u64 (nxt s)]]) ∧ Below w.heap.size w w' := by
  have HR := Lib.hid (rem_in (in_out (nxt s)) h1 h2).1
  have c1 : decide (n < 1) = false := by simp; omega
  go_enter Try.func10, Try.ntmps10
  go_wp2_with fail
  go_at_call 8; refine (refNext_any _ _).mono ?_; rintro e w1 ⟨rfl, hb⟩
  have A0 := ((one_at (w.alloc (.cells #[.int .u64 s] 27)) (w.heap.size + 1) (.int .u64 0) 27 (by simp)).on hb (by simp)).alloc (.cells #[.int .u64 (nxt s)] 27)
  obtain ⟨x0, f0⟩ := A0.drew.cells
  have HA := Lib.hid (A0.set (x' := .int .u64 (nxt s))).cells.1
  clear A0
  have HB := Lib.hid ((Joins.below_alloc2 w _ _).trans (hb.mono (by simp; omega)))
  have hs : w.heap.size + 2 ≤ w1.heap.size := by have := hb.size; simp at this; omega
  clear hb
  go_wp2_with fail
  go_region
  all_goals
    go_wp2_with fail
    refine bodyPost_ret (v := .tuple #[.int .i64 (blw (out (nxt s)) n), .agg #[.int .u64 (nxt s)]]) (by simp [results, Try.results10, go_sem, HA.out, HR.out]) rfl ⟨rfl, ?_⟩
    repeat (first | exact Below.refl _ _ | exact HB.out | refine Below.drew ?_ | refine Below.setCell ?_ (by simp) _ | refine Below.alloc ?_ (by omega) _)
end Go.Proofs.Ytpagcphebokkmaa.rnd
