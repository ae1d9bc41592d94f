/- The walks of lit's calls on one literal, and of the document's. -/
import Derived.Test.YtbdmndhjbemenaaProg
import Derived.Test.YtbdmndhjbemenaaFnV
import Derived.WalkKit
import Derived.Handy
import Derived.Outline
namespace Go.Proofs.Ytbdmndhjbemenaa.lits
open Go.RowKit
open Go.Proofs.Ytbdmndhjbemenaa.fns

theorem retI {k : IntKind} {a b : Int} (h : a = b) : Ending.returned (.int k a) = .returned (.int k b) := by rw [h]
theorem retB {a b : Bool} (h : a = b) : Ending.returned (.bool a) = .returned (.bool b) := by rw [h]

theorem Good_any (l : Int) (w : World) : Calls Try.prog 38 #[.int .i64 l] w fun e w' => e = .returned (.bool (goodB l)) ∧ w = w' := by
  by_cases h0 : 0 ≤ l
  · by_cases h1 : l ≤ 33554433
    · have HR := Lib.hid (good_yes h0 h1)
      go_enter Try.func38, Try.ntmps38
      go_wp2
      go_ret
      exact ⟨retB HR.out.symm, rfl⟩
    · have HR := Lib.hid (good_no (fun h => h1 h.2))
      go_enter Try.func38, Try.ntmps38
      go_wp2
      go_ret
      exact ⟨retB HR.out.symm, rfl⟩
  · have HR := Lib.hid (good_no (fun h => h0 h.1))
    go_enter Try.func38, Try.ntmps38
    go_wp2
    go_ret
    exact ⟨retB HR.out.symm, rfl⟩
theorem Of_any (v : Int) (b : Bool) (w : World) : Calls Try.prog 34 #[.int .i64 v, .bool b] w fun e w' => e = .returned (.int .i64 (litOf v b)) ∧ w = w' := by
  by_cases h0 : v < 0
  · have HR := Lib.hid (of_bad (b := b) (.inl h0))
    go_enter Try.func34, Try.ntmps34
    go_wp2
    go_ret
    exact ⟨retI HR.out.symm, rfl⟩
  · have h0' : 0 ≤ v := by omega
    by_cases h1 : 16777216 < v
    · have HR := Lib.hid (of_bad (b := b) (.inr h1))
      go_enter Try.func34, Try.ntmps34
      go_wp2
      go_ret
      exact ⟨retI HR.out.symm, rfl⟩
    · have h1' : v ≤ 16777216 := by omega
      clear h0 h1
      cases b with
      | true =>
        have HR := Lib.hid (of_neg h0' h1')
        go_enter Try.func34, Try.ntmps34
        go_wp2
        go_ret
        exact ⟨retI HR.out.symm, rfl⟩
      | false =>
        have HR := Lib.hid (of_pos h0' h1')
        go_enter Try.func34, Try.ntmps34
        go_wp2
        go_ret
        exact ⟨retI HR.out.symm, rfl⟩
theorem Good_yes {l : Int} (h : goodB l = true) (w : World) : Calls Try.prog 38 #[.int .i64 l] w fun e w' => e = .returned (.bool true) ∧ w = w' := by
  have := Good_any l w; rw [h] at this; exact this
theorem Good_no {l : Int} (h : goodB l = false) (w : World) : Calls Try.prog 38 #[.int .i64 l] w fun e w' => e = .returned (.bool false) ∧ w = w' := by
  have := Good_any l w; rw [h] at this; exact this
theorem Var_any (l : Int) (w : World) : Calls Try.prog 30 #[.int .i64 l] w fun e w' => e = .returned (.int .i64 (litVar l)) ∧ w = w' := by
  cases h : goodB l with
  | false =>
    have HR := Lib.hid (var_no h)
    have HG := Lib.hid h
    clear h
    go_enter Try.func30, Try.ntmps30
    go_wp2_with (go_at_call 38; refine (Good_no HG.out _).mono ?_; rintro e w' ⟨rfl, rfl⟩)
    go_ret
    exact ⟨retI HR.out.symm, rfl⟩
  | true =>
    have HR := Lib.hid (var_yes h)
    have HG := Lib.hid h
    obtain ⟨h0, h1⟩ := good_iff.1 h
    clear h
    go_enter Try.func30, Try.ntmps30
    go_wp2_with (go_at_call 38; refine (Good_yes HG.out _).mono ?_; rintro e w' ⟨rfl, rfl⟩)
    go_ret
    exact ⟨retI HR.out.symm, rfl⟩
theorem Neg_any (l : Int) (w : World) : Calls Try.prog 41 #[.int .i64 l] w fun e w' => e = .returned (.bool (litNeg l)) ∧ w = w' := by
  cases h : goodB l with
  | false =>
    have HR := Lib.hid (neg_no h)
    have HG := Lib.hid h
    clear h
    go_enter Try.func41, Try.ntmps41
    go_wp2_with (go_at_call 38; refine (Good_no HG.out _).mono ?_; rintro e w' ⟨rfl, rfl⟩)
    go_ret
    exact ⟨retB HR.out.symm, rfl⟩
  | true =>
    obtain ⟨h0, h1⟩ := good_iff.1 h
    have HG := Lib.hid h
    by_cases h2 : l % 2 = 1
    · have HR := Lib.hid (neg_odd h h2)
      have c : (l % 2 == 1) = true := by simp [h2]
      clear h h2
      go_enter Try.func41, Try.ntmps41
      go_wp2_with (go_at_call 38; refine (Good_yes HG.out _).mono ?_; rintro e w' ⟨rfl, rfl⟩)
      go_ret
      exact ⟨retB HR.out.symm, rfl⟩
    · have HR := Lib.hid (neg_even h (by omega))
      have c : (l % 2 == 1) = false := by simp [h2]
      clear h h2
      go_enter Try.func41, Try.ntmps41
      go_wp2_with (go_at_call 38; refine (Good_yes HG.out _).mono ?_; rintro e w' ⟨rfl, rfl⟩)
      go_ret
      exact ⟨retB HR.out.symm, rfl⟩

theorem Not_any (l : Int) (w : World) : Calls Try.prog 42 #[.int .i64 l] w fun e w' => e = .returned (.int .i64 (litNot l)) ∧ w = w' := by
  have HR := Lib.hid (not_of l)
  go_enter Try.func42, Try.ntmps42
  go_wp2_with fail
  go_at_call 30; refine (Var_any _ _).mono ?_; rintro e w' ⟨rfl, rfl⟩
  go_wp2_with fail
  go_at_call 41; refine (Neg_any _ _).mono ?_; rintro e w' ⟨rfl, rfl⟩
  go_wp2_with fail
  go_at_call 34; refine (Of_any _ _ _).mono ?_; rintro e w' ⟨rfl, rfl⟩
  go_wp2_with fail
  go_ret
  exact ⟨retI HR.out.symm, rfl⟩
end Go.Proofs.Ytbdmndhjbemenaa.lits
