/- The walks of lit's calls on one literal, and of the document's. -/
import Derived.Test.YtoacedadfjoneaaProg
import Derived.Test.YtoacedadfjoneaaFnV
import Derived.WalkKit
import Derived.Handy
import Derived.Outline
namespace Go.Proofs.Ytoacedadfjoneaa.lits
open Go.RowKit
open Go.Proofs.Ytoacedadfjoneaa.fns

theorem retI {k : IntKind} {a b : Int} (h : a = b) : Ending.returned (.int k a) = .returned (.int k b) := by rw [h]
theorem retB {a b : Bool} (h : a = b) : Ending.returned (.bool a) = .returned (.bool b) := by rw [h]

theorem Good_any (l : Int) (w : World) : Calls Try.prog 48 #[.int .i64 l] w fun e w' => e = .returned (.bool (goodB l)) ∧ w = w' := by
  by_cases h0 : 0 ≤ l
  · by_cases h1 : l ≤ 33554433
    · have HR := Lib.hid (good_yes h0 h1)
      go_enter Try.func48, Try.ntmps48
      go_wp2
      go_ret
      exact ⟨retB HR.out.symm, rfl⟩
    · have HR := Lib.hid (good_no (fun h => h1 h.2))
      go_enter Try.func48, Try.ntmps48
      go_wp2
      go_ret
      exact ⟨retB HR.out.symm, rfl⟩
  · have HR := Lib.hid (good_no (fun h => h0 h.1))
    go_enter Try.func48, Try.ntmps48
    go_wp2
    go_ret
    exact ⟨retB HR.out.symm, rfl⟩
theorem refGood_any (l : Int) (w : World) : Calls Try.prog 33 #[.int .i64 l] w fun e w' => e = .returned (.bool (goodB l)) ∧ w = w' := by
  by_cases h0 : 0 ≤ l
  · by_cases h1 : l < 33554434
    · have HR := Lib.hid (good_yes h0 (by omega))
      go_enter Try.func33, Try.ntmps33
      go_wp2
      go_ret
      exact ⟨retB HR.out.symm, rfl⟩
    · have HR := Lib.hid (good_no (l := l) (fun h => h1 (by omega)))
      go_enter Try.func33, Try.ntmps33
      go_wp2
      go_ret
      exact ⟨retB HR.out.symm, rfl⟩
  · have HR := Lib.hid (good_no (fun h => h0 h.1))
    go_enter Try.func33, Try.ntmps33
    go_wp2
    go_ret
    exact ⟨retB HR.out.symm, rfl⟩

theorem Good_yes {l : Int} (h : goodB l = true) (w : World) : Calls Try.prog 48 #[.int .i64 l] w fun e w' => e = .returned (.bool true) ∧ w = w' := by
  have := Good_any l w; rw [h] at this; exact this
theorem Good_no {l : Int} (h : goodB l = false) (w : World) : Calls Try.prog 48 #[.int .i64 l] w fun e w' => e = .returned (.bool false) ∧ w = w' := by
  have := Good_any l w; rw [h] at this; exact this
theorem refGood_yes {l : Int} (h : goodB l = true) (w : World) : Calls Try.prog 33 #[.int .i64 l] w fun e w' => e = .returned (.bool true) ∧ w = w' := by
  have := refGood_any l w; rw [h] at this; exact this
theorem refGood_no {l : Int} (h : goodB l = false) (w : World) : Calls Try.prog 33 #[.int .i64 l] w fun e w' => e = .returned (.bool false) ∧ w = w' := by
  have := refGood_any l w; rw [h] at this; exact this

theorem Var_any (l : Int) (w : World) : Calls Try.prog 39 #[.int .i64 l] w fun e w' => e = .returned (.int .i64 (litVar l)) ∧ w = w' := by
  cases h : goodB l with
  | false =>
    have HR := Lib.hid (var_no h)
    have HG := Lib.hid h
    clear h
    go_enter Try.func39, Try.ntmps39
    go_wp2_with (go_at_call 48; refine (Good_no HG.out _).mono ?_; rintro e w' ⟨rfl, rfl⟩)
    go_ret
    exact ⟨retI HR.out.symm, rfl⟩
  | true =>
    have HR := Lib.hid (var_yes h)
    have HG := Lib.hid h
    obtain ⟨h0, h1⟩ := good_iff.1 h
    clear h
    go_enter Try.func39, Try.ntmps39
    go_wp2_with (go_at_call 48; refine (Good_yes HG.out _).mono ?_; rintro e w' ⟨rfl, rfl⟩)
    go_ret
    exact ⟨retI HR.out.symm, rfl⟩
theorem Neg_any (l : Int) (w : World) : Calls Try.prog 40 #[.int .i64 l] w fun e w' => e = .returned (.bool (litNeg l)) ∧ w = w' := by
  cases h : goodB l with
  | false =>
    have HR := Lib.hid (neg_no h)
    have HG := Lib.hid h
    clear h
    go_enter Try.func40, Try.ntmps40
    go_wp2_with (go_at_call 48; refine (Good_no HG.out _).mono ?_; rintro e w' ⟨rfl, rfl⟩)
    go_ret
    exact ⟨retB HR.out.symm, rfl⟩
  | true =>
    obtain ⟨h0, h1⟩ := good_iff.1 h
    have HG := Lib.hid h
    by_cases h2 : l % 2 = 1
    · have HR := Lib.hid (neg_odd h h2)
      have c : (l % 2 == 1) = true := by simp [h2]
      clear h h2
      go_enter Try.func40, Try.ntmps40
      go_wp2_with (go_at_call 48; refine (Good_yes HG.out _).mono ?_; rintro e w' ⟨rfl, rfl⟩)
      go_ret
      exact ⟨retB HR.out.symm, rfl⟩
    · have HR := Lib.hid (neg_even h (by omega))
      have c : (l % 2 == 1) = false := by simp [h2]
      clear h h2
      go_enter Try.func40, Try.ntmps40
      go_wp2_with (go_at_call 48; refine (Good_yes HG.out _).mono ?_; rintro e w' ⟨rfl, rfl⟩)
      go_ret
      exact ⟨retB HR.out.symm, rfl⟩

end Go.Proofs.Ytoacedadfjoneaa.lits
