/- The walks of tri's calls on values, and of the document's. -/
import Derived.Test.YtmbmpghfidcnhaaDoorProg
import Derived.Test.YtmbmpghfidcnhaaDoorFnT
import Derived.WalkKit
import Derived.Handy
import Derived.Outline
namespace Go.Proofs.YtmbmpghfidcnhaaDoor.tri
open Go.RowKit
open Go.Proofs.YtmbmpghfidcnhaaDoor.fns

theorem retI {k : IntKind} {a b : Int} (h : a = b) : Ending.returned (.int k a) = .returned (.int k b) := by rw [h]
theorem retB {a b : Bool} (h : a = b) : Ending.returned (.bool a) = .returned (.bool b) := by rw [h]
theorem retJ {r s : Int × Bool} (h : r = s) : Ending.returned (.tuple #[.int .i64 r.1, .bool r.2]) = .returned (.tuple #[.int .i64 s.1, .bool s.2]) := by rw [h]
theorem ne0 {a : Int} (h : a ≠ 0 ∧ a ≠ 1) : (a == 0) = false ∧ (a == 1) = false := ⟨by simp [h.1], by simp [h.2]⟩

theorem value_any (a : Int) (w : World) : Calls Tryd.prog 14 #[.int .i64 a] w fun e w' => e = .returned (.int .i64 (tv a)) ∧ w = w' := by
  rcases tv3 a with rfl | rfl | h
  · go_enter Tryd.func14, Tryd.ntmps14
    go_wp2
    go_ret
    exact ⟨rfl, rfl⟩
  · go_enter Tryd.func14, Tryd.ntmps14
    go_wp2
    go_ret
    exact ⟨rfl, rfl⟩
  · obtain ⟨c1, c2⟩ := ne0 h
    have HR := Lib.hid (tv_other h)
    clear h
    go_enter Tryd.func14, Tryd.ntmps14
    go_wp2
    go_ret
    exact ⟨retI HR.out.symm, rfl⟩
theorem refvalue_any (a : Int) (w : World) : Calls Tryd.prog 15 #[.int .i64 a] w fun e w' => e = .returned (.int .i64 (tv a)) ∧ w = w' := by
  rcases tv3 a with rfl | rfl | h
  · go_enter Tryd.func15, Tryd.ntmps15
    go_wp2
    go_ret
    exact ⟨rfl, rfl⟩
  · go_enter Tryd.func15, Tryd.ntmps15
    go_wp2
    go_ret
    exact ⟨rfl, rfl⟩
  · obtain ⟨c1, c2⟩ := ne0 h
    have HR := Lib.hid (tv_other h)
    clear h
    go_enter Tryd.func15, Tryd.ntmps15
    go_wp2
    go_ret
    exact ⟨retI HR.out.symm, rfl⟩
theorem value_of {a x : Int} (h : tv a = x) (w : World) : Calls Tryd.prog 14 #[.int .i64 a] w fun e w' => e = .returned (.int .i64 x) ∧ w = w' := by
  have := value_any a w; rw [h] at this; exact this
theorem refvalue_of {a x : Int} (h : tv a = x) (w : World) : Calls Tryd.prog 15 #[.int .i64 a] w fun e w' => e = .returned (.int .i64 x) ∧ w = w' := by
  have := refvalue_any a w; rw [h] at this; exact this

theorem Not_any (a : Int) (w : World) : Calls Tryd.prog 12 #[.int .i64 a] w fun e w' => e = .returned (.int .i64 (tNot a)) ∧ w = w' := by
  rcases tv3 a with rfl | rfl | h
  · go_enter Tryd.func12, Tryd.ntmps12
    go_wp2
    go_ret
    exact ⟨rfl, rfl⟩
  · go_enter Tryd.func12, Tryd.ntmps12
    go_wp2
    go_ret
    exact ⟨rfl, rfl⟩
  · obtain ⟨c1, c2⟩ := ne0 h
    have HR := Lib.hid (not_other h)
    clear h
    go_enter Tryd.func12, Tryd.ntmps12
    go_wp2
    go_ret
    exact ⟨retI HR.out.symm, rfl⟩
theorem And_any (a b : Int) (w : World) : Calls Tryd.prog 11 #[.int .i64 a, .int .i64 b] w fun e w' => e = .returned (.int .i64 (tAnd a b)) ∧ w = w' := by
  by_cases ha : a = 0
  · subst ha
    have HR := Lib.hid (and_zl b)
    go_enter Tryd.func11, Tryd.ntmps11
    go_wp2
    go_ret
    exact ⟨retI HR.out.symm, rfl⟩
  · have c1 : (a == 0) = false := by simp [ha]
    by_cases hb : b = 0
    · subst hb
      have HR := Lib.hid (and_zr a)
      clear ha
      go_enter Tryd.func11, Tryd.ntmps11
      go_wp2
      go_ret
      exact ⟨retI HR.out.symm, rfl⟩
    · have c2 : (b == 0) = false := by simp [hb]
      by_cases ha1 : a = 1
      · subst ha1
        clear ha c1
        by_cases hb1 : b = 1
        · subst hb1
          clear hb c2
          go_enter Tryd.func11, Tryd.ntmps11
          go_wp2
          go_ret
          exact ⟨rfl, rfl⟩
        · have c3 : (b == 1) = false := by simp [hb1]
          have HR := Lib.hid (and_or (a := 1) (by decide) ⟨hb, hb1⟩)
          clear hb hb1
          go_enter Tryd.func11, Tryd.ntmps11
          go_wp2
          go_ret
          exact ⟨retI HR.out.symm, rfl⟩
      · have c3 : (a == 1) = false := by simp [ha1]
        have HR := Lib.hid (and_ol ⟨ha, ha1⟩ hb)
        clear ha ha1 hb
        go_enter Tryd.func11, Tryd.ntmps11
        go_wp2
        go_ret
        exact ⟨retI HR.out.symm, rfl⟩
theorem join_of {a b x y : Int} (h : tv a = x) (h2 : tv b = y) : tJoin a b = tJn x y := by unfold tJoin; rw [h, h2]
theorem Join_any (a b : Int) (w : World) : Calls Tryd.prog 10 #[.int .i64 a, .int .i64 b] w fun e w' => e = .returned (.tuple #[.int .i64 (tJoin a b).1, .bool (tJoin a b).2]) ∧ w = w' := by
  rcases tv_cases a with h | h | h <;> rcases tv_cases b with h2 | h2 | h2
  all_goals
    have HR := Lib.hid (join_of h h2)
    have HA := Lib.hid h
    have HB := Lib.hid h2
    clear h h2
    go_enter Tryd.func10, Tryd.ntmps10
    go_wp2_with fail
    go_at_call 14; refine (value_of HA.out _).mono ?_; rintro e w' ⟨rfl, rfl⟩
    go_wp2_with fail
    go_at_call 14; refine (value_of HB.out _).mono ?_; rintro e w' ⟨rfl, rfl⟩
    go_wp2_with fail
    go_ret2
    exact ⟨(retJ HR.out).symm, rfl⟩
theorem below_of {a b x y : Int} (h : tv a = x) (h2 : tv b = y) : tBelow a b = tBl x y := by unfold tBelow; rw [h, h2]
theorem Join_of {a b x : Int} {c : Bool} (h : tJoin a b = (x, c)) (w : World) : Calls Tryd.prog 10 #[.int .i64 a, .int .i64 b] w fun e w' => e = .returned (.tuple #[.int .i64 x, .bool c]) ∧ w = w' := by
  have := Join_any a b w; rw [h] at this; exact this
theorem lives_any (w : World) : Calls Tryd.prog 4 #[] w fun e w' => e = .returned (.bool true) ∧ w = w' := by
  go_enter Tryd.func4, Tryd.ntmps4
  go_wp2_with fail
  go_at_call 10; refine (Join_of (a := 1) (b := 2) (x := 1) (c := true) rfl _).mono ?_; rintro e w' ⟨rfl, rfl⟩
  go_wp2_with fail
  go_at_call 11; refine (And_any 0 2 _).mono ?_; rintro e w' ⟨rfl, rfl⟩
  go_wp2_with fail
  go_at_call 11; refine (And_any 1 2 _).mono ?_; rintro e w' ⟨rfl, rfl⟩
  go_wp2_with fail
  go_at_call 12; refine (Not_any 0 _).mono ?_; rintro e w' ⟨rfl, rfl⟩
  go_wp2_with fail
  go_ret
  exact ⟨rfl, rfl⟩
end Go.Proofs.YtmbmpghfidcnhaaDoor.tri
