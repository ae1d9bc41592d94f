/- The walks of tri's calls on values, and of the document's. -/
import Derived.Test.YtoacedadfjoneaaProg
import Derived.Test.YtoacedadfjoneaaFnT
import Derived.WalkKit
import Derived.Handy
import Derived.Outline
namespace Go.Proofs.Ytoacedadfjoneaa.tri
open Go.RowKit
open Go.Proofs.Ytoacedadfjoneaa.fns

theorem retI {k : IntKind} {a b : Int} (h : a = b) : Ending.returned (.int k a) = .returned (.int k b) := by rw [h]
theorem retB {a b : Bool} (h : a = b) : Ending.returned (.bool a) = .returned (.bool b) := by rw [h]
theorem retJ {r s : Int × Bool} (h : r = s) : Ending.returned (.tuple #[.int .i64 r.1, .bool r.2]) = .returned (.tuple #[.int .i64 s.1, .bool s.2]) := by rw [h]
theorem ne0 {a : Int} (h : a ≠ 0 ∧ a ≠ 1) : (a == 0) = false ∧ (a == 1) = false := ⟨by simp [h.1], by simp [h.2]⟩

theorem value_any (a : Int) (w : World) : Calls Try.prog 49 #[.int .i64 a] w fun e w' => e = .returned (.int .i64 (tv a)) ∧ w = w' := by
  rcases tv3 a with rfl | rfl | h
  · go_enter Try.func49, Try.ntmps49
    go_wp2
    go_ret
    exact ⟨rfl, rfl⟩
  · go_enter Try.func49, Try.ntmps49
    go_wp2
    go_ret
    exact ⟨rfl, rfl⟩
  · obtain ⟨c1, c2⟩ := ne0 h
    have HR := Lib.hid (tv_other h)
    clear h
    go_enter Try.func49, Try.ntmps49
    go_wp2
    go_ret
    exact ⟨retI HR.out.symm, rfl⟩
theorem refvalue_any (a : Int) (w : World) : Calls Try.prog 34 #[.int .i64 a] w fun e w' => e = .returned (.int .i64 (tv a)) ∧ w = w' := by
  rcases tv3 a with rfl | rfl | h
  · go_enter Try.func34, Try.ntmps34
    go_wp2
    go_ret
    exact ⟨rfl, rfl⟩
  · go_enter Try.func34, Try.ntmps34
    go_wp2
    go_ret
    exact ⟨rfl, rfl⟩
  · obtain ⟨c1, c2⟩ := ne0 h
    have HR := Lib.hid (tv_other h)
    clear h
    go_enter Try.func34, Try.ntmps34
    go_wp2
    go_ret
    exact ⟨retI HR.out.symm, rfl⟩
theorem value_of {a x : Int} (h : tv a = x) (w : World) : Calls Try.prog 49 #[.int .i64 a] w fun e w' => e = .returned (.int .i64 x) ∧ w = w' := by
  have := value_any a w; rw [h] at this; exact this
theorem refvalue_of {a x : Int} (h : tv a = x) (w : World) : Calls Try.prog 34 #[.int .i64 a] w fun e w' => e = .returned (.int .i64 x) ∧ w = w' := by
  have := refvalue_any a w; rw [h] at this; exact this

theorem Not_any (a : Int) (w : World) : Calls Try.prog 50 #[.int .i64 a] w fun e w' => e = .returned (.int .i64 (tNot a)) ∧ w = w' := by
  rcases tv3 a with rfl | rfl | h
  · go_enter Try.func50, Try.ntmps50
    go_wp2
    go_ret
    exact ⟨rfl, rfl⟩
  · go_enter Try.func50, Try.ntmps50
    go_wp2
    go_ret
    exact ⟨rfl, rfl⟩
  · obtain ⟨c1, c2⟩ := ne0 h
    have HR := Lib.hid (not_other h)
    clear h
    go_enter Try.func50, Try.ntmps50
    go_wp2
    go_ret
    exact ⟨retI HR.out.symm, rfl⟩
theorem refNot_any (a : Int) (w : World) : Calls Try.prog 35 #[.int .i64 a] w fun e w' => e = .returned (.int .i64 (tNot a)) ∧ w = w' := by
  rcases tv3 a with rfl | rfl | h
  · go_enter Try.func35, Try.ntmps35
    go_wp2
    go_ret
    exact ⟨rfl, rfl⟩
  · go_enter Try.func35, Try.ntmps35
    go_wp2
    go_ret
    exact ⟨rfl, rfl⟩
  · obtain ⟨c1, c2⟩ := ne0 h
    have HR := Lib.hid (not_other h)
    clear h
    go_enter Try.func35, Try.ntmps35
    go_wp2
    go_ret
    exact ⟨retI HR.out.symm, rfl⟩

theorem And_any (a b : Int) (w : World) : Calls Try.prog 53 #[.int .i64 a, .int .i64 b] w fun e w' => e = .returned (.int .i64 (tAnd a b)) ∧ w = w' := by
  by_cases ha : a = 0
  · subst ha
    have HR := Lib.hid (and_zl b)
    go_enter Try.func53, Try.ntmps53
    go_wp2
    go_ret
    exact ⟨retI HR.out.symm, rfl⟩
  · have c1 : (a == 0) = false := by simp [ha]
    by_cases hb : b = 0
    · subst hb
      have HR := Lib.hid (and_zr a)
      clear ha
      go_enter Try.func53, Try.ntmps53
      go_wp2
      go_ret
      exact ⟨retI HR.out.symm, rfl⟩
    · have c2 : (b == 0) = false := by simp [hb]
      by_cases ha1 : a = 1
      · subst ha1
        clear ha c1
        by_cases hb1 : b = 1
        · subst hb1
          clear hb c2
          go_enter Try.func53, Try.ntmps53
          go_wp2
          go_ret
          exact ⟨rfl, rfl⟩
        · have c3 : (b == 1) = false := by simp [hb1]
          have HR := Lib.hid (and_or (a := 1) (by decide) ⟨hb, hb1⟩)
          clear hb hb1
          go_enter Try.func53, Try.ntmps53
          go_wp2
          go_ret
          exact ⟨retI HR.out.symm, rfl⟩
      · have c3 : (a == 1) = false := by simp [ha1]
        have HR := Lib.hid (and_ol ⟨ha, ha1⟩ hb)
        clear ha ha1 hb
        go_enter Try.func53, Try.ntmps53
        go_wp2
        go_ret
        exact ⟨retI HR.out.symm, rfl⟩
theorem refAnd_any (a b : Int) (w : World) : Calls Try.prog 21 #[.int .i64 a, .int .i64 b] w fun e w' => e = .returned (.int .i64 (tAnd a b)) ∧ w = w' := by
  by_cases ha : a = 0
  · subst ha
    have HR := Lib.hid (and_zl b)
    go_enter Try.func21, Try.ntmps21
    go_wp2
    go_ret
    exact ⟨retI HR.out.symm, rfl⟩
  · have c1 : (a == 0) = false := by simp [ha]
    by_cases hb : b = 0
    · subst hb
      have HR := Lib.hid (and_zr a)
      clear ha
      go_enter Try.func21, Try.ntmps21
      go_wp2
      go_ret
      exact ⟨retI HR.out.symm, rfl⟩
    · have c2 : (b == 0) = false := by simp [hb]
      by_cases ha1 : a = 1
      · subst ha1
        clear ha c1
        by_cases hb1 : b = 1
        · subst hb1
          clear hb c2
          go_enter Try.func21, Try.ntmps21
          go_wp2
          go_ret
          exact ⟨rfl, rfl⟩
        · have c3 : (b == 1) = false := by simp [hb1]
          have HR := Lib.hid (and_or (a := 1) (by decide) ⟨hb, hb1⟩)
          clear hb hb1
          go_enter Try.func21, Try.ntmps21
          go_wp2
          go_ret
          exact ⟨retI HR.out.symm, rfl⟩
      · have c3 : (a == 1) = false := by simp [ha1]
        have HR := Lib.hid (and_ol ⟨ha, ha1⟩ hb)
        clear ha ha1 hb
        go_enter Try.func21, Try.ntmps21
        go_wp2
        go_ret
        exact ⟨retI HR.out.symm, rfl⟩

theorem join_of {a b x y : Int} (h : tv a = x) (h2 : tv b = y) : tJoin a b = tJn x y := by unfold tJoin; rw [h, h2]
theorem below_of {a b x y : Int} (h : tv a = x) (h2 : tv b = y) : tBelow a b = tBl x y := by unfold tBelow; rw [h, h2]
end Go.Proofs.Ytoacedadfjoneaa.tri
