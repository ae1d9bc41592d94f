/- The walk of the statements' example, over any store. -/
import Derived.Test.YtfdihlicmmcjjaaAw
namespace Go.Proofs.Ytfdihlicmmcjjaa.aig
open Go.RowKit
open Go.Proofs.Ytfdihlicmmcjjaa.mem Go.Proofs.Ytfdihlicmmcjjaa.agf

theorem lv1 : andF [none, none] 4 2 = (6, [none, none, some (2, 4)]) := by decide
theorem lv2 : andF [none, none, some (2, 4)] 2 4 = (6, [none, none, some (2, 4)]) := by decide
theorem lv3 : andF [none, none, some (2, 4)] 2 3 = (0, [none, none, some (2, 4)]) := by decide
theorem lv4 : orF [none, none, some (2, 4)] 2 4 = (9, [none, none, some (2, 4), some (3, 5)]) := by decide
theorem in64 (z : Int) (h : -10 ≤ z ∧ z ≤ 10) : In64 z := by unfold In64; omega
set_option maxHeartbeats 1600000 in
theorem lives_any (J : Proj) (w : World) : Calls Try.prog 16 #[] w fun e w' => e = .returned (.bool true) ∧ Below w.heap.size w w' := by
  go_enter Try.func16, Try.ntmps16
  go_wp2_with fail
  go_at_call 17; refine (J.new w.heap.size w (Nat.le_refl _)).mono ?_; rintro e w1 ⟨g, s1, rfl, p1, -, b1⟩
  have HP1 := Lib.hid p1; have HB1 := Lib.hid b1; clear p1 b1
  go_wp2_with fail
  go_at_call 20; refine (J.input _ g s1 [] _ HP1.out (by simp)).mono ?_; rintro e w2 ⟨s2, he, p2, m2⟩
  obtain rfl : e = .returned (.int .i64 2) := he
  have HP2 : Hid (J.rep w.heap.size w2 g s2 [none]) := Lib.hid p2
  have HB2 := Lib.hid (HB1.out.trans (m2.below (fun k hk => (J.ge HP1.out k hk).1) HB1.out.size))
  clear p2 m2
  go_wp2_with fail
  go_at_call 20; refine (J.input _ g s2 [none] _ HP2.out (by simp)).mono ?_; rintro e w3 ⟨s3, he, p3, m3⟩
  obtain rfl : e = .returned (.int .i64 4) := he
  have HP3 : Hid (J.rep w.heap.size w3 g s3 [none, none]) := Lib.hid p3
  have HB3 := Lib.hid (HB2.out.trans (m3.below (fun k hk => (J.ge HP2.out k hk).1) HB2.out.size))
  clear p3 m3
  go_wp2_with fail
  go_at_call 30; refine (J.and_ _ g s3 [none, none] 4 2 _ HP3.out (by simp) (in64 _ (by omega)) (in64 _ (by omega))).mono ?_; rintro e w4 ⟨s4, he, p4, m4⟩
  rw [lv1] at he p4
  subst he
  have HP4 := Lib.hid p4
  have HB4 := Lib.hid (HB3.out.trans (m4.below (fun k hk => (J.ge HP3.out k hk).1) HB3.out.size))
  clear p4 m4
  go_wp2_with fail
  go_at_call 30; refine (J.and_ _ g s4 _ 2 4 _ HP4.out (by simp) (in64 _ (by omega)) (in64 _ (by omega))).mono ?_; rintro e w5 ⟨s5, he, p5, m5⟩
  rw [lv2] at he p5
  subst he
  have HP5 := Lib.hid p5
  have HB5 := Lib.hid (HB4.out.trans (m5.below (fun k hk => (J.ge HP4.out k hk).1) HB4.out.size))
  clear p5 m5
  go_wp2_with fail
  go_at_call 30; refine (J.and_ _ g s5 _ 2 3 _ HP5.out (by simp) (in64 _ (by omega)) (in64 _ (by omega))).mono ?_; rintro e w6 ⟨s6, he, p6, m6⟩
  rw [lv3] at he p6
  subst he
  have HP6 := Lib.hid p6
  have HB6 := Lib.hid (HB5.out.trans (m6.below (fun k hk => (J.ge HP5.out k hk).1) HB5.out.size))
  clear p6 m6
  go_wp2_with fail
  go_at_call 25; refine (J.or_ _ g s6 _ 2 4 _ HP6.out (by simp) (in64 _ (by omega)) (in64 _ (by omega))).mono ?_; rintro e w7 ⟨s7, he, p7, m7⟩
  rw [lv4] at he p7
  subst he
  have HP7 := Lib.hid p7
  have HB7 := Lib.hid (HB6.out.trans (m7.below (fun k hk => (J.ge HP6.out k hk).1) HB6.out.size))
  clear p7 m7
  go_wp2_with fail
  go_at_call 22; refine (J.len _ g s7 _ _ HP7.out).mono ?_; rintro e w8 ⟨he, rfl⟩
  obtain rfl : e = .returned (.int .i64 4) := he
  go_wp2_with fail
  go_ret
  exact ⟨rfl, HB7.out⟩
end Go.Proofs.Ytfdihlicmmcjjaa.aig
