/- The walks of the project's values that may be open: isInput, word. -/
import Derived.Test.YtoacedadfjoneaaFx
import Derived.Test.YtoacedadfjoneaaEs
import Derived.Test.YtoacedadfjoneaaTw2
import Derived.StillTailTactics
namespace Go.Proofs.Ytoacedadfjoneaa.aig
open Go.RowKit
open Go.Proofs.Ytoacedadfjoneaa.mem Go.Proofs.Ytoacedadfjoneaa.agf Go.Proofs.Ytoacedadfjoneaa.fns
open Go.Proofs.Ytoacedadfjoneaa.ints (Ints ints_of_owned below_drewN)
open Go.Proofs.Ytoacedadfjoneaa.tri (tLit)

theorem ternIn_of {a : Int} (b : Int) {r : Bool} (h : decide (a < 0) = r) (w : World) : Calls Try.prog 24 #[.agg #[.int .i64 a, .int .i64 b]] w fun e w' => e = .returned (.bool r) ∧ Below w.heap.size w w' := by
  have HB : Hid (Below w.heap.size w (w.alloc (.cells #[.int .i64 a, .int .i64 b] 40))) := Lib.hid ((Below.refl _ _).alloc (Nat.le_refl _) _)
  go_enter Try.func24, Try.ntmps24
  go_wp2_with fail
  go_ret
  exact ⟨rfl, HB.out⟩
/-- a literal's word -/
theorem word_any {v : Value} {ws : List (Int × Int)} {a : Nat} {p : Int × Int} (hp : wLit ws a = p) (w : World) (hv : Wds w v ws) (ha : a / 2 < ws.length) (hs : a ≤ 33554433) :
    Calls Try.prog 26 #[v, .int .i64 (a : Int)] w fun e w' => e = .returned (.agg #[.int .u64 p.1, .int .u64 p.2]) ∧ Below w.heap.size w w' := by
  obtain ⟨va, cap, rfl, l1, l2⟩ := hv.form
  unfold maxLen at l2
  have hg := good_yes (l := (a : Int)) (by omega) (by omega)
  obtain ⟨b, off, rfl, hlt, e1, e2⟩ := hv.at_ ha
  have HV := Lib.hid (tri.Var_of (var_nat hs))
  obtain ⟨m, hm⟩ : ∃ m, m = ws.length := ⟨_, rfl⟩
  rw [← hm] at l1 ha ⊢
  have HN : Hid (litNeg (a : Int) = decide (a % 2 = 1)) := Lib.hid (by
    by_cases o : a % 2 = 1
    · rw [neg_odd hg (by omega), decide_eq_true o]
    · rw [neg_even hg (by omega), decide_eq_false o])
  have HP := Lib.hid hp
  obtain ⟨k, hk⟩ : ∃ k, k = a / 2 := ⟨_, rfl⟩
  rw [← hk] at HV e1 e2 ha
  have HK := Lib.hid hk
  obtain ⟨q, hq⟩ : ∃ q, q = ws.getD k (0, 0) := ⟨_, rfl⟩
  rw [← hq] at e1 e2
  have HQ := Lib.hid hq
  have d1 : (k : Int) < (m : Int) := by omega
  have d2 : 0 ≤ (k : Int) := by omega
  clear hv hg hm hp hk hq
  by_cases o : a % 2 = 1
  · have HNO := Lib.hid (tri.Neg_of (HN.out.trans (decide_eq_true o)))
    have HE : Hid (wNot q = p) := Lib.hid (by rw [← HP.out]; unfold wLit; rw [if_pos o, ← HK.out, HQ.out])
    clear o
    go_enter Try.func26, Try.ntmps26
    go_wp2_with fail
    go_at_call 39; refine (HV.out _).mono ?_; rintro e w1 ⟨rfl, rfl⟩
    go_wp2_with fail
    go_at_call 40; refine (HNO.out _).mono ?_; rintro e w1 ⟨rfl, rfl⟩
    go_wp2_with fail
    go_at_call 41; refine (tri.NotWord_any q.1 q.2 _).mono ?_; rintro e w1 ⟨rfl, hb⟩
    obtain ⟨x0, x1, f0, f1⟩ := ((tri.two_alloc (tri.two_new w (.int .u64 0) (.int .u64 0) 33) (.cells #[.int .u64 q.1, .int .u64 q.2] 33)).on hb (Nat.le_refl _)).cells
    have HB : Hid (Below w.heap.size w w1) := Lib.hid ((Joins.below_alloc2 w _ _).trans (hb.mono (by simp; omega)))
    have HE1 : Hid (cO q.2 q.1 = p.1 ∧ cO q.1 q.2 = p.2) := Lib.hid (by rw [← HE.out]; exact ⟨rfl, rfl⟩)
    clear hb
    go_wp2_with fail
    refine bodyPost_ret (v := .agg #[.int .u64 p.1, .int .u64 p.2]) (by simp [results, Try.results26, go_sem, x0, x1, HE1.out.1, HE1.out.2]) rfl ⟨rfl, ?_⟩
    repeat (first | exact HB.out | refine Below.setCell ?_ (by simp) _)
  · have HNO := Lib.hid (tri.Neg_of (HN.out.trans (decide_eq_false o)))
    have HE : Hid (q = p) := Lib.hid (by rw [← HP.out]; unfold wLit; rw [if_neg o, ← HK.out, HQ.out])
    clear o
    go_enter Try.func26, Try.ntmps26
    go_wp2_with fail
    go_at_call 39; refine (HV.out _).mono ?_; rintro e w1 ⟨rfl, rfl⟩
    go_wp2_with fail
    go_at_call 40; refine (HNO.out _).mono ?_; rintro e w1 ⟨rfl, rfl⟩
    go_wp2_with fail
    refine bodyPost_ret (v := .agg #[.int .u64 p.1, .int .u64 p.2]) (by simp [results, Try.results26, go_sem, HE.out]) rfl ⟨rfl, ?_⟩
    repeat (first | exact Below.refl _ _ | refine Below.setCell ?_ (by simp) _ | refine Below.alloc ?_ (by simp) _)
end Go.Proofs.Ytoacedadfjoneaa.aig
