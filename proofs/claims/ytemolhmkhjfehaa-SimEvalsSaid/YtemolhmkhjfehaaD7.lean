/- The walks of the project's simulation: Lit and Word. -/
import Derived.Test.YtemolhmkhjfehaaD3
import Derived.Test.YtemolhmkhjfehaaEs
import Derived.Test.YtemolhmkhjfehaaFw
namespace Go.Proofs.Ytemolhmkhjfehaa.aig
open Go.RowKit
open Go.Proofs.Ytemolhmkhjfehaa.mem Go.Proofs.Ytemolhmkhjfehaa.agf
open Go.Proofs.Ytemolhmkhjfehaa.fns (goodB litVar litNeg good_yes good_no good_iff var_yes var_no neg_no neg_odd neg_even)
open Go.Proofs.Ytemolhmkhjfehaa.nats (Rd U rd_len rd_cell rd_form Rd.on rd_of_owned)

theorem Var_is {l v : Int} (h : litVar l = v) (w : World) : Calls Try.prog 22 #[.int .i64 l] w fun e w' => e = .returned (.int .i64 v) ∧ w = w' := by
  have := lits.Var_any l w; rw [h] at this; exact this
theorem Neg_is {l : Int} {b : Bool} (h : litNeg l = b) (w : World) : Calls Try.prog 23 #[.int .i64 l] w fun e w' => e = .returned (.bool b) ∧ w = w' := by
  have := lits.Neg_any l w; rw [h] at this; exact this
theorem Neg_q {l : Int} {b : Bool} (h : litNeg l = b) (w : World) : Calls Try.prog 23 #[.int .i64 l] w fun e w' => e = .returned (.bool b) ∧ w' = w := (Neg_is h w).mono fun _ _ h => ⟨h.1, h.2.symm⟩
set_option maxHeartbeats 1600000 in
theorem sLit_any (v : Value) (bs : List Bool) (l : Int) (w : World) (hv : KB w v bs) (hn : bs.length ≤ 1001) :
    Calls Try.prog 11 #[v, .int .i64 l] w fun e w' => e = .returned (.bool (litB bs l)) ∧ Below w.heap.size w w' := by
  have HV := Lib.hid hv
  have HB := Lib.hid (Below.refl w.heap.size w)
  obtain ⟨a, cap, rfl, l1, l2⟩ := hv.form9
  unfold maxLen at l2
  obtain ⟨m, hm⟩ : ∃ m, m = bs.length := ⟨_, rfl⟩
  rw [← hm] at l1 hn HV ⊢
  have HM := Lib.hid hm
  clear hv hm
  cases hg : goodB l with
  | false =>
    have hb : ¬ (0 ≤ l ∧ l ≤ 33554433) := fun e => by rw [good_yes e.1 e.2] at hg; cases hg
    have HR := Lib.hid (lit_out (vals := bs) (l := l) (by omega) (by omega) (by rw [← HM.out]; omega))
    have HX := Lib.hid (var_no hg)
    clear hg hb
    go_enter Try.func11, Try.ntmps11
    go_wp2_with fail
    go_at_call 22; refine (Var_is HX.out _).mono ?_; rintro e w' ⟨rfl, rfl⟩
    go_wp2_with fail
    go_ret
    exact ⟨mem.retB HR.out.symm, HB.out⟩
  | true =>
    obtain ⟨h0, h1⟩ := good_iff.1 hg
    obtain ⟨q, rfl⟩ := Int.eq_ofNat_of_zero_le h0
    have HX := Lib.hid ((var_yes hg).trans (show (q : Int) / 2 = ((q / 2 : Nat) : Int) by omega))
    by_cases hz : q / 2 = 0
    · rw [hz] at HX
      obtain ⟨y, hy⟩ : ∃ y, y = litNeg (q : Int) := ⟨_, rfl⟩
      have HN := Lib.hid hy.symm
      have HR : Hid (litB bs (q : Int) = y) := Lib.hid (by
        rcases (show q = 0 ∨ q = 1 by omega) with e | e
        · subst e; rw [hy, neg_even hg (by decide)]; exact lit_0 bs
        · subst e; rw [hy, neg_odd hg (by decide)]; exact lit_1 bs)
      clear hg h0 h1 hz hy
      go_enter Try.func11, Try.ntmps11
      go_wp2_with fail
      go_at_call 22; refine (Var_is HX.out _).mono ?_; rintro e w' ⟨rfl, rfl⟩
      go_wp2_with fail
      go_at_call 23; refine (Neg_is HN.out _).mono ?_; rintro e w' ⟨rfl, rfl⟩
      go_wp2_with fail
      go_ret
      exact ⟨mem.retB HR.out.symm, HB.out⟩
    · obtain ⟨u, hu⟩ : ∃ u, u = q / 2 := ⟨_, rfl⟩
      rw [← hu] at HX hz
      by_cases hl : m ≤ u
      · have HR := Lib.hid (lit_out (vals := bs) (l := (q : Int)) (by omega) (by omega) (.inr (by rw [← HM.out]; omega)))
        have c1 : ((u : Int) == 0) = false := by simp; omega
        have c2 : decide ((u : Int) < 0) = false := by simp
        have c3 : decide ((m : Int) ≤ (u : Int)) = true := by simp; omega
        have c4 : decide (m ≤ u) = true := by simp; omega
        clear hg h0 h1 hz hu hl
        go_enter Try.func11, Try.ntmps11
        go_wp2_with fail
        go_at_call 22; refine (Var_is HX.out _).mono ?_; rintro e w' ⟨rfl, rfl⟩
        go_wp2_with fail
        go_ret
        exact ⟨mem.retB HR.out.symm, HB.out⟩
      · obtain ⟨b, off, rfl, -, e1⟩ := HV.out.at_ (show u < m by omega)
        have hr := lit_in (vals := bs) (l := (q : Int)) (by omega) (by omega) (by rw [← HM.out]; omega)
        rw [show ((q : Int) / 2).toNat = u by omega] at hr
        obtain ⟨x, hx⟩ : ∃ x, x = bs.getD u false := ⟨_, rfl⟩
        rw [← hx] at e1 hr
        obtain ⟨y, hy⟩ : ∃ y, y = litNeg (q : Int) := ⟨_, rfl⟩
        have HN := Lib.hid hy.symm
        have HR : Hid (litB bs (q : Int) = (x != y)) := Lib.hid (by
          rw [hr, hy]
          by_cases h2 : (q : Int) % 2 = 1
          · rw [neg_odd hg h2, decide_eq_true h2]
          · rw [neg_even hg (by omega), decide_eq_false h2])
        have c1 : ((u : Int) == 0) = false := by simp; omega
        have c2 : decide ((u : Int) < 0) = false := by simp
        have c3 : decide ((m : Int) ≤ (u : Int)) = false := by simp; omega
        have c4 : decide (m ≤ u) = false := by simp; omega
        have d1 : (u : Int) < (m : Int) := by omega
        have d2 : 0 ≤ (u : Int) := by omega
        clear hg h0 h1 hz hu hl hr hx hy
        go_enter Try.func11, Try.ntmps11
        go_wp2_with fail
        go_at_call 22; refine (Var_is HX.out _).mono ?_; rintro e w' ⟨rfl, rfl⟩
        go_wp2_with fail
        go_quiet ((first | (go_at_call 23; exact Calls.quiet_of_same (Neg_q HN.out _)) | fail))
        go_wp2_with fail
        go_ret
        exact ⟨mem.retB HR.out.symm, below_drewN HB.out _⟩
end Go.Proofs.Ytemolhmkhjfehaa.aig
