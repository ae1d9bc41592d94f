/- The walks of the document's Lit, and of the statement on any literal's value. -/
import Derived.Test.YtoacedadfjoneaaTl0
namespace Go.Proofs.Ytoacedadfjoneaa.tri
open Go.RowKit
open Go.Proofs.Ytoacedadfjoneaa.fns Go.Proofs.Ytoacedadfjoneaa.ints

theorem refLit_any (a : Option Addr) (n cap : Nat) (ls : List Int) (x : Int) (w : World) (hv : Ints w (.slice a n cap) ls) :
    Calls Try.prog 22 #[.slice a n cap, .int .i64 x] w fun e w' => e = .returned (.int .i64 (tLit ls x)) ∧ w = w' := by
  obtain ⟨hlen, hcap, hmax⟩ := ints_len_of hv
  unfold maxLen at hmax
  cases hg : goodB x with
  | false =>
    have HR := Lib.hid (tLit_pos (l := ls) (var_no hg) (neg_no hg) (known_out (by decide) (by omega)))
    have HG := Lib.hid hg
    clear hg hv
    go_enter Try.func22, Try.ntmps22
    go_wp2_with fail
    go_at_call 33; refine (lits.refGood_no HG.out _).mono ?_; rintro e w' ⟨rfl, rfl⟩
    go_wp2_with fail
    go_at_call 33; refine (lits.refGood_no HG.out _).mono ?_; rintro e w' ⟨rfl, rfl⟩
    go_wp2_with fail
    go_at_call 33; refine (lits.refGood_no HG.out _).mono ?_; rintro e w' ⟨rfl, rfl⟩
    go_wp2_with fail
    go_ret
    exact ⟨ints.retI HR.out.symm, rfl⟩
  | true =>
    have HG := Lib.hid hg
    obtain ⟨h0, h1⟩ := good_iff.1 hg
    have hvar := var_yes hg
    have q0 : 0 ≤ x / 2 := by omega
    have q1 : x / 2 ≤ 16777216 := by omega
    have hpar : (litNeg x = true ∧ (x % 2 == 1) = true) ∨ (litNeg x = false ∧ (x % 2 == 1) = false) := by
      by_cases h2 : x % 2 = 1
      · exact .inl ⟨neg_odd hg h2, by simp [h2]⟩
      · exact .inr ⟨neg_even hg (by omega), by simp [h2]⟩
    clear hg
    by_cases hz : x / 2 = 0
    · have c1 : (x / 2 == 0) = true := by simp [hz]
      have c2 : decide (0 < x / 2) = false := by simp [hz]
      have hk : tKnown ls (x / 2) = 0 := by rw [hz]; exact known_zero ls
      rcases hpar with ⟨hn, c3⟩ | ⟨hn, c3⟩
      · have HR := Lib.hid (tLit_neg hvar hn hk)
        clear hvar hn hk hz hv q0
        go_enter Try.func22, Try.ntmps22
        go_wp2_with fail
        go_at_call 33; refine (lits.refGood_yes HG.out _).mono ?_; rintro e w' ⟨rfl, rfl⟩
        go_wp2_with fail
        go_at_call 33; refine (lits.refGood_yes HG.out _).mono ?_; rintro e w' ⟨rfl, rfl⟩
        go_wp2_with fail
        go_at_call 33; refine (lits.refGood_yes HG.out _).mono ?_; rintro e w' ⟨rfl, rfl⟩
        go_wp2_with fail
        go_at_call 35; refine (refNot_any _ _).mono ?_; rintro e w' ⟨rfl, rfl⟩
        go_wp2_with fail
        go_ret
        exact ⟨ints.retI HR.out.symm, rfl⟩
      · have HR := Lib.hid (tLit_pos hvar hn hk)
        clear hvar hn hk hz hv q0
        go_enter Try.func22, Try.ntmps22
        go_wp2_with fail
        go_at_call 33; refine (lits.refGood_yes HG.out _).mono ?_; rintro e w' ⟨rfl, rfl⟩
        go_wp2_with fail
        go_at_call 33; refine (lits.refGood_yes HG.out _).mono ?_; rintro e w' ⟨rfl, rfl⟩
        go_wp2_with fail
        go_at_call 33; refine (lits.refGood_yes HG.out _).mono ?_; rintro e w' ⟨rfl, rfl⟩
        go_wp2_with fail
        go_ret
        exact ⟨ints.retI HR.out.symm, rfl⟩
    · have c1 : (x / 2 == 0) = false := by simp [hz]
      have hp : 0 < x / 2 := by omega
      by_cases hin : x / 2 < n
      · obtain ⟨g, off, rfl, hg, hc⟩ := ints_cell hv (k := (x / 2).toNat) (by omega)
        obtain ⟨y, hy⟩ : ∃ y, y = ls.getD (x / 2).toNat 0 := ⟨_, rfl⟩
        rw [← hy] at hc
        have hk : tKnown ls (x / 2) = tv y := known_in hp (by omega) (by rw [hy])
        rcases hpar with ⟨hn, c3⟩ | ⟨hn, c3⟩
        · have HR := Lib.hid (tLit_neg hvar hn hk)
          clear hvar hn hk hz hv hy hlen
          go_enter Try.func22, Try.ntmps22
          go_wp2_with fail
          go_at_call 33; refine (lits.refGood_yes HG.out _).mono ?_; rintro e w' ⟨rfl, rfl⟩
          go_wp2_with fail
          go_at_call 33; refine (lits.refGood_yes HG.out _).mono ?_; rintro e w' ⟨rfl, rfl⟩
          go_wp2_with fail
          go_at_call 34; refine (refvalue_any _ _).mono ?_; rintro e w' ⟨rfl, rfl⟩
          go_wp2_with fail
          go_at_call 33; refine (lits.refGood_yes HG.out _).mono ?_; rintro e w' ⟨rfl, rfl⟩
          go_wp2_with fail
          go_at_call 35; refine (refNot_any _ _).mono ?_; rintro e w' ⟨rfl, rfl⟩
          go_wp2_with fail
          go_ret
          exact ⟨ints.retI HR.out.symm, rfl⟩
        · have HR := Lib.hid (tLit_pos hvar hn hk)
          clear hvar hn hk hz hv hy hlen
          go_enter Try.func22, Try.ntmps22
          go_wp2_with fail
          go_at_call 33; refine (lits.refGood_yes HG.out _).mono ?_; rintro e w' ⟨rfl, rfl⟩
          go_wp2_with fail
          go_at_call 33; refine (lits.refGood_yes HG.out _).mono ?_; rintro e w' ⟨rfl, rfl⟩
          go_wp2_with fail
          go_at_call 34; refine (refvalue_any _ _).mono ?_; rintro e w' ⟨rfl, rfl⟩
          go_wp2_with fail
          go_at_call 33; refine (lits.refGood_yes HG.out _).mono ?_; rintro e w' ⟨rfl, rfl⟩
          go_wp2_with fail
          go_ret
          exact ⟨ints.retI HR.out.symm, rfl⟩
      · have hk : tKnown ls (x / 2) = 2 := known_out hz (by omega)
        have c2 : decide (x / 2 < (n : Int)) = false := by simp; omega
        rcases hpar with ⟨hn, c3⟩ | ⟨hn, c3⟩
        · have HR := Lib.hid (tLit_neg hvar hn hk)
          clear hvar hn hk hz hv hlen hin
          go_enter Try.func22, Try.ntmps22
          go_wp2_with fail
          go_at_call 33; refine (lits.refGood_yes HG.out _).mono ?_; rintro e w' ⟨rfl, rfl⟩
          go_wp2_with fail
          go_at_call 33; refine (lits.refGood_yes HG.out _).mono ?_; rintro e w' ⟨rfl, rfl⟩
          go_wp2_with fail
          go_at_call 33; refine (lits.refGood_yes HG.out _).mono ?_; rintro e w' ⟨rfl, rfl⟩
          go_wp2_with fail
          go_at_call 35; refine (refNot_any _ _).mono ?_; rintro e w' ⟨rfl, rfl⟩
          go_wp2_with fail
          go_ret
          exact ⟨ints.retI HR.out.symm, rfl⟩
        · have HR := Lib.hid (tLit_pos hvar hn hk)
          clear hvar hn hk hz hv hlen hin
          go_enter Try.func22, Try.ntmps22
          go_wp2_with fail
          go_at_call 33; refine (lits.refGood_yes HG.out _).mono ?_; rintro e w' ⟨rfl, rfl⟩
          go_wp2_with fail
          go_at_call 33; refine (lits.refGood_yes HG.out _).mono ?_; rintro e w' ⟨rfl, rfl⟩
          go_wp2_with fail
          go_at_call 33; refine (lits.refGood_yes HG.out _).mono ?_; rintro e w' ⟨rfl, rfl⟩
          go_wp2_with fail
          go_ret
          exact ⟨ints.retI HR.out.symm, rfl⟩

end Go.Proofs.Ytoacedadfjoneaa.tri
