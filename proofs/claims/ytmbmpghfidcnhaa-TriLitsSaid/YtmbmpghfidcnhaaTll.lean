/- The walks of the document's Lit, and of the statement on any literal's value. -/
import Derived.Test.YtmbmpghfidcnhaaTl0
namespace Go.Proofs.Ytmbmpghfidcnhaa.tri
open Go.RowKit
open Go.Proofs.Ytmbmpghfidcnhaa.fns Go.Proofs.Ytmbmpghfidcnhaa.ints

theorem refLit_any (a : Option Addr) (n cap : Nat) (ls : List Int) (x : Int) (w : World) (hv : Ints w (.slice a n cap) ls) :
    Calls Try.prog 17 #[.slice a n cap, .int .i64 x] w fun e w' => e = .returned (.int .i64 (tLit ls x)) ∧ w = w' := by
  obtain ⟨hlen, hcap, hmax⟩ := ints_len_of hv
  unfold maxLen at hmax
  cases hg : goodB x with
  | false =>
    have HR := Lib.hid (tLit_pos (l := ls) (var_no hg) (neg_no hg) (known_out (by decide) (by omega)))
    have HG := Lib.hid hg
    clear hg hv
    go_enter Try.func17, Try.ntmps17
    go_wp2_with fail
    go_at_call 27; refine (lits.refGood_no HG.out _).mono ?_; rintro e w' ⟨rfl, rfl⟩
    go_wp2_with fail
    go_at_call 27; refine (lits.refGood_no HG.out _).mono ?_; rintro e w' ⟨rfl, rfl⟩
    go_wp2_with fail
    go_at_call 27; refine (lits.refGood_no HG.out _).mono ?_; rintro e w' ⟨rfl, rfl⟩
    go_wp2_with fail
    go_ret
    exact ⟨ints.retI HR.out.symm, rfl⟩
  | true =>
    have HG := Lib.hid hg
    obtain ⟨h0, h1⟩ := good_iff.1 hg
    have hvar := var_yes hg
    have q0 : 0 ≤ x / 2 := by omega
    have q1 : x / 2 ≤ 16777216 := by omega
    have hpar : (litNeg x = true ∧ (x % 2 == 1) = true) ∨ (litNeg x = false ∧ (x % 2 == 1) = false) := by
      by_cases h2 : x % 2 = 1
      · exact .inl ⟨neg_odd hg h2, by simp [h2]⟩
      · exact .inr ⟨neg_even hg (by omega), by simp [h2]⟩
    clear hg
    by_cases hz : x / 2 = 0
    · have c1 : (x / 2 == 0) = true := by simp [hz]
      have c2 : decide (0 < x / 2) = false := by simp [hz]
      have hk : tKnown ls (x / 2) = 0 := by rw [hz]; exact known_zero ls
      rcases hpar with ⟨hn, c3⟩ | ⟨hn, c3⟩
      · have HR := Lib.hid (tLit_neg hvar hn hk)
        clear hvar hn hk hz hv q0
        go_enter Try.func17, Try.ntmps17
        go_wp2_with fail
        go_at_call 27; refine (lits.refGood_yes HG.out _).mono ?_; rintro e w' ⟨rfl, rfl⟩
        go_wp2_with fail
        go_at_call 27; refine (lits.refGood_yes HG.out _).mono ?_; rintro e w' ⟨rfl, rfl⟩
        go_wp2_with fail
        go_at_call 27; refine (lits.refGood_yes HG.out _).mono ?_; rintro e w' ⟨rfl, rfl⟩
        go_wp2_with fail
        go_at_call 12; refine (refNot_any _ _).mono ?_; rintro e w' ⟨rfl, rfl⟩
        go_wp2_with fail
        go_ret
        exact ⟨ints.retI HR.out.symm, rfl⟩
      · have HR := Lib.hid (tLit_pos hvar hn hk)
        clear hvar hn hk hz hv q0
        go_enter Try.func17, Try.ntmps17
        go_wp2_with fail
        go_at_call 27; refine (lits.refGood_yes HG.out _).mono ?_; rintro e w' ⟨rfl, rfl⟩
        go_wp2_with fail
        go_at_call 27; refine (lits.refGood_yes HG.out _).mono ?_; rintro e w' ⟨rfl, rfl⟩
        go_wp2_with fail
        go_at_call 27; refine (lits.refGood_yes HG.out _).mono ?_; rintro e w' ⟨rfl, rfl⟩
        go_wp2_with fail
        go_ret
        exact ⟨ints.retI HR.out.symm, rfl⟩
    · have c1 : (x / 2 == 0) = false := by simp [hz]
      have hp : 0 < x / 2 := by omega
      by_cases hin : x / 2 < n
      · obtain ⟨g, off, rfl, hg, hc⟩ := ints_cell hv (k := (x / 2).toNat) (by omega)
        obtain ⟨y, hy⟩ : ∃ y, y = ls.getD (x / 2).toNat 0 := ⟨_, rfl⟩
        rw [← hy] at hc
        have hk : tKnown ls (x / 2) = tv y := known_in hp (by omega) (by rw [hy])
        rcases hpar with ⟨hn, c3⟩ | ⟨hn, c3⟩
        · have HR := Lib.hid (tLit_neg hvar hn hk)
          clear hvar hn hk hz hv hy hlen
          go_enter Try.func17, Try.ntmps17
          go_wp2_with fail
          go_at_call 27; refine (lits.refGood_yes HG.out _).mono ?_; rintro e w' ⟨rfl, rfl⟩
          go_wp2_with fail
          go_at_call 27; refine (lits.refGood_yes HG.out _).mono ?_; rintro e w' ⟨rfl, rfl⟩
          go_wp2_with fail
          go_at_call 24; refine (refvalue_any _ _).mono ?_; rintro e w' ⟨rfl, rfl⟩
          go_wp2_with fail
          go_at_call 27; refine (lits.refGood_yes HG.out _).mono ?_; rintro e w' ⟨rfl, rfl⟩
          go_wp2_with fail
          go_at_call 12; refine (refNot_any _ _).mono ?_; rintro e w' ⟨rfl, rfl⟩
          go_wp2_with fail
          go_ret
          exact ⟨ints.retI HR.out.symm, rfl⟩
        · have HR := Lib.hid (tLit_pos hvar hn hk)
          clear hvar hn hk hz hv hy hlen
          go_enter Try.func17, Try.ntmps17
          go_wp2_with fail
          go_at_call 27; refine (lits.refGood_yes HG.out _).mono ?_; rintro e w' ⟨rfl, rfl⟩
          go_wp2_with fail
          go_at_call 27; refine (lits.refGood_yes HG.out _).mono ?_; rintro e w' ⟨rfl, rfl⟩
          go_wp2_with fail
          go_at_call 24; refine (refvalue_any _ _).mono ?_; rintro e w' ⟨rfl, rfl⟩
          go_wp2_with fail
          go_at_call 27; refine (lits.refGood_yes HG.out _).mono ?_; rintro e w' ⟨rfl, rfl⟩
          go_wp2_with fail
          go_ret
          exact ⟨ints.retI HR.out.symm, rfl⟩
      · have hk : tKnown ls (x / 2) = 2 := known_out hz (by omega)
        have c2 : decide (x / 2 < (n : Int)) = false := by simp; omega
        rcases hpar with ⟨hn, c3⟩ | ⟨hn, c3⟩
        · have HR := Lib.hid (tLit_neg hvar hn hk)
          clear hvar hn hk hz hv hlen hin
          go_enter Try.func17, Try.ntmps17
          go_wp2_with fail
          go_at_call 27; refine (lits.refGood_yes HG.out _).mono ?_; rintro e w' ⟨rfl, rfl⟩
          go_wp2_with fail
          go_at_call 27; refine (lits.refGood_yes HG.out _).mono ?_; rintro e w' ⟨rfl, rfl⟩
          go_wp2_with fail
          go_at_call 27; refine (lits.refGood_yes HG.out _).mono ?_; rintro e w' ⟨rfl, rfl⟩
          go_wp2_with fail
          go_at_call 12; refine (refNot_any _ _).mono ?_; rintro e w' ⟨rfl, rfl⟩
          go_wp2_with fail
          go_ret
          exact ⟨ints.retI HR.out.symm, rfl⟩
        · have HR := Lib.hid (tLit_pos hvar hn hk)
          clear hvar hn hk hz hv hlen hin
          go_enter Try.func17, Try.ntmps17
          go_wp2_with fail
          go_at_call 27; refine (lits.refGood_yes HG.out _).mono ?_; rintro e w' ⟨rfl, rfl⟩
          go_wp2_with fail
          go_at_call 27; refine (lits.refGood_yes HG.out _).mono ?_; rintro e w' ⟨rfl, rfl⟩
          go_wp2_with fail
          go_at_call 27; refine (lits.refGood_yes HG.out _).mono ?_; rintro e w' ⟨rfl, rfl⟩
          go_wp2_with fail
          go_ret
          exact ⟨ints.retI HR.out.symm, rfl⟩

set_option maxHeartbeats 800000 in
theorem lits_small (a : Option Addr) (n cap : Nat) (ls : List Int) (x : Int) (w : World) (hv : Ints w (.slice a n cap) ls) (hnil : a = none → n = 0 ∧ cap = 0) (hn : n ≤ 500) :
    Calls Try.prog 4 #[.slice a n cap, .int .i64 x] w fun e w' => e = .returned (.bool true) ∧ Below w.heap.size w w' := by
  obtain ⟨hlen, hcap, hmax⟩ := ints_len_of hv
  unfold maxLen at hmax
  have HV := Lib.hid hv
  have HNIL := Lib.hid hnil
  have HL := Lib.hid hlen
  have c1 : decide ((500 : Int) < (n : Int)) = false := by simp; omega
  clear hv hnil hlen
  go_enter Try.func4, Try.ntmps4
  go_wp2_with (at_builtin; refine wpList_clone w rfl (.tmp 10) (.tmp 11) rfl rfl a n cap ls rfl HV.out HNIL.out (by omega) ?_)
  intro v1 w1 hi1 hb1
  obtain ⟨a1, cap1, hv1⟩ : ∃ a1 cap1, v1 = .slice a1 n cap1 := by
    obtain ⟨a1, cap1, e, -⟩ := hi1
    exact ⟨a1, cap1, by rw [e, HL.out]⟩
  subst hv1
  have HI := Lib.hid hi1
  have HB := Lib.hid hb1
  have HV1 := Lib.hid (HV.out.on hb1)
  clear hi1 hb1
  go_wp2_with fail
  go_at_call 16; refine (Lit_any _ _ _ ls _ _ HI.out).mono ?_; rintro e w' ⟨rfl, rfl⟩
  go_wp2_with fail
  go_at_call 17; refine (refLit_any _ _ _ ls _ _ HV1.out).mono ?_; rintro e w' ⟨rfl, rfl⟩
  go_wp2_with fail
  go_at_call 15; refine (lives_any _).mono ?_; rintro e w' ⟨rfl, rfl⟩
  go_wp2_with fail
  go_ret
  exact ⟨rfl, HB.out⟩

set_option maxHeartbeats 800000 in
theorem lits_big (ad : Addr) (n cap : Nat) (l0 : List Int) (x : Int) (w : World) (hv0 : Ints w (.slice (some ad) n cap) l0) (hn : 500 < n) :
    Calls Try.prog 4 #[.slice (some ad) n cap, .int .i64 x] w fun e w' => e = .returned (.bool true) ∧ Below w.heap.size w w' := by
  obtain ⟨-, hcap, hmax⟩ := ints_len_of hv0
  unfold maxLen at hmax
  obtain ⟨ls, hls⟩ : ∃ ls : List Int, ls = l0.take 500 := ⟨_, rfl⟩
  have hv := ints_take hv0 (k := 500) (by omega)
  rw [← hls] at hv
  have HL := Lib.hid (ints_len_of hv).1
  have HV := Lib.hid hv
  have HNIL : Hid (some ad = none → 500 = 0 ∧ cap = 0) := Lib.hid (fun h => by cases h)
  clear hv hv0 hls
  go_enter Try.func4, Try.ntmps4
  go_wp2_with (at_builtin; refine wpList_clone w rfl (.tmp 10) (.tmp 11) rfl rfl (some ad) 500 cap ls rfl HV.out HNIL.out (by omega) ?_)
  intro v1 w1 hi1 hb1
  obtain ⟨a1, cap1, hv1⟩ : ∃ a1 cap1, v1 = .slice a1 500 cap1 := by
    obtain ⟨a1, cap1, e, -⟩ := hi1
    exact ⟨a1, cap1, by rw [e, HL.out]⟩
  subst hv1
  have HI := Lib.hid hi1
  have HB := Lib.hid hb1
  have HV1 := Lib.hid (HV.out.on hb1)
  clear hi1 hb1
  go_wp2_with fail
  go_at_call 16; refine (Lit_any _ _ _ ls _ _ HI.out).mono ?_; rintro e w' ⟨rfl, rfl⟩
  go_wp2_with fail
  go_at_call 17; refine (refLit_any _ _ _ ls _ _ HV1.out).mono ?_; rintro e w' ⟨rfl, rfl⟩
  go_wp2_with fail
  go_at_call 15; refine (lives_any _).mono ?_; rintro e w' ⟨rfl, rfl⟩
  go_wp2_with fail
  go_ret
  exact ⟨rfl, HB.out⟩

theorem lits_walk (a : Option Addr) (n cap : Nat) (ls : List Int) (x : Int) (w : World) (hv : Ints w (.slice a n cap) ls) (hnil : a = none → n = 0 ∧ cap = 0) :
    Calls Try.prog 4 #[.slice a n cap, .int .i64 x] w fun e w' => e = .returned (.bool true) ∧ Below w.heap.size w w' := by
  by_cases h : 500 < n
  · cases a with
    | none => obtain ⟨rfl, -⟩ := hnil rfl; omega
    | some ad => exact lits_big ad n cap ls x w hv h
  · exact lits_small a n cap ls x w hv hnil (by omega)
end Go.Proofs.Ytmbmpghfidcnhaa.tri
