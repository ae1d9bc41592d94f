/- The walks of the statement on any literal's value. -/
import Derived.Test.YtoacedadfjoneaaTv
import Derived.Test.YtoacedadfjoneaaV
import Derived.Test.YtoacedadfjoneaaIb
namespace Go.Proofs.Ytoacedadfjoneaa.tri
open Go.RowKit
open Go.Proofs.Ytoacedadfjoneaa.fns Go.Proofs.Ytoacedadfjoneaa.ints

/-- a variable's value, by values of variables -/
def tKnown (l : List Int) (v : Int) : Int := if v = 0 then 0 else if 0 < v ∧ v < l.length then tv (l.getD v.toNat 0) else 2
def tLit (l : List Int) (x : Int) : Int := if litNeg x then tNot (tKnown l (litVar x)) else tKnown l (litVar x)
theorem tLit_neg {l : List Int} {x v y : Int} (h : litVar x = v) (hn : litNeg x = true) (hk : tKnown l v = y) : tLit l x = tNot y := by
  unfold tLit; rw [if_pos hn, h, hk]
theorem tLit_pos {l : List Int} {x v y : Int} (h : litVar x = v) (hn : litNeg x = false) (hk : tKnown l v = y) : tLit l x = y := by
  unfold tLit; rw [if_neg (by simp [hn]), h, hk]
theorem known_zero (l : List Int) : tKnown l 0 = 0 := by unfold tKnown; rw [if_pos rfl]
theorem known_in {l : List Int} {v y : Int} (h0 : 0 < v) (h1 : v < l.length) (hy : tv (l.getD v.toNat 0) = y) : tKnown l v = y := by
  unfold tKnown; rw [if_neg (by omega), if_pos ⟨h0, h1⟩, hy]
theorem known_out {l : List Int} {v : Int} (h0 : v ≠ 0) (h1 : ¬ (0 < v ∧ v < l.length)) : tKnown l v = 2 := by
  unfold tKnown; rw [if_neg h0, if_neg h1]

theorem Var_of {x v : Int} (h : litVar x = v) (w : World) : Calls Try.prog 39 #[.int .i64 x] w fun e w' => e = .returned (.int .i64 v) ∧ w = w' := by
  have := lits.Var_any x w; rw [h] at this; exact this
theorem Neg_of {x : Int} {b : Bool} (h : litNeg x = b) (w : World) : Calls Try.prog 40 #[.int .i64 x] w fun e w' => e = .returned (.bool b) ∧ w = w' := by
  have := lits.Neg_any x w; rw [h] at this; exact this

theorem Lit_any (a : Option Addr) (n cap : Nat) (ls : List Int) (x : Int) (w : World) (hv : Ints w (.slice a n cap) ls) :
    Calls Try.prog 42 #[.slice a n cap, .int .i64 x] w fun e w' => e = .returned (.int .i64 (tLit ls x)) ∧ w = w' := by
  obtain ⟨hlen, hcap, hmax⟩ := ints_len_of hv
  unfold maxLen at hmax
  obtain ⟨v, hvar⟩ : ∃ v, litVar x = v := ⟨_, rfl⟩
  obtain ⟨b, hneg⟩ : ∃ b, litNeg x = b := ⟨_, rfl⟩
  have hbd := var_bd x
  rw [hvar] at hbd
  obtain ⟨hb0, hb1⟩ := hbd
  by_cases h0 : v = 0
  · subst h0
    have HK := Lib.hid (known_zero ls)
    cases b
    · have HR := Lib.hid (tLit_pos hvar hneg HK.out)
      have HV := Lib.hid hvar
      have HN := Lib.hid hneg
      clear hvar hneg hv
      go_enter Try.func42, Try.ntmps42
      go_wp2_with fail
      go_at_call 39; refine (Var_of HV.out _).mono ?_; rintro e w' ⟨rfl, rfl⟩
      go_wp2_with fail
      go_at_call 40; refine (Neg_of HN.out _).mono ?_; rintro e w' ⟨rfl, rfl⟩
      go_wp2_with fail
      go_ret
      exact ⟨ints.retI HR.out.symm, rfl⟩
    · have HR := Lib.hid (tLit_neg hvar hneg HK.out)
      have HV := Lib.hid hvar
      have HN := Lib.hid hneg
      clear hvar hneg hv
      go_enter Try.func42, Try.ntmps42
      go_wp2_with fail
      go_at_call 39; refine (Var_of HV.out _).mono ?_; rintro e w' ⟨rfl, rfl⟩
      go_wp2_with fail
      go_at_call 40; refine (Neg_of HN.out _).mono ?_; rintro e w' ⟨rfl, rfl⟩
      go_wp2_with fail
      go_at_call 50; refine (Not_any _ _).mono ?_; rintro e w' ⟨rfl, rfl⟩
      go_wp2_with fail
      go_ret
      exact ⟨ints.retI HR.out.symm, rfl⟩
  · have c1 : (v == 0) = false := by simp [h0]
    by_cases hin : 0 < v ∧ v < n
    · obtain ⟨hp, hlt⟩ := hin
      obtain ⟨k, rfl⟩ := Int.eq_ofNat_of_zero_le (Int.le_of_lt hp)
      obtain ⟨g, off, rfl, hg, hc⟩ := ints_cell hv (k := k) (by omega)
      obtain ⟨y, hy⟩ : ∃ y, y = ls.getD k 0 := ⟨_, rfl⟩
      rw [← hy] at hc
      have HK := Lib.hid (known_in (l := ls) (v := (k : Int)) (y := tv y) hp (by omega) (by rw [hy]; rfl))
      cases b
      · have HR := Lib.hid (tLit_pos hvar hneg HK.out)
        have HV := Lib.hid hvar
        have HN := Lib.hid hneg
        clear hvar hneg hv hy h0 hlen
        go_enter Try.func42, Try.ntmps42
        go_wp2_with fail
        go_at_call 39; refine (Var_of HV.out _).mono ?_; rintro e w' ⟨rfl, rfl⟩
        go_wp2_with fail
        go_at_call 49; refine (value_any _ _).mono ?_; rintro e w' ⟨rfl, rfl⟩
        go_wp2_with fail
        go_at_call 40; refine (Neg_of HN.out _).mono ?_; rintro e w' ⟨rfl, rfl⟩
        go_wp2_with fail
        go_ret
        exact ⟨ints.retI HR.out.symm, rfl⟩
      · have HR := Lib.hid (tLit_neg hvar hneg HK.out)
        have HV := Lib.hid hvar
        have HN := Lib.hid hneg
        clear hvar hneg hv hy h0 hlen
        go_enter Try.func42, Try.ntmps42
        go_wp2_with fail
        go_at_call 39; refine (Var_of HV.out _).mono ?_; rintro e w' ⟨rfl, rfl⟩
        go_wp2_with fail
        go_at_call 49; refine (value_any _ _).mono ?_; rintro e w' ⟨rfl, rfl⟩
        go_wp2_with fail
        go_at_call 40; refine (Neg_of HN.out _).mono ?_; rintro e w' ⟨rfl, rfl⟩
        go_wp2_with fail
        go_at_call 50; refine (Not_any _ _).mono ?_; rintro e w' ⟨rfl, rfl⟩
        go_wp2_with fail
        go_ret
        exact ⟨ints.retI HR.out.symm, rfl⟩
    · have HK := Lib.hid (known_out (l := ls) (v := v) h0 (by rw [hlen]; exact hin))
      have hsp : decide (0 < v) = false ∨ (0 < v ∧ decide (v < (n : Int)) = false) := by
        by_cases h1 : 0 < v
        · right; exact ⟨h1, by simp; omega⟩
        · left; simp; omega
      rcases hsp with c2 | ⟨c2, c3⟩
      all_goals
        cases b
        · have HR := Lib.hid (tLit_pos hvar hneg HK.out)
          have HV := Lib.hid hvar
          have HN := Lib.hid hneg
          clear hvar hneg hv h0 hlen hin
          go_enter Try.func42, Try.ntmps42
          go_wp2_with fail
          go_at_call 39; refine (Var_of HV.out _).mono ?_; rintro e w' ⟨rfl, rfl⟩
          go_wp2_with fail
          go_at_call 40; refine (Neg_of HN.out _).mono ?_; rintro e w' ⟨rfl, rfl⟩
          go_wp2_with fail
          go_ret
          exact ⟨ints.retI HR.out.symm, rfl⟩
        · have HR := Lib.hid (tLit_neg hvar hneg HK.out)
          have HV := Lib.hid hvar
          have HN := Lib.hid hneg
          clear hvar hneg hv h0 hlen hin
          go_enter Try.func42, Try.ntmps42
          go_wp2_with fail
          go_at_call 39; refine (Var_of HV.out _).mono ?_; rintro e w' ⟨rfl, rfl⟩
          go_wp2_with fail
          go_at_call 40; refine (Neg_of HN.out _).mono ?_; rintro e w' ⟨rfl, rfl⟩
          go_wp2_with fail
          go_at_call 50; refine (Not_any _ _).mono ?_; rintro e w' ⟨rfl, rfl⟩
          go_wp2_with fail
          go_ret
          exact ⟨ints.retI HR.out.symm, rfl⟩
end Go.Proofs.Ytoacedadfjoneaa.tri
