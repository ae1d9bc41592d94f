/- The examples that every statement on literals ends in; the walks of the statements on numbers and texts. -/
import Derived.Test.YtjmiclgagjkooaaDoorR2
namespace Go.Proofs.YtjmiclgagjkooaaDoor.lits
open Go.RowKit Go.PlainAid
open Go.Proofs.YtjmiclgagjkooaaDoor.fns
open Go.Proofs.YtjmiclgagjkooaaDoor.oct

theorem ex_read (w : World) : Calls Tryd.prog 23 #[.string ⟨#[33, 51]⟩] w fun e w' => e = .returned (.tuple #[.int .i64 7, .int .i64 0]) ∧ w = w' := by
  have h := Read_any ⟨#[33, 51]⟩ w (by decide)
  rw [show readS ⟨#[33, 51]⟩ = (7, 0) by decide] at h
  exact h
theorem ex_of (w : World) : Calls Tryd.prog 6 #[.int .i64 3, .bool true] w fun e w' => e = .returned (.int .i64 7) ∧ w = w' := Of_any 3 true w
theorem ex_text (w : World) (hT : Tab w) : Calls Tryd.prog 25 #[.int .i64 7] w fun e w' => e = .returned (.string ⟨#[33, 51]⟩) ∧ Below w.heap.size w w' := by
  have h := Text_any 7 w hT
  rw [show textB 7 = ⟨#[33, 51]⟩ by unfold textB; rw [text_odd (by decide) (by decide), show (7 / 2 : Int).toNat = 3 from rfl, Lib.decDigits_one (by omega)]; rfl] at h
  exact h
theorem ex_neg (w : World) : Calls Tryd.prog 14 #[.int .i64 7] w fun e w' => e = .returned (.bool true) ∧ w = w' := Neg_of (by decide) w
theorem ex_not (w : World) : Calls Tryd.prog 12 #[.int .i64 7] w fun e w' => e = .returned (.int .i64 6) ∧ w = w' := Not_any 7 w

theorem lives_any (w : World) (hT : Tab w) : Calls Tryd.prog 15 #[] w fun e w' => e = .returned (.bool true) ∧ Below w.heap.size w w' := by
  go_enter Tryd.func15, Tryd.ntmps15
  go_wp2_with fail
  go_at_call 23; refine (ex_read _).mono ?_; rintro e w' ⟨rfl, rfl⟩
  go_wp2_with fail
  go_at_call 6; refine (ex_of _).mono ?_; rintro e w' ⟨rfl, rfl⟩
  go_wp2_with fail
  go_at_call 25; refine (ex_text _ hT).mono ?_; rintro e w1 ⟨rfl, hb⟩
  go_wp2_with fail
  go_at_call 14; refine (ex_neg _).mono ?_; rintro e w' ⟨rfl, rfl⟩
  go_wp2_with fail
  go_at_call 12; refine (ex_not _).mono ?_; rintro e w' ⟨rfl, rfl⟩
  go_wp2_with fail
  go_ret
  exact ⟨rfl, hb⟩

theorem Not_not {l : Int} (h : goodB l = true) (w : World) : Calls Tryd.prog 12 #[.int .i64 (litNot l)] w fun e w' => e = .returned (.int .i64 l) ∧ w = w' := by
  have := Not_any (litNot l) w; rw [not_not h] at this; exact this
theorem Of_var {l : Int} {b : Bool} (h : goodB l = true) (hb : litNeg l = b) (w : World) : Calls Tryd.prog 6 #[.int .i64 (litVar l), .bool b] w fun e w' => e = .returned (.int .i64 l) ∧ w = w' := by
  have := Of_any (litVar l) (litNeg l) w; rw [of_var h, hb] at this; exact this

theorem tells_walk (v l : Int) (b : Bool) (w : World) (hT : Tab w) :
    Calls Tryd.prog 3 #[.int .i64 v, .int .i64 l, .bool b] w fun e w' => e = .returned (.bool true) ∧ Below w.heap.size w w' := by
  cases h : goodB l with
  | false =>
    have HG := Lib.hid h
    have HN := Lib.hid (neg_no h)
    clear h
    go_enter Tryd.func3, Tryd.ntmps3
    go_wp2_with fail
    go_at_call 6; refine (Of_any _ _ _).mono ?_; rintro e w' ⟨rfl, rfl⟩
    go_wp2_with fail
    go_at_call 7; refine (refOf_any _ _ _).mono ?_; rintro e w' ⟨rfl, rfl⟩
    go_wp2_with fail
    go_at_call 8; refine (Good_no HG.out _).mono ?_; rintro e w' ⟨rfl, rfl⟩
    go_wp2_with fail
    go_at_call 9; refine (refGood_no HG.out _).mono ?_; rintro e w' ⟨rfl, rfl⟩
    go_wp2_with fail
    go_at_call 10; refine (Var_any _ _).mono ?_; rintro e w' ⟨rfl, rfl⟩
    go_wp2_with fail
    go_at_call 11; refine (refVar_any _ _).mono ?_; rintro e w' ⟨rfl, rfl⟩
    go_wp2_with fail
    go_at_call 12; refine (Not_any _ _).mono ?_; rintro e w' ⟨rfl, rfl⟩
    go_wp2_with fail
    go_at_call 13; refine (refNot_any _ _).mono ?_; rintro e w' ⟨rfl, rfl⟩
    go_wp2_with fail
    go_at_call 14; refine (Neg_of HN.out _).mono ?_; rintro e w' ⟨rfl, rfl⟩
    go_wp2_with fail
    go_at_call 9; refine (refGood_no HG.out _).mono ?_; rintro e w' ⟨rfl, rfl⟩
    go_wp2_with fail
    go_at_call 9; refine (refGood_no HG.out _).mono ?_; rintro e w' ⟨rfl, rfl⟩
    go_wp2_with fail
    go_at_call 15; refine (lives_any _ hT).mono ?_; rintro e w1 ⟨rfl, hb⟩
    go_wp2_with fail
    go_ret
    exact ⟨rfl, hb⟩
  | true =>
    have HG := Lib.hid h
    obtain ⟨h0, h1⟩ := good_iff.1 h
    by_cases h2 : l % 2 = 1
    · have HN := Lib.hid (neg_odd h h2)
      have c : (l % 2 == 1) = true := by simp [h2]
      clear h h2
      go_enter Tryd.func3, Tryd.ntmps3
      go_wp2_with fail
      go_at_call 6; refine (Of_any _ _ _).mono ?_; rintro e w' ⟨rfl, rfl⟩
      go_wp2_with fail
      go_at_call 7; refine (refOf_any _ _ _).mono ?_; rintro e w' ⟨rfl, rfl⟩
      go_wp2_with fail
      go_at_call 8; refine (Good_yes HG.out _).mono ?_; rintro e w' ⟨rfl, rfl⟩
      go_wp2_with fail
      go_at_call 9; refine (refGood_yes HG.out _).mono ?_; rintro e w' ⟨rfl, rfl⟩
      go_wp2_with fail
      go_at_call 10; refine (Var_any _ _).mono ?_; rintro e w' ⟨rfl, rfl⟩
      go_wp2_with fail
      go_at_call 11; refine (refVar_any _ _).mono ?_; rintro e w' ⟨rfl, rfl⟩
      go_wp2_with fail
      go_at_call 12; refine (Not_any _ _).mono ?_; rintro e w' ⟨rfl, rfl⟩
      go_wp2_with fail
      go_at_call 13; refine (refNot_any _ _).mono ?_; rintro e w' ⟨rfl, rfl⟩
      go_wp2_with fail
      go_at_call 14; refine (Neg_of HN.out _).mono ?_; rintro e w' ⟨rfl, rfl⟩
      go_wp2_with fail
      go_at_call 9; refine (refGood_yes HG.out _).mono ?_; rintro e w' ⟨rfl, rfl⟩
      go_wp2_with fail
      go_at_call 9; refine (refGood_yes HG.out _).mono ?_; rintro e w' ⟨rfl, rfl⟩
      go_wp2_with fail
      go_at_call 12; refine (Not_any _ _).mono ?_; rintro e w' ⟨rfl, rfl⟩
      go_wp2_with fail
      go_at_call 12; refine (Not_not HG.out _).mono ?_; rintro e w' ⟨rfl, rfl⟩
      go_wp2_with fail
      go_at_call 10; refine (Var_any _ _).mono ?_; rintro e w' ⟨rfl, rfl⟩
      go_wp2_with fail
      go_at_call 14; refine (Neg_of HN.out _).mono ?_; rintro e w' ⟨rfl, rfl⟩
      go_wp2_with fail
      go_at_call 6; refine (Of_var HG.out HN.out _).mono ?_; rintro e w' ⟨rfl, rfl⟩
      go_wp2_with fail
      go_at_call 15; refine (lives_any _ hT).mono ?_; rintro e w1 ⟨rfl, hb⟩
      go_wp2_with fail
      go_ret
      exact ⟨rfl, hb⟩
    · have HN := Lib.hid (neg_even h (by omega))
      have c : (l % 2 == 1) = false := by simp [h2]
      clear h h2
      go_enter Tryd.func3, Tryd.ntmps3
      go_wp2_with fail
      go_at_call 6; refine (Of_any _ _ _).mono ?_; rintro e w' ⟨rfl, rfl⟩
      go_wp2_with fail
      go_at_call 7; refine (refOf_any _ _ _).mono ?_; rintro e w' ⟨rfl, rfl⟩
      go_wp2_with fail
      go_at_call 8; refine (Good_yes HG.out _).mono ?_; rintro e w' ⟨rfl, rfl⟩
      go_wp2_with fail
      go_at_call 9; refine (refGood_yes HG.out _).mono ?_; rintro e w' ⟨rfl, rfl⟩
      go_wp2_with fail
      go_at_call 10; refine (Var_any _ _).mono ?_; rintro e w' ⟨rfl, rfl⟩
      go_wp2_with fail
      go_at_call 11; refine (refVar_any _ _).mono ?_; rintro e w' ⟨rfl, rfl⟩
      go_wp2_with fail
      go_at_call 12; refine (Not_any _ _).mono ?_; rintro e w' ⟨rfl, rfl⟩
      go_wp2_with fail
      go_at_call 13; refine (refNot_any _ _).mono ?_; rintro e w' ⟨rfl, rfl⟩
      go_wp2_with fail
      go_at_call 14; refine (Neg_of HN.out _).mono ?_; rintro e w' ⟨rfl, rfl⟩
      go_wp2_with fail
      go_at_call 9; refine (refGood_yes HG.out _).mono ?_; rintro e w' ⟨rfl, rfl⟩
      go_wp2_with fail
      go_at_call 9; refine (refGood_yes HG.out _).mono ?_; rintro e w' ⟨rfl, rfl⟩
      go_wp2_with fail
      go_at_call 12; refine (Not_any _ _).mono ?_; rintro e w' ⟨rfl, rfl⟩
      go_wp2_with fail
      go_at_call 12; refine (Not_not HG.out _).mono ?_; rintro e w' ⟨rfl, rfl⟩
      go_wp2_with fail
      go_at_call 10; refine (Var_any _ _).mono ?_; rintro e w' ⟨rfl, rfl⟩
      go_wp2_with fail
      go_at_call 14; refine (Neg_of HN.out _).mono ?_; rintro e w' ⟨rfl, rfl⟩
      go_wp2_with fail
      go_at_call 6; refine (Of_var HG.out HN.out _).mono ?_; rintro e w' ⟨rfl, rfl⟩
      go_wp2_with fail
      go_at_call 15; refine (lives_any _ hT).mono ?_; rintro e w1 ⟨rfl, hb⟩
      go_wp2_with fail
      go_ret
      exact ⟨rfl, hb⟩
end Go.Proofs.YtjmiclgagjkooaaDoor.lits
