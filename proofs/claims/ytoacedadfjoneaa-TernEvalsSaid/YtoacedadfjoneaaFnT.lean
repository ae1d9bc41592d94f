/- Plain functions: values that may be open. -/
import Derived.PlainAid
import Derived.Lib.Hide
namespace Go.Proofs.Ytoacedadfjoneaa.fns

def tv (a : Int) : Int := if a = 0 then 0 else if a = 1 then 1 else 2
def tAnd (a b : Int) : Int := if a = 0 ∨ b = 0 then 0 else if a = 1 ∧ b = 1 then 1 else 2
def tNot (a : Int) : Int := if a = 0 then 1 else if a = 1 then 0 else 2
/-- what both say, of two values -/
def tJn (x y : Int) : Int × Bool := if x = 2 then (y, true) else if y = 2 ∨ x = y then (x, true) else (2, false)
def tJoin (a b : Int) : Int × Bool := tJn (tv a) (tv b)
def tBl (x y : Int) : Bool := decide (x = 2 ∨ x = y)
def tBelow (a b : Int) : Bool := tBl (tv a) (tv b)

theorem tv3 (a : Int) : a = 0 ∨ a = 1 ∨ (a ≠ 0 ∧ a ≠ 1) := by omega
theorem tv_other {a : Int} (h : a ≠ 0 ∧ a ≠ 1) : tv a = 2 := by unfold tv; rw [if_neg h.1, if_neg h.2]
theorem tv_cases (a : Int) : tv a = 0 ∨ tv a = 1 ∨ tv a = 2 := by unfold tv; split <;> (try split) <;> simp
theorem tv_bd (a : Int) : 0 ≤ tv a ∧ tv a ≤ 2 := by rcases tv_cases a with h | h | h <;> omega
theorem tv_zero {a : Int} : tv a = 0 ↔ a = 0 := by unfold tv; split <;> (try split) <;> simp_all
theorem tv_one {a : Int} : tv a = 1 ↔ a = 1 := by unfold tv; split <;> (try split) <;> simp_all
theorem tv_tv (a : Int) : tv (tv a) = tv a := by rcases tv_cases a with h | h | h <;> rw [h] <;> rfl
theorem and_zl (b : Int) : tAnd 0 b = 0 := by unfold tAnd; simp
theorem and_zr (a : Int) : tAnd a 0 = 0 := by unfold tAnd; simp
theorem and_ol {a b : Int} (h : a ≠ 0 ∧ a ≠ 1) (hb : b ≠ 0) : tAnd a b = 2 := by unfold tAnd; rw [if_neg (by omega), if_neg (by omega)]
theorem and_or {a b : Int} (ha : a ≠ 0) (h : b ≠ 0 ∧ b ≠ 1) : tAnd a b = 2 := by unfold tAnd; rw [if_neg (by omega), if_neg (by omega)]
theorem not_other {a : Int} (h : a ≠ 0 ∧ a ≠ 1) : tNot a = 2 := by unfold tNot; rw [if_neg h.1, if_neg h.2]
theorem tv_and (a b : Int) : tv (tAnd a b) = tAnd a b := by
  unfold tAnd
  split
  · rfl
  · split <;> rfl
theorem tv_not (a : Int) : tv (tNot a) = tNot a := by
  unfold tNot
  split
  · rfl
  · split <;> rfl
theorem below_iff {a b : Int} : tBelow a b = true ↔ (a ≠ 0 ∧ a ≠ 1) ∨ tv a = tv b := by
  unfold tBelow tBl
  simp only [decide_eq_true_eq]
  constructor
  · rintro (h | h)
    · left; constructor
      · intro e; rw [e] at h; exact absurd h (by decide)
      · intro e; rw [e] at h; exact absurd h (by decide)
    · exact .inr h
  · rintro (h | h)
    · exact .inl (tv_other h)
    · exact .inr h
theorem below_and {a b : Int} (c : Int) (h : tBelow a b = true) : tBelow (tAnd a c) (tAnd b c) = true := by
  rw [below_iff] at h ⊢
  rcases h with h | h
  · by_cases hc : c = 0
    · subst hc; right; rw [and_zr, and_zr]
    · left; rw [and_ol h hc]; exact ⟨by decide, by decide⟩
  · right
    rcases tv3 a with rfl | rfl | ha
    · have : b = 0 := tv_zero.1 h.symm
      rw [this]
    · have : b = 1 := tv_one.1 h.symm
      rw [this]
    · rw [tv_other ha] at h
      have hb : b ≠ 0 ∧ b ≠ 1 := ⟨fun e => by rw [e] at h; exact absurd h (by decide), fun e => by rw [e] at h; exact absurd h (by decide)⟩
      by_cases hc : c = 0
      · rw [hc, and_zr, and_zr]
      · rw [and_ol ha hc, and_ol hb hc]
theorem below_not {a b : Int} (h : tBelow a b = true) : tBelow (tNot a) (tNot b) = true := by
  rw [below_iff] at h ⊢
  rcases h with h | h
  · left; rw [not_other h]; exact ⟨by decide, by decide⟩
  · right
    rcases tv3 a with rfl | rfl | ha
    · have : b = 0 := tv_zero.1 h.symm
      rw [this]
    · have : b = 1 := tv_one.1 h.symm
      rw [this]
    · rw [tv_other ha] at h
      have hb : b ≠ 0 ∧ b ≠ 1 := ⟨fun e => by rw [e] at h; exact absurd h (by decide), fun e => by rw [e] at h; exact absurd h (by decide)⟩
      rw [not_other ha, not_other hb]
end Go.Proofs.Ytoacedadfjoneaa.fns
