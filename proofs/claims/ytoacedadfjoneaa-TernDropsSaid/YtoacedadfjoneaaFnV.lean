/- Plain functions: literals. -/
import Derived.PlainAid
import Derived.Lib.Hide
namespace Go.Proofs.Ytoacedadfjoneaa.fns

/-- a variable's literal -/
def litOf (v : Int) (b : Bool) : Int := if v < 0 ∨ 16777216 < v then -1 else if b then 2 * v + 1 else 2 * v
def goodB (l : Int) : Bool := decide (0 ≤ l ∧ l ≤ 33554433)
def litVar (l : Int) : Int := if goodB l then l / 2 else -1
def litNot (l : Int) : Int := if goodB l then (if l % 2 = 1 then l - 1 else l + 1) else -1
def litNeg (l : Int) : Bool := goodB l && decide (l % 2 = 1)

theorem good_yes {l : Int} (h0 : 0 ≤ l) (h1 : l ≤ 33554433) : goodB l = true := by unfold goodB; simp [h0, h1]
theorem good_no {l : Int} (h : ¬ (0 ≤ l ∧ l ≤ 33554433)) : goodB l = false := by unfold goodB; simpa using h
theorem good_iff {l : Int} : goodB l = true ↔ 0 ≤ l ∧ l ≤ 33554433 := by unfold goodB; simp
theorem of_bad {v : Int} {b : Bool} (h : v < 0 ∨ 16777216 < v) : litOf v b = -1 := by unfold litOf; rw [if_pos h]
theorem of_pos {v : Int} (h0 : 0 ≤ v) (h1 : v ≤ 16777216) : litOf v false = 2 * v := by unfold litOf; rw [if_neg (by omega)]; rfl
theorem of_neg {v : Int} (h0 : 0 ≤ v) (h1 : v ≤ 16777216) : litOf v true = 2 * v + 1 := by unfold litOf; rw [if_neg (by omega)]; rfl
theorem var_yes {l : Int} (h : goodB l = true) : litVar l = l / 2 := by unfold litVar; rw [if_pos h]
theorem var_no {l : Int} (h : goodB l = false) : litVar l = -1 := by unfold litVar; rw [if_neg (by simp [h])]
theorem neg_no {l : Int} (h : goodB l = false) : litNeg l = false := by unfold litNeg; simp [h]
theorem neg_odd {l : Int} (h : goodB l = true) (h2 : l % 2 = 1) : litNeg l = true := by unfold litNeg; simp [h, h2]
theorem neg_even {l : Int} (_h : goodB l = true) (h2 : l % 2 = 0) : litNeg l = false := by unfold litNeg; simp [h2]
theorem not_no {l : Int} (h : goodB l = false) : litNot l = -1 := by unfold litNot; rw [if_neg (by simp [h])]
theorem not_odd {l : Int} (h : goodB l = true) (h2 : l % 2 = 1) : litNot l = l - 1 := by unfold litNot; rw [if_pos h, if_pos h2]
theorem not_even {l : Int} (h : goodB l = true) (h2 : l % 2 = 0) : litNot l = l + 1 := by unfold litNot; rw [if_pos h, if_neg (by omega)]
/-- a literal's inverse is of its variable, the other way round -/
theorem not_of (l : Int) : litNot l = litOf (litVar l) (!litNeg l) := by
  cases h : goodB l with
  | false => rw [not_no h, var_no h, of_bad (by omega)]
  | true =>
    obtain ⟨h0, h1⟩ := good_iff.1 h
    rw [var_yes h]
    by_cases h2 : l % 2 = 1
    · rw [not_odd h h2, neg_odd h h2]; rw [show (!true) = false from rfl, of_pos (by omega) (by omega)]; omega
    · rw [not_even h (by omega), neg_even h (by omega)]; rw [show (!false) = true from rfl, of_neg (by omega) (by omega)]; omega
theorem not_not {l : Int} (h : goodB l = true) : litNot (litNot l) = l := by
  obtain ⟨h0, h1⟩ := good_iff.1 h
  by_cases h2 : l % 2 = 1
  · rw [not_odd h h2, not_even (good_yes (by omega) (by omega)) (by omega)]; omega
  · rw [not_even h (by omega), not_odd (good_yes (by omega) (by omega)) (by omega)]; omega
theorem of_var {l : Int} (h : goodB l = true) : litOf (litVar l) (litNeg l) = l := by
  obtain ⟨h0, h1⟩ := good_iff.1 h
  rw [var_yes h]
  by_cases h2 : l % 2 = 1
  · rw [neg_odd h h2, of_neg (by omega) (by omega)]; omega
  · rw [neg_even h (by omega), of_pos (by omega) (by omega)]; omega
theorem of_bd (v : Int) (b : Bool) : -1 ≤ litOf v b ∧ litOf v b ≤ 33554433 := by
  unfold litOf; split
  · omega
  · split <;> omega
theorem var_bd (l : Int) : -1 ≤ litVar l ∧ litVar l ≤ 16777216 := by
  cases h : goodB l with
  | false => rw [var_no h]; omega
  | true => obtain ⟨h0, h1⟩ := good_iff.1 h; rw [var_yes h]; omega
theorem not_bd (l : Int) : -1 ≤ litNot l ∧ litNot l ≤ 33554433 := by rw [not_of]; exact of_bd _ _
end Go.Proofs.Ytoacedadfjoneaa.fns
