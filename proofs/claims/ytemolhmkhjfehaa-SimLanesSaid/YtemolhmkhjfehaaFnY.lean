/- Words of truths, purely. -/
import Derived.Test.YtemolhmkhjfehaaFnB
namespace Go.Proofs.Ytemolhmkhjfehaa.agf
/-- a literal's value by any values -/
def litB (vals : List Bool) (l : Int) : Bool := if l = 0 ∨ l = 1 then decide (l = 1) else if l < 0 ∨ (vals.length : Int) ≤ l / 2 then false else vals.getD (l / 2).toNat false != decide (l % 2 = 1)
theorem lit_0 (vals : List Bool) : litB vals 0 = false := by unfold litB; rw [if_pos (.inl rfl)]; rfl
theorem lit_1 (vals : List Bool) : litB vals 1 = true := by unfold litB; rw [if_pos (.inr rfl)]; rfl
theorem lit_out {vals : List Bool} {l : Int} (h0 : ¬ l = 0) (h1 : ¬ l = 1) (h : l < 0 ∨ (vals.length : Int) ≤ l / 2) : litB vals l = false := by
  unfold litB; rw [if_neg (by omega), if_pos h]
theorem lit_in {vals : List Bool} {l : Int} (h0 : ¬ l = 0) (h1 : ¬ l = 1) (h : ¬ (l < 0 ∨ (vals.length : Int) ≤ l / 2)) : litB vals l = (vals.getD (l / 2).toNat false != decide (l % 2 = 1)) := by
  unfold litB; rw [if_neg (by omega), if_neg h]
/-- one of the 64 -/
def laneZ (zs : List Nat) (i : Int) : List Bool := if 0 ≤ i ∧ i < 64 then zs.map fun z => z.testBit i.toNat else []
theorem lane_no {zs : List Nat} {i : Int} (h : ¬ (0 ≤ i ∧ i < 64)) : laneZ zs i = [] := by unfold laneZ; rw [if_neg h]
theorem lane_yes (zs : List Nat) {i : Nat} (h : i < 64) : laneZ zs (i : Int) = zs.map fun z => z.testBit i := by
  unfold laneZ; rw [if_pos ⟨by omega, by omega⟩]; rfl
theorem bit_div (n i : Nat) : (n / 2 ^ i % 2 = 1) ↔ n.testBit i = true := by
  rw [Nat.testBit_eq_decide_div_mod_eq, decide_eq_true_iff]
/-- a word so far, of the first i lists -/
def packW (LL : List (List Bool)) (k : Nat) : Nat → Nat
  | 0 => 0
  | i + 1 => packW LL k i + if (LL.getD i []).getD k false then 2 ^ i else 0
theorem pack_lt (LL : List (List Bool)) (k i : Nat) : packW LL k i < 2 ^ i := by
  induction i with
  | zero => simp [packW]
  | succ i ih =>
    unfold packW
    have : 2 ^ (i + 1) = 2 ^ i + 2 ^ i := by rw [Nat.pow_succ]; omega
    split <;> omega
/-- how many words there are -/
def packN (LL : List (List Bool)) (i : Nat) : Nat := (LL.take i).foldl (fun m l => max m l.length) 0
theorem packN_step {LL : List (List Bool)} {i : Nat} (h : i < LL.length) : packN LL (i + 1) = max (packN LL i) (LL.getD i []).length := by
  unfold packN
  rw [List.take_succ_eq_append_getElem h, List.foldl_append]
  simp [List.getD, h]
theorem packN_le {LL : List (List Bool)} {b : Nat} (h : ∀ l ∈ LL, l.length ≤ b) (i : Nat) : packN LL i ≤ b := by
  unfold packN
  have key : ∀ (l : List (List Bool)) (d : Nat), d ≤ b → (∀ x ∈ l, x.length ≤ b) → l.foldl (fun m l => max m l.length) d ≤ b := by
    intro l
    induction l with
    | nil => intro d hd _; exact hd
    | cons x l ih =>
      intro d hd hx
      refine ih _ ?_ (fun y hy => hx y (by simp [hy]))
      have := hx x (by simp)
      show max d x.length ≤ b
      omega
  exact key _ 0 (Nat.zero_le _) (fun x hx => h x (List.mem_of_mem_take hx))
theorem packN_ge {LL : List (List Bool)} : ∀ i, i ≤ LL.length → ∀ k, k < i → (LL.getD k []).length ≤ packN LL i := by
  intro i
  induction i with
  | zero => intro _ k hk; omega
  | succ i ih =>
    intro hi k hk
    rw [packN_step (by omega)]
    by_cases e : k = i
    · rw [e]; omega
    · have := ih (by omega) k (by omega); omega
/-- how many lists play a part -/
def packI (LL : List (List Bool)) : Nat := min LL.length 64
def packL (LL : List (List Bool)) : List Nat := (List.range (packN LL (packI LL))).map fun k => packW LL k (packI LL)
theorem pack_bit (LL : List (List Bool)) (k : Nat) : ∀ i j, (packW LL k i).testBit j = (decide (j < i) && (LL.getD j []).getD k false) := by
  intro i
  induction i with
  | zero => intro j; simp [packW]
  | succ i ih =>
    intro j
    unfold packW
    have hlt := pack_lt LL k i
    by_cases hb : (LL.getD i []).getD k false = true
    · rw [if_pos hb, Nat.add_comm, show 2 ^ i + packW LL k i = 2 ^ i * 1 + packW LL k i by omega, Nat.testBit_two_pow_mul_add 1 hlt j]
      by_cases h : j < i
      · rw [if_pos h, ih j, decide_eq_true h, decide_eq_true (show j < i + 1 by omega)]
      · rw [if_neg h]
        by_cases e : j = i
        · subst e; rw [hb, Nat.sub_self, decide_eq_true (show j < j + 1 by omega)]; rfl
        · rw [decide_eq_false (show ¬ j < i + 1 by omega), Bool.false_and]
          obtain ⟨d, hd⟩ : ∃ d, j - i = d + 1 := ⟨j - i - 1, by omega⟩
          rw [hd, Nat.testBit_succ]
          simp
    · rw [if_neg hb, Nat.add_zero, ih j]
      by_cases e : j = i
      · subst e
        have : (LL.getD j []).getD k false = false := by simpa using hb
        rw [this]; simp
      · by_cases h : j < i
        · rw [decide_eq_true h, decide_eq_true (show j < i + 1 by omega)]
        · rw [decide_eq_false h, decide_eq_false (show ¬ j < i + 1 by omega)]
theorem packL_len (LL : List (List Bool)) : (packL LL).length = packN LL (packI LL) := by unfold packL; simp
theorem packL_at (LL : List (List Bool)) {k : Nat} (h : k < packN LL (packI LL)) : (packL LL).getD k 0 = packW LL k (packI LL) := by
  unfold packL; simp [List.getD, h]
theorem packL_lt (LL : List (List Bool)) : ∀ z ∈ packL LL, z < 18446744073709551616 := by
  intro z hz
  unfold packL at hz
  obtain ⟨k, -, rfl⟩ := List.mem_map.1 hz
  have h1 := pack_lt LL k (packI LL)
  have h2 : 2 ^ packI LL ≤ 2 ^ 64 := Nat.pow_le_pow_right (by omega) (by unfold packI; omega)
  have h3 : (2 : Nat) ^ 64 = 18446744073709551616 := by decide
  omega
/-- what was packed comes back -/
theorem pack_back {LL : List (List Bool)} {j : Nat} (hj : j < packI LL) : (LL.getD j []).length ≤ (laneZ (packL LL) (j : Int)).length ∧ (laneZ (packL LL) (j : Int)).take (LL.getD j []).length = LL.getD j [] := by
  have h64 : j < 64 := by unfold packI at hj; omega
  have hle := packN_ge (LL := LL) (packI LL) (by unfold packI; omega) j hj
  rw [lane_yes _ h64]
  have hl : ((packL LL).map fun z => z.testBit j).length = packN LL (packI LL) := by rw [List.length_map, packL_len]
  refine ⟨by rw [hl]; exact hle, ?_⟩
  apply List.ext_getElem
  · rw [List.length_take, hl]; omega
  · intro i h1 h2
    have h3 : i < packN LL (packI LL) := by omega
    rw [List.getElem_take, List.getElem_map]
    have e : (packL LL)[i]'(by rw [packL_len]; exact h3) = packW LL i (packI LL) := by
      have := packL_at LL h3
      rw [← this]; simp [List.getD, packL_len, h3]
    rw [e, pack_bit, decide_eq_true hj, Bool.true_and]
    simp only [List.getD] at h2 ⊢
    rw [List.getElem?_eq_getElem h2]; rfl
end Go.Proofs.Ytemolhmkhjfehaa.agf
