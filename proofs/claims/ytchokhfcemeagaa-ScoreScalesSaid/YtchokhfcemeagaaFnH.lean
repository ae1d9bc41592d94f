/- Plain functions: the last score in order, and scores that are too high. -/
import Derived.Test.YtchokhfcemeagaaFnF
namespace Go.Proofs.Ytchokhfcemeagaa.fns
open Go

/-- the place of the last one of the first k -/
def most (bs : List Nat) : Nat → Int
  | 0 => -1
  | k + 1 => if most bs k < 0 then (k : Int) else if key (bs.getD (most bs k).toNat 0) < key (bs.getD k 0) then (k : Int) else most bs k
theorem most_zero (bs : List Nat) : most bs 0 = -1 := rfl
theorem most_one (bs : List Nat) : most bs 1 = 0 := by unfold most; rw [most_zero]; rfl
theorem most_some (bs : List Nat) (k : Nat) : ∃ j, j < k + 1 ∧ most bs (k + 1) = (j : Int) := by
  induction k with
  | zero => exact ⟨0, by omega, most_one bs⟩
  | succ k ih =>
    obtain ⟨j, hj, h⟩ := ih
    unfold most
    rw [h, if_neg (by omega)]
    split
    · exact ⟨k + 1, by omega, rfl⟩
    · exact ⟨j, by omega, rfl⟩
theorem most_yes {bs : List Nat} {k j : Nat} (h : most bs k = (j : Int)) (h2 : key (bs.getD j 0) < key (bs.getD k 0)) : most bs (k + 1) = (k : Int) := by
  unfold most; rw [h, if_neg (by omega), if_pos (by simpa using h2)]
theorem most_no {bs : List Nat} {k j : Nat} (h : most bs k = (j : Int)) (h2 : ¬ key (bs.getD j 0) < key (bs.getD k 0)) : most bs (k + 1) = (j : Int) := by
  unfold most; rw [h, if_neg (by omega), if_neg (by simpa using h2)]
theorem most_max (bs : List Nat) (k : Nat) : ∀ i, i < k → key (bs.getD i 0) ≤ key (bs.getD (most bs k).toNat 0) := by
  induction k with
  | zero => intro i hi; omega
  | succ k ih =>
    intro i hi
    cases k with
    | zero => rw [most_one, show i = 0 by omega]; exact Nat.le_refl _
    | succ k =>
      obtain ⟨j, hj, h⟩ := most_some bs k
      rw [h] at ih
      by_cases h2 : key (bs.getD j 0) < key (bs.getD (k + 1) 0)
      · rw [most_yes h h2]
        by_cases e : i = k + 1
        · subst e; exact Nat.le_refl _
        · have := ih i (by omega)
          simp only [Int.toNat_natCast] at this ⊢
          omega
      · rw [most_no h h2]
        by_cases e : i = k + 1
        · subst e; simp only [Int.toNat_natCast]; omega
        · exact ih i (by omega)
/-- above 1e100 -/
def hotB (b : Nat) : Bool := decide (15326393489903895421 < key b)
theorem f_hot {b : Nat} (hb : W64 b) : (FloatKind.f64.format.order b 6103021453049119613 == some .gt) = hotB b := by
  rw [f_gtr hb (by unfold W64; omega), show isNan 6103021453049119613 = false by decide, show key 6103021453049119613 = 15326393489903895421 by decide]
  unfold hotB
  cases h : isNan b
  · simp
  · rw [key_nan h]; simp
def hotTo (bs : List Nat) (k : Nat) : Bool := (bs.take k).any hotB
theorem hotTo_zero (bs : List Nat) : hotTo bs 0 = false := by simp [hotTo]
theorem hotTo_succ {bs : List Nat} {k : Nat} (h : k < bs.length) : hotTo bs (k + 1) = (hotTo bs k || hotB (bs.getD k 0)) := by
  unfold hotTo
  rw [List.take_succ_eq_append_getElem h, List.any_append]
  simp [List.getD, h]
def hot (bs : List Nat) : Bool := bs.any hotB
theorem hotTo_all (bs : List Nat) : hotTo bs bs.length = hot bs := by unfold hotTo hot; rw [List.take_of_length_le (Nat.le_refl _)]
theorem hot_most {bs : List Nat} {j : Nat} (h : most bs bs.length = (j : Int)) (hj : j < bs.length) : hotB (bs.getD j 0) = hot bs := by
  have hm := most_max bs bs.length
  rw [h] at hm
  simp only [Int.toNat_natCast] at hm
  cases hh : hot bs
  · cases hk : hotB (bs.getD j 0)
    · rfl
    · have : hot bs = true := by
        unfold hot; rw [List.any_eq_true]
        exact ⟨bs.getD j 0, by rw [List.getD, List.getElem?_eq_getElem hj]; exact List.getElem_mem _, hk⟩
      rw [hh] at this; exact this.symm
  · unfold hot at hh
    rw [List.any_eq_true] at hh
    obtain ⟨b, hb, hk⟩ := hh
    obtain ⟨i, hi, rfl⟩ := List.getElem_of_mem hb
    have := hm i hi
    rw [show bs.getD i 0 = bs[i] by simp [List.getD, hi]] at this
    unfold hotB at hk ⊢
    simp only [decide_eq_true_eq] at hk ⊢
    omega
/-- scores that are not too high -/
def scaled (bs : List Nat) : List Nat := if hot bs then bs.map shr else bs
theorem scaled_hot {bs : List Nat} (h : hot bs = true) : scaled bs = bs.map shr := by unfold scaled; rw [if_pos h]
theorem scaled_not {bs : List Nat} (h : hot bs = false) : scaled bs = bs := by unfold scaled; rw [if_neg (by simp [h])]
theorem scaled_len (bs : List Nat) : (scaled bs).length = bs.length := by unfold scaled; split <;> simp
def AllW (bs : List Nat) : Prop := ∀ b ∈ bs, b < 18446744073709551616
theorem AllW.at {bs : List Nat} (h : AllW bs) (i : Nat) : W64 (bs.getD i 0) := by
  unfold W64
  by_cases hi : i < bs.length
  · rw [List.getD, List.getElem?_eq_getElem hi]; exact h _ (List.getElem_mem _)
  · rw [List.getD, List.getElem?_eq_none (by omega)]; simp
theorem AllW.take {bs : List Nat} (h : AllW bs) (k : Nat) : AllW (bs.take k) := fun b hb => h b (List.mem_of_mem_take hb)
theorem shr_at {bs : List Nat} {k : Nat} (h : k < bs.length) : (bs.map shr).getD k 0 = shr (bs.getD k 0) := by simp [List.getD, h]
end Go.Proofs.Ytchokhfcemeagaa.fns
