/- Inputs that are mixed of two. -/
import Derived.Test.YtbdmndhjbemenaaFnO
namespace Go.Proofs.Ytbdmndhjbemenaa.agf
def mixTo (N : Net) (S : Nat → Bool) (a b : List Bool) (k : Nat) : List Bool := ((List.range k).filter fun i => N[i]? == some none).map fun i => if S i then a.getD (cntI N i) false else b.getD (cntI N i) false
theorem mix_len (N : Net) (S : Nat → Bool) (a b : List Bool) (k : Nat) : (mixTo N S a b k).length = cntI N k := by unfold mixTo cntI; rw [List.length_map]
theorem mix_step (N : Net) (S : Nat → Bool) (a b : List Bool) (k : Nat) : mixTo N S a b (k + 1) = mixTo N S a b k ++ if N[k]? = some none then [if S k then a.getD (cntI N k) false else b.getD (cntI N k) false] else [] := by
  unfold mixTo
  rw [List.range_succ, List.filter_append, List.map_append]
  by_cases h : N[k]? = some none
  · rw [if_pos h]; simp [h]
  · rw [if_neg h]; simp [h]
theorem mix_pre (N : Net) (S : Nat → Bool) (a b : List Bool) {k m : Nat} (h : k ≤ m) : ∃ r, mixTo N S a b m = mixTo N S a b k ++ r := by
  induction m with
  | zero =>
    obtain rfl : k = 0 := by omega
    exact ⟨[], by simp⟩
  | succ m ih =>
    by_cases e : k = m + 1
    · rw [e]; exact ⟨[], by simp⟩
    · obtain ⟨r, hr⟩ := ih (by omega)
      rw [mix_step, hr, List.append_assoc]; exact ⟨_, rfl⟩
theorem mix_at {N : Net} (S : Nat → Bool) (a b : List Bool) {i m : Nat} (hi : i < m) (h : N[i]? = some none) : (mixTo N S a b m).getD (cntI N i) false = if S i then a.getD (cntI N i) false else b.getD (cntI N i) false := by
  obtain ⟨r, hr⟩ := mix_pre N S a b (k := i + 1) (m := m) (by omega)
  rw [hr, mix_step, if_pos h, ← mix_len N S a b i]
  simp [List.getD]
/-- what is mixed by a literal's support is worth the same for it -/
theorem mix_means {N : Net} (hN : Good N) (a b : List Bool) {x : Nat} {S : Nat → Bool} (hS : ∀ i, N[i]? = some none → hangV N x (i + 1) = true → S i = true) : (st a N).1.getD x false = (st (mixTo N S a b N.length) N).1.getD x false := by
  refine st_support hN _ _ x (fun i hi hh => ?_)
  rw [mix_at S a b (List.getElem?_eq_some_iff.1 hi).1 hi, if_pos (hS i hi hh)]
theorem cnt_le (N : Net) (k : Nat) : cntI N k ≤ k := by
  unfold cntI
  exact Nat.le_trans (List.length_filter_le _ _) (by simp)
theorem cnt_yes {N : Net} {k : Nat} (h : N[k]? = some none) : cntI N (k + 1) = cntI N k + 1 := by rw [cntI_step, if_pos h]
theorem cnt_no {N : Net} {k : Nat} (h : ¬ N[k]? = some none) : cntI N (k + 1) = cntI N k := by rw [cntI_step, if_neg h]; rfl
end Go.Proofs.Ytbdmndhjbemenaa.agf
