/- What every way of putting things to a store keeps. -/
import Derived.Test.YtfdihlicmmcjjaaFnB
namespace Go.Proofs.Ytfdihlicmmcjjaa.agf

/-- kept by an input and by And -/
structure Kept (P : Net → Prop) : Prop where
  inp : ∀ N, P N → P (N ++ [none])
  and : ∀ N a b, P N → P (andF N a b).2
theorem kept_tidy : Kept Tidy := ⟨fun _ h => tidy_input h, fun _ _ _ h => and_tidy h⟩
theorem kept_good : Kept Good := ⟨fun _ h => good_input h, fun _ _ _ h => and_good h⟩
variable {P : Net → Prop} (K : Kept P)
include K
theorem kept_or {N : Net} (a b : Int) (h : P N) : P (orF N a b).2 := K.and _ _ _ h
theorem kept_mux {N : Net} (c a b : Int) (h : P N) : P (muxF N c a b).2 := by
  unfold muxF
  split
  · exact kept_or K _ _ (K.and _ _ _ (K.and _ _ _ h))
  · exact h
theorem kept_xor {N : Net} (a b : Int) (h : P N) : P (xorF N a b).2 := kept_mux K _ _ _ h
theorem kept_allGo (l : List Int) : ∀ s : Int × Net, P s.2 → P (allGo s l).2 := by
  induction l with
  | nil => intro s h; exact h
  | cons x l ih => intro s h; exact ih (andF s.2 s.1 x) (K.and _ _ _ h)
theorem kept_all {N : Net} (l : List Int) (h : P N) : P (allF N l).2 := by
  unfold allF
  split
  · exact kept_allGo K l _ h
  · exact h
theorem kept_copyGo (n : Net) : ∀ s : List Int × List Int × Net, P s.2.2 → P (copyGo s n).2.2 := by
  induction n with
  | nil => intro s h; exact h
  | cons x n ih =>
    intro s h
    refine ih (copyStep s x) ?_
    obtain ⟨L, z, M⟩ := s
    cases x with
    | some g => exact K.and _ _ _ h
    | none =>
      cases z with
      | nil => exact K.inp _ h
      | cons y z => exact h
theorem kept_copy {N : Net} (n : Net) (z : List Int) (h : P N) : P (copyF N n z).2 := by
  unfold copyF
  split
  · exact kept_copyGo K n _ h
  · exact h
omit K
theorem len_and (N : Net) (a b : Int) : (andF N a b).2.length ≤ N.length + 1 := by
  by_cases hh : hasB N.length a = true ∧ hasB N.length b = true
  · have h := and_way hh.1 hh.2
    generalize (andF N a b).1 = r at h ⊢
    generalize (andF N a b).2 = M at h ⊢
    cases h <;> simp
  · have : andF N a b = (-1, N) := by
      unfold andF
      rw [if_neg (by simpa using hh)]
    rw [this]; simp
theorem len_allGo (l : List Int) : ∀ s : Int × Net, (allGo s l).2.length ≤ s.2.length + l.length := by
  induction l with
  | nil => intro s; simp [allGo]
  | cons x l ih =>
    intro s
    have := ih (andF s.2 s.1 x)
    have h2 := len_and s.2 s.1 x
    simp only [allGo, List.foldl_cons, List.length_cons] at this ⊢
    omega
theorem len_all (N : Net) (l : List Int) : (allF N l).2.length ≤ N.length + l.length := by
  unfold allF
  split
  · exact len_allGo l _
  · simp
theorem len_copyGo (n : Net) : ∀ s : List Int × List Int × Net, (copyGo s n).2.2.length ≤ s.2.2.length + n.length := by
  induction n with
  | nil => intro s; simp [copyGo]
  | cons x n ih =>
    intro s
    have h1 := ih (copyStep s x)
    have h2 : (copyStep s x).2.2.length ≤ s.2.2.length + 1 := by
      obtain ⟨L, z, M⟩ := s
      cases x with
      | some g => exact len_and _ _ _
      | none =>
        cases z with
        | nil => simp [copyStep, inF]
        | cons y z => simp [copyStep]
    simp only [copyGo, List.foldl_cons, List.length_cons] at h1 ⊢
    omega
theorem len_copy (N n : Net) (z : List Int) : (copyF N n z).2.length ≤ N.length + n.length := by
  unfold copyF
  split
  · exact len_copyGo n _
  · simp
theorem len_mux (N : Net) (c a b : Int) : (muxF N c a b).2.length ≤ N.length + 3 := by
  unfold muxF
  split
  · have h1 := len_and N c a
    have h2 := len_and (andF N c a).2 (nt c) b
    have h3 := len_and (andF (andF N c a).2 (nt c) b).2 (nt (andF N c a).1) (nt (andF (andF N c a).2 (nt c) b).1)
    simp only [orF]
    omega
  · simp
end Go.Proofs.Ytfdihlicmmcjjaa.agf
