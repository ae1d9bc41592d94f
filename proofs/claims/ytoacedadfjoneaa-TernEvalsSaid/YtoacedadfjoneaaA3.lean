/- The walk of the document's And. -/
import Derived.Test.YtoacedadfjoneaaA2
namespace Go.Proofs.Ytoacedadfjoneaa.aig
open Go.RowKit
open Go.Proofs.Ytoacedadfjoneaa.mem Go.Proofs.Ytoacedadfjoneaa.agf

theorem seek_first {N : Net} {g : Nat × Nat} {k : Nat} (h : N[k]? = some (some g)) (hj : ∀ j, j < k → N[j]? ≠ some (some g)) : seek N g = some k := by
  obtain ⟨h1, h2⟩ := List.getElem?_eq_some_iff.1 h
  refine List.findIdx?_eq_some_iff_getElem.2 ⟨h1, by rw [h2]; simp, fun j hjk => ?_⟩
  have := hj j hjk
  rw [List.getElem?_eq_getElem (by omega)] at this
  simpa using this
theorem seek_never {N : Net} {g : Nat × Nat} (hj : ∀ j, j < N.length → N[j]? ≠ some (some g)) : seek N g = none := by
  refine List.findIdx?_eq_none_iff.2 fun x hx => ?_
  obtain ⟨j, h1, rfl⟩ := List.getElem_of_mem hx
  have := hj j h1
  rw [List.getElem?_eq_getElem h1] at this
  simpa using this
/-- whether a node is the gate of x and y -/
theorem conc_is {N : Net} {k x y : Nat} (hk : k < N.length) : (((N.map conc).getD k (0, 0)).1 = (x : Int) ∧ ((N.map conc).getD k (0, 0)).2 = (y : Int)) ↔ N[k]? = some (some (x, y)) := by
  have e : (N.map conc).getD k (0, 0) = conc N[k] := by simp [List.getD, hk]
  rw [e, List.getElem?_eq_getElem hk]
  cases hn : N[k] with
  | none => simp [conc]
  | some g => obtain ⟨a, b⟩ := g; simp [conc]; omega
/-- what And does once it is past its first tests -/
theorem andF_put {N : Net} {a b : Int} (ha : hasB N.length a = true) (hb : hasB N.length b = true) (h0 : ¬ (a = 0 ∨ b = 0 ∨ a = nt b)) (h1 : ¬ (a = 1 ∨ a = b)) (h2 : ¬ b = 1) :
    andF N a b = putG N (min a b).toNat (max a b).toNat := by
  unfold andF
  rw [ha, hb]
  simp only [Bool.and_self, if_true]
  rw [if_neg h0, if_neg h1, if_neg h2]
theorem andF_no {N : Net} {a b : Int} (h : hasB N.length a = false ∨ hasB N.length b = false) : andF N a b = (-1, N) := by
  unfold andF
  rcases h with h | h <;> rw [h] <;> simp
theorem andF_zero {N : Net} {a b : Int} (ha : hasB N.length a = true) (hb : hasB N.length b = true) (h0 : a = 0 ∨ b = 0 ∨ a = nt b) : andF N a b = (0, N) := by
  unfold andF
  rw [ha, hb]
  simp only [Bool.and_self, if_true]
  rw [if_pos h0]
theorem andF_right {N : Net} {a b : Int} (ha : hasB N.length a = true) (hb : hasB N.length b = true) (h0 : ¬ (a = 0 ∨ b = 0 ∨ a = nt b)) (h1 : a = 1 ∨ a = b) : andF N a b = (b, N) := by
  unfold andF
  rw [ha, hb]
  simp only [Bool.and_self, if_true]
  rw [if_neg h0, if_pos h1]
theorem andF_left {N : Net} {a b : Int} (ha : hasB N.length a = true) (hb : hasB N.length b = true) (h0 : ¬ (a = 0 ∨ b = 0 ∨ a = nt b)) (h1 : ¬ (a = 1 ∨ a = b)) (h2 : b = 1) : andF N a b = (a, N) := by
  unfold andF
  rw [ha, hb]
  simp only [Bool.and_self, if_true]
  rw [if_neg h0, if_neg h1, if_pos h2]
theorem RStep.same {A B h : Nat} {sv : Value} {r : Int} {N M : Net} {w : World} (s : Rs A B w h sv N) (hM : M = N) : RStep A B h sv r M w (.returned (.int .i64 r)) w :=
  ⟨sv, rfl, hM ▸ s, Moved.refl _ _⟩
end Go.Proofs.Ytoacedadfjoneaa.aig
