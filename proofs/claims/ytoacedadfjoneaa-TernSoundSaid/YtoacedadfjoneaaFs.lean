/- Variables that are taken, and which gates have a variable (from chapter 8's texts, without its walks). -/
import Derived.Test.YtoacedadfjoneaaA9
import Derived.Test.YtoacedadfjoneaaFnO
namespace Go.Proofs.Ytoacedadfjoneaa.aig
open Go.Proofs.Ytoacedadfjoneaa.agf
theorem sel_yes {f : Nat → Bool} {k : Nat} (h : f k = true) : selTo f (k + 1) = selTo f k ++ [(k : Int) + 1] := by rw [sel_step, h]; rfl
theorem sel_no {f : Nat → Bool} {k : Nat} (h : f k = false) : selTo f (k + 1) = selTo f k := by rw [sel_step, h]; simp
theorem sel_bd {f : Nat → Bool} {k : Nat} {j : Nat} (hj : j < (selTo f k).length) : 1 ≤ (selTo f k).getD j 0 ∧ (selTo f k).getD j 0 ≤ (k : Int) ∧ f ((selTo f k).getD j 0 - 1).toNat = true := by
  have e : (selTo f k).getD j 0 = (selTo f k)[j] := by simp [List.getD, hj]
  have hm : (selTo f k)[j] ∈ selTo f k := List.getElem_mem hj
  obtain ⟨z, hz⟩ : ∃ z, z = (selTo f k)[j] := ⟨_, rfl⟩
  rw [e, ← hz]
  rw [← hz] at hm
  unfold selTo at hm
  rw [List.mem_map] at hm
  obtain ⟨i, hi, he⟩ := hm
  have := List.mem_filter.1 hi
  have h1 := List.mem_range.1 this.1
  subst he
  exact ⟨by omega, by omega, by rw [show ((i : Int) + 1 - 1).toNat = i by omega]; exact this.2⟩
/-- whether a node is a gate that has a variable -/
def fanB (ns : List (Int × Int)) (v i : Nat) : Bool := decide (0 ≤ (ns.getD i (0, 0)).1) && (decide ((ns.getD i (0, 0)).1.toNat / 2 = v) || decide ((ns.getD i (0, 0)).2.toNat / 2 = v))
theorem fanB_def (ns : List (Int × Int)) (v i : Nat) : fanB ns v i = (decide (0 ≤ (ns.getD i (0, 0)).1) && (decide ((ns.getD i (0, 0)).1.toNat / 2 = v) || decide ((ns.getD i (0, 0)).2.toNat / 2 = v))) := rfl
end Go.Proofs.Ytoacedadfjoneaa.aig
