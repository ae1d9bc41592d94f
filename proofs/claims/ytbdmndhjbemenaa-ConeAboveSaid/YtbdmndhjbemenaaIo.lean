/- A slice of ints as an argument, opened: its numbers fit. -/
import Derived.Test.YtbdmndhjbemenaaC5
import Derived.Test.YtbdmndhjbemenaaBe
namespace Go.Proofs.Ytbdmndhjbemenaa.aig
open Go.ChangeShapes Go.WideShapes Go.ChangeAt Go.RowKit Go.Joins
open Go.Proofs.Ytbdmndhjbemenaa.mem Go.Proofs.Ytbdmndhjbemenaa.agf
open Go.Proofs.Ytbdmndhjbemenaa.ints (Ints ints_empty)

theorem ints64_open {H : Type} {enc : TypeId × Value → H} {W : World} {a : Option Addr} {n cap : Nat} {d : DataW H} {p : List MemPlace}
    (h : DataW.Trod enc Try.prog W 0 (fun _ => true) true 23 (.slice a n cap) d p) : ∃ ls, Ints W (.slice a n cap) ls ∧ (a = none → n = 0 ∧ cap = 0) ∧ ∀ z ∈ ls, In64 z := by
  obtain ⟨fuel, hf⟩ := h
  rcases open_ints Try.underlying23 Try.underlying3 (by kernel_rfl) hf with ⟨hcs, _⟩ | ⟨x, l, c, zs, hcs, _, hl, hm, hzl, _, hcell, hwf⟩
  · simp [Value.cells] at hcs
    obtain ⟨rfl, rfl, rfl⟩ := hcs
    exact ⟨[], ints_empty _ _ _ (by unfold maxLen; omega), (fun _ => ⟨rfl, rfl⟩), fun z hz => by simp at hz⟩
  · simp [Value.cells] at hcs
    obtain ⟨rfl, rfl, rfl⟩ := hcs
    simp only [if_true] at hzl
    have ht : (zs.take n).length = n := by rw [List.length_take]; omega
    refine ⟨zs.take n, ⟨some x, cap, by rw [ht], by omega, hm, fun hp => ?_⟩, (fun h => by cases h), fun z hz => ?_⟩
    · rw [ht] at hp
      obtain ⟨b, off, spot⟩ := x
      have hc := hcell 0 (by omega)
      have hspot : spot = none := by simpa [Addr.add] using World.cell?_spot hc
      subst hspot
      refine ⟨b, off, rfl, ?_, fun i hi => ?_⟩
      · have := World.block_lt_of_cell? W _ hc
        simpa [Addr.add] using this
      · rw [ht] at hi
        have := hcell i (by omega)
        rw [addr_add] at this
        rw [this]
        simp [List.getD, hi]
    · have := bounds_i64 (hwf z (List.mem_of_mem_take hz))
      exact this
/-- what is old is beside nothing -/
theorem knds_old {P : Nat → Prop} {W : World} {v : Value} {ns : List (Int × Int)} (k : KNds P W v ns) : KNds (fun _ => False) W v ns := by
  obtain ⟨a, cap, hv, h1, h2, h3⟩ := k
  exact ⟨a, cap, hv, h1, h2, fun hp => by obtain ⟨b, off, ha, hlt, -, hc⟩ := h3 hp; exact ⟨b, off, ha, hlt, fun e => e, hc⟩⟩
end Go.Proofs.Ytbdmndhjbemenaa.aig
