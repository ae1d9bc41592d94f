/- Arguments of the statements on simulation, opened: truths, lists of truths. -/
import Derived.Test.YtemolhmkhjfehaaD6
import Derived.Test.YtemolhmkhjfehaaBe
namespace Go.Proofs.Ytemolhmkhjfehaa.aig
open Go.ChangeShapes Go.WideShapes Go.ChangeAt Go.RowKit Go.Joins
open Go.Proofs.Ytemolhmkhjfehaa.mem Go.Proofs.Ytemolhmkhjfehaa.agf

theorem boolsN_open {H : Type} {enc : TypeId × Value → H} {W : World} {a : Option Addr} {n cap : Nat} {d : DataW H} {p : List MemPlace}
    (h : DataW.Trod enc Try.prog W 0 (fun _ => true) true 23 (.slice a n cap) d p) : (∃ bs, KB W (.slice a n cap) bs) ∧ ∀ m c, Value.slice a n cap = .slice none m c → m = 0 := by
  refine ⟨bools_open h, fun m c e => ?_⟩
  obtain ⟨rfl, rfl, rfl⟩ := Value.slice.inj e
  obtain ⟨fuel, hf⟩ := h
  rcases Deep.open_bools Try.underlying23 Try.underlying4 (by kernel_rfl) hf with ⟨hcs, _⟩ | ⟨x, l, c, B, hcs, _⟩
  · simp [Value.cells] at hcs
    exact hcs.1
  · simp [Value.cells] at hcs
theorem nil_words {a : Option Addr} {n cap : Nat} (h : a = none → n = 0 ∧ cap = 0) : ∀ m c, Value.slice a n cap = .slice none m c → m = 0 ∧ c = 0 := by
  intro m c e
  obtain ⟨rfl, rfl, rfl⟩ := Value.slice.inj e
  exact h rfl
theorem grid_open {H : Type} {enc : TypeId × Value → H} {W : World} {a : Option Addr} {n cap : Nat} {d : DataW H} {p : List MemPlace}
    (h : DataW.Trod enc Try.prog W 0 (fun _ => true) true 37 (.slice a n cap) d p) : ∃ LL, GridB W (.slice a n cap) LL := by
  obtain ⟨fuel, hf⟩ := h
  rcases Deep.open_bool_rows Try.underlying37 Try.underlying23 Try.underlying4 (by kernel_rfl) (by kernel_rfl) hf with ⟨hcs, _⟩ | ⟨x, l, c, A, L, C, B, hcs, _, hl, hm, _, hx⟩
  · simp [Value.cells] at hcs
    obtain ⟨rfl, rfl, rfl⟩ := hcs
    exact ⟨[], none, 0, rfl, Nat.le_refl _, by unfold maxLen; omega, fun h => by simp at h⟩
  · simp [Value.cells] at hcs
    obtain ⟨rfl, rfl, rfl⟩ := hcs
    have hlen : ((List.range n).map fun r => (List.range (L r)).map (B r)).length = n := by simp
    refine ⟨(List.range n).map fun r => (List.range (L r)).map (B r), some x, cap, by rw [hlen], by omega, hm, fun hp => ?_⟩
    rw [hlen] at hp ⊢
    obtain ⟨b, off, spot⟩ := x
    have hc := (hx 0 (by omega)).1
    have hspot : spot = none := by simpa [Addr.add] using World.cell?_spot hc
    subst hspot
    have hlt : b < W.heap.size := by
      have := World.block_lt_of_cell? W _ hc
      simpa [Addr.add] using this
    refine ⟨b, off, rfl, hlt, fun i hi => ?_⟩
    obtain ⟨c1, c2, c3, -, c5⟩ := hx i (by omega)
    rw [addr_add] at c1
    refine ⟨_, c1, ?_⟩
    have e : ((List.range n).map fun r => (List.range (L r)).map (B r)).getD i [] = (List.range (L i)).map (B i) := by simp [List.getD, hi]
    rw [e]
    have hl2 : ((List.range (L i)).map (B i)).length = L i := by simp
    refine ⟨A i, C i, by rw [hl2], by omega, c3, fun hp2 => ?_⟩
    rw [hl2] at hp2 ⊢
    cases hA : A i with
    | none => 
      have := (hx i (by omega)).2.2.2.1 hA
      omega
    | some y =>
      obtain ⟨-, hcell⟩ := c5 y hA
      obtain ⟨b2, off2, spot2⟩ := y
      have hc2 := hcell 0 (by omega)
      have hs2 : spot2 = none := by simpa [Addr.add] using World.cell?_spot hc2
      subst hs2
      have hlt2 : b2 < W.heap.size := by
        have := World.block_lt_of_cell? W _ hc2
        simpa [Addr.add] using this
      refine ⟨b2, off2, rfl, hlt2, fun j hj => ?_⟩
      have := hcell j (by omega)
      rw [addr_add] at this
      rw [this]
      simp [List.getD, hj]
end Go.Proofs.Ytemolhmkhjfehaa.aig
