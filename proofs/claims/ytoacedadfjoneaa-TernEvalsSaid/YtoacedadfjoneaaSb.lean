/- A slice of truths as an argument, opened: how long it can be at most. -/
import Derived.Test.YtoacedadfjoneaaBe
import Derived.SizedLaws
namespace Go.Proofs.Ytoacedadfjoneaa.aig
open Go.ChangeShapes Go.WideShapes Go.ChangeAt Go.RowKit
open Go.Proofs.Ytoacedadfjoneaa.mem Go.Proofs.Ytoacedadfjoneaa.agf
theorem boolsS_open {H : Type} {enc : TypeId × Value → H} {W : World} {a : Option Addr} {n cap : Nat} {d : DataW H} {p : List MemPlace}
    (h : DataW.Trod enc Try.prog W 0 (fun _ => true) true 35 (.slice a n cap) d p) (hs : ∀ elems spare, d = .slice elems spare → (elems.length + spare.length) * Try.prog.bytesOf 4 ≤ reachBytes) : ∃ bs, KB W (.slice a n cap) bs ∧ bs.length ≤ 140737488355328 := by
  have hb : Try.prog.bytesOf 4 = 1 := by kernel_rfl
  obtain ⟨fuel, hf⟩ := h
  rcases Deep.open_bools Try.underlying35 Try.underlying4 (by kernel_rfl) hf with ⟨hcs, _⟩ | ⟨x, l, c, B, hcs, _, hl, hm, hd, hx⟩
  · simp [Value.cells] at hcs
    obtain ⟨rfl, rfl, rfl⟩ := hcs
    exact ⟨[], ⟨none, 0, rfl, Nat.le_refl _, by unfold maxLen; omega, fun h => by simp at h⟩, by simp⟩
  · simp [Value.cells] at hcs
    obtain ⟨rfl, rfl, rfl⟩ := hcs
    obtain ⟨e1, -⟩ := Prod.mk.inj hd
    have h1 := hs _ _ e1
    rw [hb] at h1
    have h2 : reachBytes < 140737488355328 := reachBytes_lt
    have hlen : ((List.range n).map B).length = n := by simp
    refine ⟨(List.range n).map B, ⟨some x, cap, by rw [hlen], by omega, hm, fun hp => ?_⟩, by simp at h1 ⊢; omega⟩
    rw [hlen] at hp ⊢
    obtain ⟨b, off, spot⟩ := x
    have hc := hx 0 (by omega)
    have hspot : spot = none := by simpa [Addr.add] using World.cell?_spot hc
    subst hspot
    have hlt : b < W.heap.size := by
      have := World.block_lt_of_cell? W _ hc
      simpa [Addr.add] using this
    refine ⟨b, off, rfl, hlt, fun i hi => ?_⟩
    have := hx i (by omega)
    rw [addr_add] at this
    rw [this]
    simp [List.getD, hi]
end Go.Proofs.Ytoacedadfjoneaa.aig
