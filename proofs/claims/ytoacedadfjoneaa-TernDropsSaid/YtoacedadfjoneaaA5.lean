/- Slices beside a store; the walk of the document's All. -/
import Derived.Test.YtoacedadfjoneaaA4
namespace Go.Proofs.Ytoacedadfjoneaa.aig
open Go.RowKit
open Go.Proofs.Ytoacedadfjoneaa.mem Go.Proofs.Ytoacedadfjoneaa.agf

/-- a slice of ints that lies in none of the blocks of P -/
def KInts (P : Nat → Prop) (w : World) (v : Value) (zs : List Int) : Prop :=
  ∃ (a : Option Addr) (cap : Nat), v = .slice a zs.length cap ∧ zs.length ≤ cap ∧ cap ≤ maxLen ∧
    (0 < zs.length → ∃ b off, a = some ⟨b, off, none⟩ ∧ b < w.heap.size ∧ ¬ P b ∧ ∀ i, i < zs.length → w.cell? ⟨b, off + i, none⟩ = some (.int .i64 (zs.getD i 0)))
theorem KInts.move {P P' : Nat → Prop} {w w' : World} {v : Value} {zs : List Int} (h : KInts P w v zs) (m : Moved P P' w w') : KInts P' w' v zs := by
  obtain ⟨a, cap, hv, h1, h2, h3⟩ := h
  refine ⟨a, cap, hv, h1, h2, fun hp => ?_⟩
  obtain ⟨b, off, ha, hlt, hn, hc⟩ := h3 hp
  refine ⟨b, off, ha, Nat.lt_of_lt_of_le hlt m.only.size, fun hb => ?_, fun i hi => ?_⟩
  · rcases m.own b hb with e | e
    · exact hn e
    · omega
  · exact (World.cell?_of_block (w := w) (a := ⟨b, off + i, none⟩) (m.only.block b hlt hn)).trans (hc i hi)
/-- nodes that a slice holds, in none of the blocks of P -/
def KNds (P : Nat → Prop) (w : World) (v : Value) (ns : List (Int × Int)) : Prop :=
  ∃ (a : Option Addr) (cap : Nat), v = .slice a ns.length cap ∧ ns.length ≤ cap ∧ cap ≤ maxLen ∧
    (0 < ns.length → ∃ b off, a = some ⟨b, off, none⟩ ∧ b < w.heap.size ∧ ¬ P b ∧ ∀ i, i < ns.length →
      w.cell? ⟨b, off + i * 2, none⟩ = some (.int .i64 (ns.getD i (0, 0)).1) ∧ w.cell? ⟨b, off + i * 2 + 1, none⟩ = some (.int .i64 (ns.getD i (0, 0)).2))
theorem KNds.move {P P' : Nat → Prop} {w w' : World} {v : Value} {ns : List (Int × Int)} (h : KNds P w v ns) (m : Moved P P' w w') : KNds P' w' v ns := by
  obtain ⟨a, cap, hv, h1, h2, h3⟩ := h
  refine ⟨a, cap, hv, h1, h2, fun hp => ?_⟩
  obtain ⟨b, off, ha, hlt, hn, hc⟩ := h3 hp
  refine ⟨b, off, ha, Nat.lt_of_lt_of_le hlt m.only.size, fun hb => ?_, fun i hi => ?_⟩
  · rcases m.own b hb with e | e
    · exact hn e
    · omega
  · have hbk := m.only.block b hlt hn
    exact ⟨(World.cell?_of_block (w := w) (a := ⟨b, off + i * 2, none⟩) hbk).trans (hc i hi).1, (World.cell?_of_block (w := w) (a := ⟨b, off + i * 2 + 1, none⟩) hbk).trans (hc i hi).2⟩
theorem allGo_step {s : Int × Net} {zs : List Int} {k : Nat} (h : k < zs.length) : allGo s (zs.take (k + 1)) = andF (allGo s (zs.take k)).2 (allGo s (zs.take k)).1 (zs.getD k 0) := by
  rw [List.take_succ_eq_append_getElem h]
  unfold allGo
  rw [List.foldl_append]
  simp [List.getD, h]
theorem allHas_no {m : Nat} {zs : List Int} {k : Nat} (h : k < zs.length) (hn : hasB m (zs.getD k 0) = false) : allHas m zs = false := by
  unfold allHas
  rw [List.all_eq_false]
  refine ⟨zs[k], List.getElem_mem h, ?_⟩
  have : zs.getD k 0 = zs[k] := by simp [List.getD, h]
  rw [← this, hn]; simp
theorem allHas_yes {m : Nat} {zs : List Int} (h : ∀ j, j < zs.length → hasB m (zs.getD j 0) = true) : allHas m zs = true := by
  unfold allHas
  rw [List.all_eq_true]
  intro x hx
  obtain ⟨j, hj, rfl⟩ := List.getElem_of_mem hx
  have := h j hj
  simpa [List.getD, hj] using this
theorem allGo_len (N : Net) : ∀ (zs : List Int) (s : Int × Net), N.length ≤ s.2.length → (allGo s zs).2.length ≤ s.2.length + zs.length := by
  intro zs
  induction zs with
  | nil => intro s _; simp [allGo]
  | cons z zs ih =>
    intro s hs
    obtain ⟨h1, h2, -, -⟩ := and_len s.2 s.1 z
    have := ih (andF s.2 s.1 z) (by omega)
    have e : allGo s (z :: zs) = allGo (andF s.2 s.1 z) zs := rfl
    rw [e, List.length_cons]; omega
end Go.Proofs.Ytoacedadfjoneaa.aig
