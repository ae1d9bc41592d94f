/- Arguments of the statements on stores, opened: nodes, and what is asked. -/
import Derived.Test.YtoacedadfjoneaaA5
import Derived.Deep.SlicePairs
import Derived.ChangeSame
import Derived.ProofKit
import Derived.OpenShut
import Derived.ChangeOld
namespace Go.Proofs.Ytoacedadfjoneaa.aig
open Go.ChangeShapes Go.WideShapes Go.ChangeAt Go.RowKit
open Go.Proofs.Ytoacedadfjoneaa.mem Go.Proofs.Ytoacedadfjoneaa.agf

/-- the blocks that are not the caller's -/
abbrev New (W : World) : Nat → Prop := fun k => W.heap.size ≤ k
theorem cellsI : Try.prog.cellsOf 3 = 1 := by kernel_rfl
theorem cellsLI : Try.prog.cellsOf 23 = 1 := by kernel_rfl
theorem cellsLN : Try.prog.cellsOf 22 = 1 := by kernel_rfl
theorem cellsN : Try.prog.cellsOf 40 = 2 := by kernel_rfl
theorem int_read {H : Type} {enc : TypeId × Value → H} {W : World} {fuel : Nat} {v : Value} {y : DataW H × List MemPlace} (h : DataW.trod enc Try.prog W 0 (fun _ => true) true fuel 3 [v] = some y) : ∃ z, v = .int .i64 z ∧ In64 z := by
  obtain ⟨z, e, -, wz⟩ := DataW.trod_int Try.underlying3 h
  have hb := bounds_i64 wz
  exact ⟨z, by simpa using e, hb.1, hb.2⟩
/-- a slice is nil, or it has an address -/
def SliceOk (v : Value) : Prop := v = .slice none 0 0 ∨ ∃ x n c, v = .slice (some x) n c
theorem ints_read {H : Type} {enc : TypeId × Value → H} {W : World} {fuel : Nat} {v : Value} {y : DataW H × List MemPlace} (h : DataW.trod enc Try.prog W 0 (fun _ => true) true fuel 23 [v] = some y) :
    ∃ zs, KInts (New W) W v zs ∧ SliceOk v := by
  rcases open_ints Try.underlying23 Try.underlying3 cellsI h with ⟨hcs, _⟩ | ⟨x, l, c, zs, hcs, _, hl, hm, hzl, _, hcell, _⟩
  · simp at hcs
    subst hcs
    exact ⟨[], ⟨none, 0, rfl, Nat.le_refl _, by unfold maxLen; omega, fun hp => by simp at hp⟩, .inl rfl⟩
  · simp at hcs
    subst hcs
    simp only [if_true] at hzl
    have ht : (zs.take l).length = l := by rw [List.length_take]; omega
    refine ⟨zs.take l, ⟨some x, c, by rw [ht], by omega, hm, fun hp => ?_⟩, .inr ⟨_, _, _, rfl⟩⟩
    rw [ht] at hp
    obtain ⟨b, off, spot⟩ := x
    have hc := hcell 0 (by omega)
    have hspot : spot = none := by simpa [Addr.add] using World.cell?_spot hc
    subst hspot
    have hlt : b < W.heap.size := by
      have := World.block_lt_of_cell? W _ hc
      simpa [Addr.add] using this
    refine ⟨b, off, rfl, hlt, by show ¬ W.heap.size ≤ b; omega, fun i hi => ?_⟩
    rw [ht] at hi
    have := hcell i (by omega)
    rw [addr_add] at this
    rw [this]
    simp [List.getD, hi]
theorem nodes_read {H : Type} {enc : TypeId × Value → H} {W : World} {fuel : Nat} {v : Value} {y : DataW H × List MemPlace} (h : DataW.trod enc Try.prog W 0 (fun _ => true) true fuel 22 [v] = some y) :
    ∃ ns, KNds (New W) W v ns ∧ (∀ i, In64 (ns.getD i (0, 0)).1 ∧ In64 (ns.getD i (0, 0)).2) ∧ SliceOk v := by
  rcases Deep.open_slice_pairs Try.underlying22 Try.underlying40 cellsN rfl rfl cellsI cellsI h with ⟨hcs, _⟩ | ⟨x, l, c, m, fu, V0, V1, D0, D1, P0, P1, hcs, _, hl, hm, hmm, _, hcell⟩
  · simp at hcs
    subst hcs
    exact ⟨[], ⟨none, 0, rfl, Nat.le_refl _, by unfold maxLen; omega, fun hp => by simp at hp⟩, fun i => by simp [In64], .inl rfl⟩
  · simp at hcs
    subst hcs
    simp only [if_true] at hmm
    have each : ∀ i, i < l → ∃ q : Int × Int, V0 i = .int .i64 q.1 ∧ V1 i = .int .i64 q.2 ∧ In64 q.1 ∧ In64 q.2 := by
      intro i hi
      obtain ⟨-, -, g0, g1⟩ := hcell i (by omega)
      obtain ⟨z0, e0, w0⟩ := int_read g0
      obtain ⟨z1, e1, w1⟩ := int_read g1
      exact ⟨(z0, z1), e0, e1, w0, w1⟩
    obtain ⟨q, hq⟩ := Deep.choose_lt each
    have hlen : ((List.range l).map q).length = l := by simp
    have hget : ∀ i, i < l → ((List.range l).map q).getD i (0, 0) = q i := fun i hi => by simp [List.getD, hi]
    refine ⟨(List.range l).map q, ⟨some x, c, by rw [hlen], by omega, hm, fun hp => ?_⟩, fun i => ?_, .inr ⟨_, _, _, rfl⟩⟩
    · rw [hlen] at hp
      obtain ⟨b, off, spot⟩ := x
      have hc := (hcell 0 (by omega)).1
      have hspot : spot = none := by simpa [Addr.add] using World.cell?_spot hc
      subst hspot
      have hlt : b < W.heap.size := by
        have := World.block_lt_of_cell? W _ hc
        simpa [Addr.add] using this
      refine ⟨b, off, rfl, hlt, by show ¬ W.heap.size ≤ b; omega, fun i hi => ?_⟩
      rw [hlen] at hi
      obtain ⟨h0, h1, -, -⟩ := hcell i (by omega)
      obtain ⟨e0, e1, -, -⟩ := hq i hi
      rw [addr_add, e0] at h0
      rw [addr_add, e1] at h1
      rw [hget i hi]
      exact ⟨h0, by rw [Nat.add_assoc]; exact h1⟩
    · by_cases hi : i < l
      · rw [hget i hi]; exact (hq i hi).2.2
      · have : ((List.range l).map q).getD i (0, 0) = (0, 0) := by simp only [List.getD]; rw [List.getElem?_eq_none (by simp; omega)]; rfl
        rw [this]; simp [In64]
/-- one thing that is asked -/
structure AskD where
  kd : Int
  a : Int
  b : Int
  c : Int
  l : List Int
  n : List (Int × Int)
instance : Inhabited AskD := ⟨⟨0, 0, 0, 0, [], []⟩⟩
/-- it lies at these six cells -/
structure AskAt (W : World) (b off : Nat) (d : AskD) (lv nv : Value) : Prop where
  c0 : W.cell? ⟨b, off, none⟩ = some (.int .i64 d.kd)
  c1 : W.cell? ⟨b, off + 1, none⟩ = some (.int .i64 d.a)
  c2 : W.cell? ⟨b, off + 2, none⟩ = some (.int .i64 d.b)
  c3 : W.cell? ⟨b, off + 3, none⟩ = some (.int .i64 d.c)
  c4 : W.cell? ⟨b, off + 4, none⟩ = some lv
  c5 : W.cell? ⟨b, off + 5, none⟩ = some nv
  hl : KInts (New W) W lv d.l
  hn : KNds (New W) W nv d.n
  sl : SliceOk lv
  sn : SliceOk nv
  ha : In64 d.a
  hb : In64 d.b
  hc : In64 d.c
def Asks (W : World) (a : Option Addr) (n cap : Nat) (D : Nat → AskD) : Prop :=
  n ≤ cap ∧ cap ≤ maxLen ∧ (0 < n → ∃ b off, a = some ⟨b, off, none⟩ ∧ b < W.heap.size ∧ ∀ i, i < n → ∃ lv nv, AskAt W b (off + i * 6) (D i) lv nv)
end Go.Proofs.Ytoacedadfjoneaa.aig
