/- Arguments of the statements on stores, opened: nodes, and what is asked. -/
import Derived.Test.YtfdihlicmmcjjaaA5
import Derived.Deep.SlicePairs
import Derived.ChangeSame
import Derived.ProofKit
import Derived.OpenShut
import Derived.ChangeOld
namespace Go.Proofs.Ytfdihlicmmcjjaa.aig
open Go.ChangeShapes Go.WideShapes Go.ChangeAt Go.RowKit
open Go.Proofs.Ytfdihlicmmcjjaa.mem Go.Proofs.Ytfdihlicmmcjjaa.agf

/-- the blocks that are not the caller's -/
abbrev New (W : World) : Nat → Prop := fun k => W.heap.size ≤ k
theorem cellsI : Try.prog.cellsOf 3 = 1 := by kernel_rfl
theorem cellsLI : Try.prog.cellsOf 27 = 1 := by kernel_rfl
theorem cellsLN : Try.prog.cellsOf 22 = 1 := by kernel_rfl
theorem cellsN : Try.prog.cellsOf 54 = 2 := by kernel_rfl
theorem int_read {H : Type} {enc : TypeId × Value → H} {W : World} {fuel : Nat} {v : Value} {y : DataW H × List MemPlace} (h : DataW.trod enc Try.prog W 0 (fun _ => true) true fuel 3 [v] = some y) : ∃ z, v = .int .i64 z ∧ In64 z := by
  obtain ⟨z, e, -, wz⟩ := DataW.trod_int Try.underlying3 h
  have hb := bounds_i64 wz
  exact ⟨z, by simpa using e, hb.1, hb.2⟩
/-- a slice is nil, or it has an address -/
def SliceOk (v : Value) : Prop := v = .slice none 0 0 ∨ ∃ x n c, v = .slice (some x) n c
theorem ints_read {H : Type} {enc : TypeId × Value → H} {W : World} {fuel : Nat} {v : Value} {y : DataW H × List MemPlace} (h : DataW.trod enc Try.prog W 0 (fun _ => true) true fuel 27 [v] = some y) :
    ∃ zs, KInts (New W) W v zs ∧ SliceOk v := by
  rcases open_ints Try.underlying27 Try.underlying3 cellsI h with ⟨hcs, _⟩ | ⟨x, l, c, zs, hcs, _, hl, hm, hzl, _, hcell, _⟩
  · simp at hcs
    subst hcs
    exact ⟨[], ⟨none, 0, rfl, Nat.le_refl _, by unfold maxLen; omega, fun hp => by simp at hp⟩, .inl rfl⟩
  · simp at hcs
    subst hcs
    simp only [if_true] at hzl
    have ht : (zs.take l).length = l := by rw [List.length_take]; omega
    refine ⟨zs.take l, ⟨some x, c, by rw [ht], by omega, hm, fun hp => ?_⟩, .inr ⟨_, _, _, rfl⟩⟩
    rw [ht] at hp
    obtain ⟨b, off, spot⟩ := x
    have hc := hcell 0 (by omega)
    have hspot : spot = none := by simpa [Addr.add] using World.cell?_spot hc
    subst hspot
    have hlt : b < W.heap.size := by
      have := World.block_lt_of_cell? W _ hc
      simpa [Addr.add] using this
    refine ⟨b, off, rfl, hlt, by show ¬ W.heap.size ≤ b; omega, fun i hi => ?_⟩
    rw [ht] at hi
    have := hcell i (by omega)
    rw [addr_add] at this
    rw [this]
    simp [List.getD, hi]
theorem nodes_read {H : Type} {enc : TypeId × Value → H} {W : World} {fuel : Nat} {v : Value} {y : DataW H × List MemPlace} (h : DataW.trod enc Try.prog W 0 (fun _ => true) true fuel 22 [v] = some y) :
    ∃ ns, KNds (New W) W v ns ∧ (∀ i, In64 (ns.getD i (0, 0)).1 ∧ In64 (ns.getD i (0, 0)).2) ∧ SliceOk v := by
  rcases Deep.open_slice_pairs Try.underlying22 Try.underlying54 cellsN rfl rfl cellsI cellsI h with ⟨hcs, _⟩ | ⟨x, l, c, m, fu, V0, V1, D0, D1, P0, P1, hcs, _, hl, hm, hmm, _, hcell⟩
  · simp at hcs
    subst hcs
    exact ⟨[], ⟨none, 0, rfl, Nat.le_refl _, by unfold maxLen; omega, fun hp => by simp at hp⟩, fun i => by simp [In64], .inl rfl⟩
  · simp at hcs
    subst hcs
    simp only [if_true] at hmm
    have each : ∀ i, i < l → ∃ q : Int × Int, V0 i = .int .i64 q.1 ∧ V1 i = .int .i64 q.2 ∧ In64 q.1 ∧ In64 q.2 := by
      intro i hi
      obtain ⟨-, -, g0, g1⟩ := hcell i (by omega)
      obtain ⟨z0, e0, w0⟩ := int_read g0
      obtain ⟨z1, e1, w1⟩ := int_read g1
      exact ⟨(z0, z1), e0, e1, w0, w1⟩
    obtain ⟨q, hq⟩ := Deep.choose_lt each
    have hlen : ((List.range l).map q).length = l := by simp
    have hget : ∀ i, i < l → ((List.range l).map q).getD i (0, 0) = q i := fun i hi => by simp [List.getD, hi]
    refine ⟨(List.range l).map q, ⟨some x, c, by rw [hlen], by omega, hm, fun hp => ?_⟩, fun i => ?_, .inr ⟨_, _, _, rfl⟩⟩
    · rw [hlen] at hp
      obtain ⟨b, off, spot⟩ := x
      have hc := (hcell 0 (by omega)).1
      have hspot : spot = none := by simpa [Addr.add] using World.cell?_spot hc
      subst hspot
      have hlt : b < W.heap.size := by
        have := World.block_lt_of_cell? W _ hc
        simpa [Addr.add] using this
      refine ⟨b, off, rfl, hlt, by show ¬ W.heap.size ≤ b; omega, fun i hi => ?_⟩
      rw [hlen] at hi
      obtain ⟨h0, h1, -, -⟩ := hcell i (by omega)
      obtain ⟨e0, e1, -, -⟩ := hq i hi
      rw [addr_add, e0] at h0
      rw [addr_add, e1] at h1
      rw [hget i hi]
      exact ⟨h0, by rw [Nat.add_assoc]; exact h1⟩
    · by_cases hi : i < l
      · rw [hget i hi]; exact (hq i hi).2.2
      · have : ((List.range l).map q).getD i (0, 0) = (0, 0) := by simp only [List.getD]; rw [List.getElem?_eq_none (by simp; omega)]; rfl
        rw [this]; simp [In64]
/-- one thing that is asked -/
structure AskD where
  kd : Int
  a : Int
  b : Int
  c : Int
  l : List Int
  n : List (Int × Int)
instance : Inhabited AskD := ⟨⟨0, 0, 0, 0, [], []⟩⟩
/-- it lies at these six cells -/
structure AskAt (W : World) (b off : Nat) (d : AskD) (lv nv : Value) : Prop where
  c0 : W.cell? ⟨b, off, none⟩ = some (.int .i64 d.kd)
  c1 : W.cell? ⟨b, off + 1, none⟩ = some (.int .i64 d.a)
  c2 : W.cell? ⟨b, off + 2, none⟩ = some (.int .i64 d.b)
  c3 : W.cell? ⟨b, off + 3, none⟩ = some (.int .i64 d.c)
  c4 : W.cell? ⟨b, off + 4, none⟩ = some lv
  c5 : W.cell? ⟨b, off + 5, none⟩ = some nv
  hl : KInts (New W) W lv d.l
  hn : KNds (New W) W nv d.n
  sl : SliceOk lv
  sn : SliceOk nv
  ha : In64 d.a
  hb : In64 d.b
  hc : In64 d.c
def Asks (W : World) (a : Option Addr) (n cap : Nat) (D : Nat → AskD) : Prop :=
  n ≤ cap ∧ cap ≤ maxLen ∧ (0 < n → ∃ b off, a = some ⟨b, off, none⟩ ∧ b < W.heap.size ∧ ∀ i, i < n → ∃ lv nv, AskAt W b (off + i * 6) (D i) lv nv)
theorem cellsA : Try.prog.cellsOf 39 = 6 := by kernel_rfl
theorem asks_open {H : Type} {enc : TypeId × Value → H} {W : World} {a : Option Addr} {n cap : Nat} {d : DataW H} {p : List MemPlace}
    (h : DataW.Trod enc Try.prog W 0 (fun _ => true) true 32 (.slice a n cap) d p) : ∃ D, Asks W a n cap D ∧ (a = none → n = 0 ∧ cap = 0) := by
  obtain ⟨fuel, hf⟩ := h
  rcases Deep.open_slice Try.underlying32 hf with ⟨hcs, _⟩ | ⟨x, l, c, m, fu, D, Pl, hcs, _, hl, hm, hmm, _, hx⟩
  · simp [Value.cells] at hcs
    obtain ⟨rfl, rfl, rfl⟩ := hcs
    exact ⟨fun _ => ⟨0, 0, 0, 0, [], []⟩, ⟨Nat.le_refl _, by unfold maxLen; omega, fun h => by omega⟩, fun _ => ⟨rfl, rfl⟩⟩
  · simp [Value.cells] at hcs
    obtain ⟨rfl, rfl, rfl⟩ := hcs
    simp only [if_true] at hmm
    by_cases h0 : 0 < n
    · obtain ⟨b, off, spot⟩ := x
      have h00 : spot = none ∧ b < W.heap.size := by
        obtain ⟨cs', h1, -⟩ := hx 0 (by omega)
        rw [cellsA] at h1
        obtain ⟨_, hlen, hcell⟩ := World.cells?_some h1
        have e0 := (hcell 0 (by omega)).trans (List.getElem?_eq_getElem (by omega))
        have hspot : spot = none := by simpa [Addr.add] using World.cell?_spot e0
        subst hspot
        have := World.block_lt_of_cell? W _ e0
        exact ⟨rfl, by simpa [Addr.add] using this⟩
      obtain ⟨rfl, hlt⟩ := h00
      have each : ∀ i, i < n → ∃ q : AskD × Value × Value, AskAt W b (off + i * 6) q.1 q.2.1 q.2.2 := by
        intro i hi
        obtain ⟨cs', h1, h2⟩ := hx i (by omega)
        rw [cellsA] at h1
        obtain ⟨_, hlen, hcell⟩ := World.cells?_some h1
        obtain ⟨xs, k, hk, hxy, _, hxl, hfl⟩ := DataW.trod_struct Try.underlying39 h2
        match xs, hxl, cs', hlen with
        | [y0, y1, y2, y3, y4, y5], _, [v0, v1, v2, v3, v4, v5], _ =>
          have g0 := hfl 0 _ rfl
          have g1 := hfl 1 _ rfl
          have g2 := hfl 2 _ rfl
          have g3 := hfl 3 _ rfl
          have g4 := hfl 4 _ rfl
          have g5 := hfl 5 _ rfl
          simp [cellsI] at g0 g1 g2 g3
          simp [cellsLI] at g4
          simp [cellsLN] at g5
          have e0 := hcell 0 (by omega)
          have e1 := hcell 1 (by omega)
          have e2 := hcell 2 (by omega)
          have e3 := hcell 3 (by omega)
          have e4 := hcell 4 (by omega)
          have e5 := hcell 5 (by omega)
          rw [addr_add, addr_add] at e0 e1 e2 e3 e4 e5
          obtain ⟨z0, rfl, w0⟩ := int_read g0
          obtain ⟨z1, rfl, w1⟩ := int_read g1
          obtain ⟨z2, rfl, w2⟩ := int_read g2
          obtain ⟨z3, rfl, w3⟩ := int_read g3
          obtain ⟨zs, k4, s4⟩ := ints_read g4
          obtain ⟨ns, k5, -, s5⟩ := nodes_read g5
          exact ⟨(⟨z0, z1, z2, z3, zs, ns⟩, v4, v5), ⟨by simpa using e0, by simpa using e1, by simpa using e2, by simpa using e3, by simpa using e4, by simpa using e5, k4, k5, s4, s5, w1, w2, w3⟩⟩
      obtain ⟨q, hq⟩ := Deep.choose_lt each
      exact ⟨fun i => (q i).1, ⟨hl, hm, fun _ => ⟨b, off, rfl, hlt, fun i hi => ⟨_, _, hq i hi⟩⟩⟩, fun h => by cases h⟩
    · exact ⟨fun _ => ⟨0, 0, 0, 0, [], []⟩, ⟨hl, hm, fun h => absurd h h0⟩, fun h => by cases h⟩
end Go.Proofs.Ytfdihlicmmcjjaa.aig
