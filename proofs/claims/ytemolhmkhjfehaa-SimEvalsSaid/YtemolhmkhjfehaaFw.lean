/- Words of literals, and a net's words, purely. -/
import Derived.Test.YtemolhmkhjfehaaFnV
import Derived.Test.YtemolhmkhjfehaaFnY
namespace Go.Proofs.Ytemolhmkhjfehaa.agf
open Go.Proofs.Ytemolhmkhjfehaa.fns (goodB litVar litNeg good_yes good_no good_iff var_yes var_no neg_no neg_odd neg_even)

def allOnes : Nat := 18446744073709551615
theorem ones_bit {i : Nat} (h : i < 64) : allOnes.testBit i = true := by
  have e : allOnes = 2 ^ 64 - 1 := by decide
  rw [e, Nat.testBit_two_pow_sub_one]; simpa using h
theorem compl_bit {x i : Nat} (hx : x < 18446744073709551616) (h : i < 64) : (allOnes - x).testBit i = !x.testBit i := by
  have e : allOnes - x = 2 ^ 64 - (x + 1) := by unfold allOnes; omega
  rw [e, Nat.testBit_two_pow_sub_succ (by omega)]; simp [h]
/-- a variable's word, by any words -/
def varW (ws : List Nat) (v : Int) : Nat := if v ≤ 0 ∨ (ws.length : Int) ≤ v then 0 else ws.getD v.toNat 0
/-- a literal's word -/
def litW (ws : List Nat) (l : Int) : Nat :=
  if litVar l < 0 ∨ (litVar l ≠ 0 ∧ (ws.length : Int) ≤ litVar l) then 0 else if litNeg l then allOnes - varW ws (litVar l) else varW ws (litVar l)
theorem varW_lt {ws : List Nat} (h : ∀ z ∈ ws, z < 18446744073709551616) (v : Int) : varW ws v < 18446744073709551616 := by
  unfold varW
  split
  · omega
  · next hn =>
    have hk : v.toNat < ws.length := by omega
    have e : ws.getD v.toNat 0 = ws[v.toNat] := by simp [List.getD, hk]
    rw [e]; exact h _ (List.getElem_mem hk)
theorem litW_lt {ws : List Nat} (h : ∀ z ∈ ws, z < 18446744073709551616) (l : Int) : litW ws l < 18446744073709551616 := by
  have := varW_lt h (litVar l)
  unfold litW allOnes
  split
  · omega
  · split <;> omega
theorem getD_mapBit (ws : List Nat) (i k : Nat) : (ws.map fun z => z.testBit i).getD k false = (ws.getD k 0).testBit i := by
  simp only [List.getD, List.getElem?_map]
  cases ws[k]? with
  | none => simp
  | some x => rfl
theorem litW_bit {ws : List Nat} (h : ∀ z ∈ ws, z < 18446744073709551616) (hn : ws.length ≤ 1001) (l : Int) {i : Nat} (hi : i < 64) :
    (litW ws l).testBit i = litB (ws.map fun z => z.testBit i) l := by
  have hv := varW_lt h (litVar l)
  cases hg : goodB l with
  | false =>
    have hb : ¬ (0 ≤ l ∧ l ≤ 33554433) := fun e => by rw [good_yes e.1 e.2] at hg; cases hg
    have e : litW ws l = 0 := by unfold litW; rw [var_no hg, if_pos (.inl (by omega))]
    rw [e, Nat.zero_testBit]
    exact (lit_out (by omega) (by omega) (by rw [List.length_map]; omega)).symm
  | true =>
    obtain ⟨h0, h1⟩ := good_iff.1 hg
    by_cases hz : l = 0
    · subst hz
      rw [lit_0]
      have e : litW ws 0 = 0 := by
        unfold litW; rw [var_yes hg, neg_even hg (by decide)]; rfl
      rw [e, Nat.zero_testBit]
    · by_cases ho : l = 1
      · subst ho
        rw [lit_1]
        have e : litW ws 1 = allOnes := by
          unfold litW; rw [var_yes hg, neg_odd hg (by decide)]; rfl
        rw [e, ones_bit hi]
      · by_cases hl : (ws.length : Int) ≤ l / 2
        · rw [lit_out hz ho (by rw [List.length_map]; omega)]
          have e : litW ws l = 0 := by unfold litW; rw [var_yes hg, if_pos (.inr ⟨by omega, hl⟩)]
          rw [e, Nat.zero_testBit]
        · rw [lit_in hz ho (by rw [List.length_map]; omega), getD_mapBit]
          have ev : varW ws (l / 2) = ws.getD (l / 2).toNat 0 := by unfold varW; rw [if_neg (by omega)]
          rw [var_yes hg] at hv
          by_cases h2 : l % 2 = 1
          · have e : litW ws l = allOnes - ws.getD (l / 2).toNat 0 := by
              unfold litW; rw [var_yes hg, neg_odd hg h2, if_neg (by omega), if_pos rfl, ev]
            rw [e, compl_bit (by rw [← ev]; exact hv) hi, decide_eq_true h2]
            cases (ws.getD (l / 2).toNat 0).testBit i <;> rfl
          · have e : litW ws l = ws.getD (l / 2).toNat 0 := by
              unfold litW; rw [var_yes hg, neg_even hg (by omega), if_neg (by omega), if_neg (by simp), ev]
            rw [e, decide_eq_false h2]
            cases (ws.getD (l / 2).toNat 0).testBit i <;> rfl
/-- what stands behind plays no part -/
theorem litW_more (ws rs : List Nat) {l : Int} (h0 : 0 ≤ l) (h1 : l / 2 < (ws.length : Int)) (h2 : l ≤ 33554433) : litW (ws ++ rs) l = litW ws l := by
  have hg := good_yes h0 h2
  have e : (ws ++ rs).getD (l / 2).toNat 0 = ws.getD (l / 2).toNat 0 := by
    simp only [List.getD]; rw [List.getElem?_append_left (by omega)]
  have ev : varW (ws ++ rs) (l / 2) = varW ws (l / 2) := by
    unfold varW
    rw [e, List.length_append]
    by_cases hz : l / 2 = 0
    · rw [if_pos (.inl (by omega)), if_pos (.inl (by omega))]
    · rw [if_neg (by omega), if_neg (by omega)]
  have c1 : ¬ (l / 2 < 0 ∨ (l / 2 ≠ 0 ∧ ((ws ++ rs).length : Int) ≤ l / 2)) := by rw [List.length_append]; omega
  have c2 : ¬ (l / 2 < 0 ∨ (l / 2 ≠ 0 ∧ (ws.length : Int) ≤ l / 2)) := by omega
  unfold litW
  rw [var_yes hg, ev, if_neg c1, if_neg c2]
def wStep (zs : List Nat) (s : List Nat × Nat) (x : Nd) : List Nat × Nat :=
  match x with
  | none => (s.1 ++ [zs.getD s.2 0], s.2 + 1)
  | some (a, b) => (s.1 ++ [litW s.1 a &&& litW s.1 b], s.2)
/-- a net's words so far, and how many inputs there were -/
def wst (zs : List Nat) (N : Net) : List Nat × Nat := N.foldl (wStep zs) ([0], 0)
theorem wst_snoc (zs : List Nat) (N : Net) (x : Nd) : wst zs (N ++ [x]) = wStep zs (wst zs N) x := by simp [wst]
theorem wst_step (zs : List Nat) {N : Net} {k : Nat} {x : Nd} (h : N[k]? = some x) : wst zs (N.take (k + 1)) = wStep zs (wst zs (N.take k)) x := by
  rw [take_snoc h, wst_snoc]
theorem st_step' (ins : List Bool) {N : Net} {k : Nat} {x : Nd} (h : N[k]? = some x) : st ins (N.take (k + 1)) = valStep ins (st ins (N.take k)) x := by rw [take_snoc h, st_snoc]
theorem litB_ev {vals : List Bool} (h0 : vals.getD 0 false = false) {a : Nat} (h : a / 2 < vals.length) : litB vals (a : Int) = ev vals a := by
  by_cases hz : a = 0
  · subst hz
    rw [show ((0 : Nat) : Int) = 0 from rfl, lit_0]; unfold ev; rw [Nat.zero_div, h0]; rfl
  · by_cases ho : a = 1
    · subst ho
      rw [show ((1 : Nat) : Int) = 1 from rfl, lit_1]; unfold ev; rw [show 1 / 2 = 0 from rfl, h0]; rfl
    · rw [lit_in (by omega) (by omega) (by omega)]
      unfold ev
      rw [show ((a : Int) / 2).toNat = a / 2 by omega]
      congr 1
      by_cases h2 : a % 2 = 1
      · rw [decide_eq_true (by omega), h2]; rfl
      · rw [decide_eq_false (by omega), show a % 2 = 0 by omega]; rfl
theorem wst_all {zs : List Nat} {N : Net} (hz : ∀ z ∈ zs, z < 18446744073709551616) (hN : Good N) (hn : N.length ≤ 1000) : ∀ k, k ≤ N.length →
    (wst zs (N.take k)).1.length = k + 1 ∧ (∀ z ∈ (wst zs (N.take k)).1, z < 18446744073709551616) ∧ ∀ i, i < 64 → ((wst zs (N.take k)).1.map fun z => z.testBit i) = (st (zs.map fun z => z.testBit i) (N.take k)).1 ∧ (wst zs (N.take k)).2 = (st (zs.map fun z => z.testBit i) (N.take k)).2 := by
  intro k
  induction k with
  | zero =>
    intro _
    refine ⟨rfl, fun z h => ?_, fun i _ => ⟨?_, rfl⟩⟩
    · have : z = 0 := by simpa [wst] using h
      omega
    · show [Nat.testBit 0 i] = [false]
      rw [Nat.zero_testBit]
  | succ k ih =>
    intro hk
    obtain ⟨h1, h2, h3⟩ := ih (by omega)
    obtain ⟨x, hx⟩ : ∃ x, N[k]? = some x := ⟨_, List.getElem?_eq_getElem (by omega)⟩
    rw [wst_step zs hx]
    have hs := fun i => st_step' (zs.map fun z => z.testBit i) hx
    cases x with
    | none =>
      refine ⟨by simp [wStep, h1], fun z h => ?_, fun i hi => ?_⟩
      · simp only [wStep, List.mem_append, List.mem_singleton] at h
        rcases h with h | rfl
        · exact h2 z h
        · by_cases hl : (wst zs (N.take k)).2 < zs.length
          · have e : zs.getD (wst zs (N.take k)).2 0 = zs[(wst zs (N.take k)).2] := by simp [List.getD, hl]
            rw [e]; exact hz _ (List.getElem_mem hl)
          · have e : zs.getD (wst zs (N.take k)).2 0 = 0 := by simp only [List.getD]; rw [List.getElem?_eq_none (by omega)]; rfl
            rw [e]; omega
      · obtain ⟨e1, e2⟩ := h3 i hi
        rw [hs i]
        simp only [wStep, valStep, List.map_append, List.map_cons, List.map_nil]
        rw [e1, e2, getD_mapBit]; exact ⟨rfl, rfl⟩
    | some g =>
      obtain ⟨a, b⟩ := g
      obtain ⟨ga, gb⟩ := hN k a b hx
      refine ⟨by simp [wStep, h1], fun z h => ?_, fun i hi => ?_⟩
      · simp only [wStep, List.mem_append, List.mem_singleton] at h
        rcases h with h | rfl
        · exact h2 z h
        · have e1 := litW_lt h2 (a : Int)
          have e2 : litW (wst zs (N.take k)).1 (a : Int) &&& litW (wst zs (N.take k)).1 (b : Int) ≤ litW (wst zs (N.take k)).1 (a : Int) := Nat.and_le_left
          omega
      · obtain ⟨e1, e2⟩ := h3 i hi
        have hl : (st (zs.map fun z => z.testBit i) (N.take k)).1.length = k + 1 := by rw [← e1, List.length_map, h1]
        have h0 := st_zero (zs.map fun z => z.testBit i) (N.take k)
        rw [hs i]
        simp only [wStep, valStep, List.map_append, List.map_cons, List.map_nil]
        rw [Nat.testBit_and, litW_bit h2 (by omega) _ hi, litW_bit h2 (by omega) _ hi, e1, e2, litB_ev h0 (by omega), litB_ev h0 (by omega)]
        exact ⟨rfl, rfl⟩
/-- the words, whole: the bits are the values by the inputs' bits -/
theorem wst_bits {zs : List Nat} {N : Net} (hz : ∀ z ∈ zs, z < 18446744073709551616) (hN : Good N) (hn : N.length ≤ 1000) :
    (wst zs N).1.length = N.length + 1 ∧ (∀ z ∈ (wst zs N).1, z < 18446744073709551616) ∧ ∀ i, i < 64 → ((wst zs N).1.map fun z => z.testBit i) = (st (zs.map fun z => z.testBit i) N).1 := by
  have h := wst_all hz hN hn N.length (Nat.le_refl _)
  rw [List.take_length] at h
  exact ⟨h.1, h.2.1, fun i hi => (h.2.2 i hi).1⟩
/-- one list, packed: its lane is it -/
theorem pack_one (bs : List Bool) : ((packL [bs]).map fun z => z.testBit 0) = bs := by
  have h := pack_back (LL := [bs]) (j := 0) (by unfold packI; simp)
  rw [show (((0 : Nat) : Int)) = ((0 : Nat) : Int) from rfl, lane_yes _ (by omega)] at h
  have hl : ((packL [bs]).map fun z => z.testBit 0).length = bs.length := by
    rw [List.length_map, packL_len]; unfold packN packI; simp
  have h2 := h.2
  rw [show ([bs] : List (List Bool)).getD 0 [] = bs from rfl, ← hl, List.take_length] at h2
  exact h2
end Go.Proofs.Ytemolhmkhjfehaa.agf
