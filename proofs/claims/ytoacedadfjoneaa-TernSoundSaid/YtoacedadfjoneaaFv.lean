/- A net's words of values that may be open, purely; a gate's value by its literals'. -/
import Derived.Test.YtoacedadfjoneaaFt
import Derived.Test.YtoacedadfjoneaaU3
namespace Go.Proofs.Ytoacedadfjoneaa.aig
open Go.Proofs.Ytoacedadfjoneaa.agf Go.Proofs.Ytoacedadfjoneaa.fns
open Go.Proofs.Ytoacedadfjoneaa.tri (tLit tKnown)

theorem tIn_two (ins : List Int) (k : Nat) : tIn ins k = 0 ∨ tIn ins k = 1 ∨ tIn ins k = 2 := by
  unfold tIn; split
  · exact tv_cases _
  · exact .inr (.inr rfl)
theorem tAnd_two (a b : Int) : tAnd a b = 0 ∨ tAnd a b = 1 ∨ tAnd a b = 2 := by
  unfold tAnd; split
  · exact .inl rfl
  · split
    · exact .inr (.inl rfl)
    · exact .inr (.inr rfl)
theorem tSt_more (ins : List Int) (N : Net) {k : Nat} (hk : k < N.length) : ∃ r, (r = 0 ∨ r = 1 ∨ r = 2) ∧ (tSt ins (N.take (k + 1))).1 = (tSt ins (N.take k)).1 ++ [r] := by
  have e := List.getElem?_eq_getElem hk
  rw [tSt_step ins e]
  cases h : N[k] with
  | none => exact ⟨_, tIn_two _ _, rfl⟩
  | some g => obtain ⟨a, b⟩ := g; exact ⟨_, tAnd_two _ _, rfl⟩
/-- values are what they were among fewer nodes -/
theorem tSt_pre (ins : List Int) (N : Net) : ∀ m k, k ≤ m → m ≤ N.length → ∀ j, j ≤ k → (tSt ins (N.take m)).1.getD j 0 = (tSt ins (N.take k)).1.getD j 0 := by
  intro m
  induction m with
  | zero => intro k h1 _ j _; obtain rfl : k = 0 := by omega
            rfl
  | succ m ih =>
    intro k h1 h2 j hj
    by_cases e : k = m + 1
    · rw [e]
    · obtain ⟨r, -, hr⟩ := tSt_more ins N (k := m) (by omega)
      rw [hr, snocI_l (by rw [(tSt_ok ins N m (by omega)).1]; omega)]
      exact ih k (by omega) (by omega) j hj
theorem tSt_at (ins : List Int) (N : Net) {k j : Nat} (hk : k ≤ N.length) (hj : j ≤ k) : (tSt ins N).1.getD j 0 = (tSt ins (N.take k)).1.getD j 0 := by
  have := tSt_pre ins N N.length k hk (Nat.le_refl _) j hj
  rwa [List.take_length] at this
theorem tSt_zero (ins : List Int) (N : Net) : (tSt ins N).1.getD 0 0 = 0 := by
  rw [tSt_at ins N (Nat.zero_le _) (Nat.le_refl 0)]; rfl
theorem tSt_vals (ins : List Int) (N : Net) (j : Nat) : (tSt ins N).1.getD j 0 = 0 ∨ (tSt ins N).1.getD j 0 = 1 ∨ (tSt ins N).1.getD j 0 = 2 := by
  by_cases hj : j ≤ N.length
  · cases j with
    | zero => exact .inl (tSt_zero _ _)
    | succ j =>
      obtain ⟨r, hr, e⟩ := tSt_more ins N (k := j) (by omega)
      have hl := (tSt_ok ins N j (by omega)).1
      rw [tSt_at ins N hj (Nat.le_refl _), e]
      have := snocI_r (tSt ins (N.take j)).1 r
      rw [hl] at this
      rw [this]; exact hr
  · left
    rw [getD_none (by rw [tSt_len]; omega)]
/-- a literal's value hangs on its variable's alone -/
theorem tLit_same {T T' : List Int} (hl : T.length = T'.length) {a : Nat} (ha : a ≤ 33554433) (h : T.getD (a / 2) 0 = T'.getD (a / 2) 0) : tLit T (a : Int) = tLit T' (a : Int) := by
  have hg := good_yes (l := (a : Int)) (by omega) (by omega)
  have K : tKnown T ((a : Int) / 2) = tKnown T' ((a : Int) / 2) := by
    unfold tKnown
    rw [hl, show ((a : Int) / 2).toNat = a / 2 by omega, h]
  unfold tLit
  rw [var_yes hg, K]
theorem tLit_pre {T T' : List Int} {a : Nat} (ha : a ≤ 33554433) (h1 : a / 2 < T.length) (h2 : a / 2 < T'.length) (h : T.getD (a / 2) 0 = T'.getD (a / 2) 0) : tLit T (a : Int) = tLit T' (a : Int) := by
  have hg := good_yes (l := (a : Int)) (by omega) (by omega)
  have K : tKnown T ((a : Int) / 2) = tKnown T' ((a : Int) / 2) := by
    unfold tKnown
    by_cases e : (a : Int) / 2 = 0
    · rw [if_pos e, if_pos e]
    · rw [if_neg e, if_neg e, if_pos ⟨by omega, by omega⟩, if_pos ⟨by omega, by omega⟩, show ((a : Int) / 2).toNat = a / 2 by omega, h]
  unfold tLit
  rw [var_yes hg, K]
theorem tSt_gate (ins : List Int) {N : Net} (hN : agf.Good N) (hl : N.length ≤ 1000) {k a b : Nat} (h : N[k]? = some (some (a, b))) :
    (tSt ins N).1.getD (k + 1) 0 = tAnd (tLit (tSt ins N).1 (a : Int)) (tLit (tSt ins N).1 (b : Int)) := by
  have hk := (List.getElem?_eq_some_iff.1 h).1
  obtain ⟨g1, g2⟩ := hN k a b h
  have l1 := (tSt_ok ins N k (by omega)).1
  have l2 := tSt_len ins N
  have P : ∀ x : Nat, x ≤ 2 * k + 1 → tLit (tSt ins N).1 (x : Int) = tLit (tSt ins (N.take k)).1 (x : Int) := fun x hx =>
    tLit_pre (by omega) (by omega) (by omega) (tSt_at ins N (by omega) (by omega))
  rw [P a g1, P b g2, tSt_at ins N (show k + 1 ≤ N.length by omega) (Nat.le_refl _), tSt_step ins h]
  have := snocI_r (tSt ins (N.take k)).1 (tAnd (tLit (tSt ins (N.take k)).1 (a : Int)) (tLit (tSt ins (N.take k)).1 (b : Int)))
  rw [l1] at this
  exact this
theorem tSt_input (ins : List Int) {N : Net} {k : Nat} (h : N[k]? = some none) : (tSt ins N).1.getD (k + 1) 0 = tIn ins (cntI N k) := by
  have hk := (List.getElem?_eq_some_iff.1 h).1
  obtain ⟨l1, l2⟩ := tSt_ok ins N k (by omega)
  rw [tSt_at ins N (show k + 1 ≤ N.length by omega) (Nat.le_refl _), tSt_step ins h]
  have := snocI_r (tSt ins (N.take k)).1 (tIn ins (tSt ins (N.take k)).2)
  rw [l1] at this
  show ((tSt ins (N.take k)).1 ++ [tIn ins (tSt ins (N.take k)).2]).getD (k + 1) 0 = _
  rw [this, l2]
/-- values hang on those of as many inputs as there are -/
theorem tSt_congr {a b : List Int} {N : Net} (h : ∀ k, k < cntI N N.length → tIn a k = tIn b k) : ∀ k, k ≤ N.length → tSt a (N.take k) = tSt b (N.take k) := by
  intro k
  induction k with
  | zero => intro _; rfl
  | succ k ih =>
    intro hk
    have e := List.getElem?_eq_getElem (show k < N.length by omega)
    have c1 := (tSt_ok a N k (by omega)).2
    rw [tSt_step a e, tSt_step b e, ← ih (by omega)]
    cases hx : N[k] with
    | none =>
      unfold tStep
      simp only
      rw [h]
      rw [c1]
      have h1 := cntI_step N k
      rw [e, hx, if_pos rfl] at h1
      have := cnt_mono N (show k + 1 ≤ N.length by omega)
      omega
    | some g => rfl
theorem tSt_same {a b : List Int} {N : Net} (h : ∀ k, k < cntI N N.length → tIn a k = tIn b k) : tSt a N = tSt b N := by
  have := tSt_congr h N.length (Nat.le_refl _)
  rwa [List.take_length] at this
theorem cnt_le (N : Net) : ∀ k, cntI N k ≤ k := by
  intro k
  induction k with
  | zero => exact Nat.le_refl _
  | succ k ih => rw [cntI_step]; split <;> omega

/-! ## Words -/
def wFit (p : Int × Int) : Prop := fns.In64 p.1 ∧ fns.In64 p.2
def wAnd (p q : Int × Int) : Int × Int := (aO p.1 p.2 q.1 q.2, aZ p.1 p.2 q.1 q.2)
def wNot (p : Int × Int) : Int × Int := (cO p.2 p.1, cO p.1 p.2)
def wLit (ws : List (Int × Int)) (a : Nat) : Int × Int := if a % 2 = 1 then wNot (ws.getD (a / 2) (0, 0)) else ws.getD (a / 2) (0, 0)
def wIn (ins : List (Int × Int)) (k : Nat) : Int × Int := if k < ins.length then wAnd (ins.getD k (0, 0)) (ins.getD k (0, 0)) else (0, 0)
def wStep (ins : List (Int × Int)) (s : List (Int × Int) × Nat) (x : Nd) : List (Int × Int) × Nat := match x with
  | none => (s.1 ++ [wIn ins s.2], s.2 + 1)
  | some (a, b) => (s.1 ++ [wAnd (wLit s.1 a) (wLit s.1 b)], s.2)
def wSt (ins : List (Int × Int)) (N : Net) : List (Int × Int) × Nat := N.foldl (wStep ins) ([(allO 0, allZ 0)], 0)
theorem wSt_step (ins : List (Int × Int)) {N : Net} {k : Nat} {x : Nd} (h : N[k]? = some x) : wSt ins (N.take (k + 1)) = wStep ins (wSt ins (N.take k)) x := by
  rw [take_snoc h]; simp [wSt]
theorem wFit_zero : wFit (0, 0) := ⟨by unfold fns.In64; decide, by unfold fns.In64; decide⟩
theorem ap_and {p q : Int × Int} (hp : wFit p) (hq : wFit q) : bits .and .u64 (wAnd p q).1 (wAnd p q).2 = 0 := apart_and hp.1 hp.2 hq.1 hq.2
theorem wFit_and {p q : Int × Int} (hp : wFit p) (hq : wFit q) : wFit (wAnd p q) := ⟨in_aO hp.1 hp.2 hq.1 hq.2, in_aZ hp.1 hp.2 hq.1 hq.2⟩
theorem wFit_not {p : Int × Int} (hp : wFit p) : wFit (wNot p) := ⟨in_cO hp.2 hp.1, in_cO hp.1 hp.2⟩
def apB (p : Int × Int) : Prop := bits .and .u64 p.1 p.2 = 0
theorem ap_all (z : Int) : apB (allO z, allZ z) := apart_all z
theorem ap_zero : apB (0, 0) := ap_all 2
/-- the values of one lane -/
def laneW (ws : List (Int × Int)) (i : Nat) : List Int := ws.map fun p => tAt p.1 p.2 (i : Int)
theorem laneW_at {ws : List (Int × Int)} {i k : Nat} (h : k < ws.length) : (laneW ws i).getD k 0 = tAt (ws.getD k (0, 0)).1 (ws.getD k (0, 0)).2 (i : Int) := by
  unfold laneW; simp [List.getD, h]
theorem and_self_two {t : Int} (h : t = 0 ∨ t = 1 ∨ t = 2) : tAnd t t = t := by rcases h with rfl | rfl | rfl <;> rfl
theorem tv_two {t : Int} (h : t = 0 ∨ t = 1 ∨ t = 2) : tv t = t := by rcases h with rfl | rfl | rfl <;> rfl
theorem wIn_lane {ins : List (Int × Int)} (hf : ∀ v, wFit (ins.getD v (0, 0))) (k i : Nat) (hi : i < 64) : tAt (wIn ins k).1 (wIn ins k).2 (i : Int) = tIn (laneW ins i) k := by
  unfold wIn tIn
  have e : (laneW ins i).length = ins.length := by simp [laneW]
  rw [e]
  split
  · rename_i h
    rw [laneW_at h]
    unfold wAnd
    rw [at_and (hf k).1 (hf k).2 (hf k).1 (hf k).2, and_self_two (at_cases _ _ _), tv_two (at_cases _ _ _)]
  · rw [at_in (by omega) (by omega)]; simp [bitB, tBit]
theorem wFit_lit {ws : List (Int × Int)} (hf : ∀ v, wFit (ws.getD v (0, 0))) (a : Nat) : wFit (wLit ws a) := by
  unfold wLit; split
  · exact wFit_not (hf _)
  · exact hf _
theorem wLit_lane {ws : List (Int × Int)} (hf : ∀ v, wFit (ws.getD v (0, 0))) {i a : Nat} (h0 : (laneW ws i).getD 0 0 = 0) (ha : a / 2 < ws.length) (hs : a ≤ 33554433) :
    tAt (wLit ws a).1 (wLit ws a).2 (i : Int) = tLit (laneW ws i) (a : Int) := by
  have hg := good_yes (l := (a : Int)) (by omega) (by omega)
  have e : (laneW ws i).length = ws.length := by simp [laneW]
  have K : tAt (ws.getD (a / 2) (0, 0)).1 (ws.getD (a / 2) (0, 0)).2 (i : Int) = tKnown (laneW ws i) ((a : Int) / 2) := by
    rw [← laneW_at ha]
    unfold tKnown
    by_cases ez : (a : Int) / 2 = 0
    · rw [if_pos ez, show a / 2 = 0 by omega, h0]
    · rw [if_neg ez, if_pos ⟨by omega, by omega⟩, show ((a : Int) / 2).toNat = a / 2 by omega, laneW_at ha, tv_two (at_cases _ _ _)]
  unfold wLit tLit
  rw [var_yes hg]
  by_cases o : a % 2 = 1
  · rw [if_pos o, neg_odd hg (by omega), if_pos rfl, ← K]
    exact at_not (hf _).1 (hf _).2 _
  · rw [if_neg o, neg_even hg (by omega), if_neg (by simp), K]
structure WOk (ins : List (Int × Int)) (N : Net) (k : Nat) : Prop where
  len : (wSt ins (N.take k)).1.length = k + 1
  cnt : (wSt ins (N.take k)).2 = cntI N k
  fit : ∀ v, wFit ((wSt ins (N.take k)).1.getD v (0, 0))
  ap : ∀ v, apB ((wSt ins (N.take k)).1.getD v (0, 0))
  is_ : ∀ i : Nat, i < 64 → laneW (wSt ins (N.take k)).1 i = (tSt (laneW ins i) (N.take k)).1
theorem snocP {α : Type} {l : List α} {x d : α} {P : α → Prop} (h : ∀ v, P (l.getD v d)) (hx : P x) (hd : P d) (v : Nat) : P ((l ++ [x]).getD v d) := by
  by_cases h1 : v < l.length
  · rw [show (l ++ [x]).getD v d = l.getD v d by simp [List.getD, List.getElem?_append_left h1]]; exact h v
  · by_cases h2 : v = l.length
    · rw [h2, show (l ++ [x]).getD l.length d = x by simp [List.getD]]; exact hx
    · rw [getD_none (by simp; omega)]; exact hd
theorem words_ok {ins : List (Int × Int)} {N : Net} (hN : agf.Good N) (hl : N.length ≤ 1000) (hf : ∀ v, wFit (ins.getD v (0, 0))) : ∀ k, k ≤ N.length → WOk ins N k := by
  intro k
  induction k with
  | zero =>
    intro _
    refine ⟨rfl, rfl, fun v => ?_, fun v => ?_, fun i hi => ?_⟩
    · exact snocP (l := []) (x := (allO 0, allZ 0)) (d := (0, 0)) (P := wFit) (fun v => by simpa [List.getD] using wFit_zero) ⟨in_allO 0, in_allZ 0⟩ wFit_zero v
    · exact snocP (l := []) (x := (allO 0, allZ 0)) (d := (0, 0)) (P := apB) (fun v => by simpa [List.getD] using ap_zero) (ap_all 0) ap_zero v
    · show [tAt (allO 0) (allZ 0) (i : Int)] = [0]
      rw [at_all]; unfold tWant; rw [if_pos ⟨.inl rfl, by omega, by omega⟩]
  | succ k ih =>
    intro hk
    obtain ⟨l1, c1, f1, a1, i1⟩ := ih (by omega)
    have e := List.getElem?_eq_getElem (show k < N.length by omega)
    have hz : ∀ i : Nat, i < 64 → (laneW (wSt ins (N.take k)).1 i).getD 0 0 = 0 := fun i hi => by rw [i1 i hi]; exact tSt_zero _ _
    have c2 : ∀ i : Nat, (tSt (laneW ins i) (N.take k)).2 = cntI N k := fun i => (tSt_ok _ N k (by omega)).2
    cases h : N[k] with
    | none =>
      rw [h] at e
      have hwi : wFit (wIn ins (cntI N k)) := by unfold wIn; split; exact wFit_and (hf _) (hf _); exact wFit_zero
      have hap : apB (wIn ins (cntI N k)) := by unfold wIn; split; exact ap_and (hf _) (hf _); exact ap_zero
      have hw : wSt ins (N.take (k + 1)) = ((wSt ins (N.take k)).1 ++ [wIn ins (cntI N k)], cntI N k + 1) := by rw [wSt_step ins e]; unfold wStep; simp only; rw [c1]
      refine ⟨by rw [hw]; simp [l1], by rw [hw, cntI_step, e, if_pos rfl], fun v => ?_, fun v => ?_, fun i hi => ?_⟩
      · rw [hw]; exact snocP f1 hwi wFit_zero v
      · rw [hw]; exact snocP a1 hap ap_zero v
      · rw [hw, tSt_step _ e]
        show laneW ((wSt ins (N.take k)).1 ++ [wIn ins (cntI N k)]) i = (tSt (laneW ins i) (N.take k)).1 ++ [tIn (laneW ins i) (tSt (laneW ins i) (N.take k)).2]
        rw [c2, ← i1 i hi, ← wIn_lane hf _ i hi]
        simp [laneW]
    | some g =>
      obtain ⟨a, b⟩ := g
      rw [h] at e
      obtain ⟨g1, g2⟩ := hN k a b e
      have fa := wFit_lit f1 a
      have fb := wFit_lit f1 b
      have hw : wSt ins (N.take (k + 1)) = ((wSt ins (N.take k)).1 ++ [wAnd (wLit (wSt ins (N.take k)).1 a) (wLit (wSt ins (N.take k)).1 b)], cntI N k) := by rw [wSt_step ins e]; unfold wStep; simp only; rw [c1]
      refine ⟨by rw [hw]; simp [l1], by rw [hw, cntI_step, e, if_neg (by simp)]; rfl, fun v => ?_, fun v => ?_, fun i hi => ?_⟩
      · rw [hw]; exact snocP f1 (wFit_and fa fb) wFit_zero v
      · rw [hw]; exact snocP a1 (ap_and fa fb) ap_zero v
      · rw [hw, tSt_step _ e]
        show laneW ((wSt ins (N.take k)).1 ++ [wAnd (wLit (wSt ins (N.take k)).1 a) (wLit (wSt ins (N.take k)).1 b)]) i = (tSt (laneW ins i) (N.take k)).1 ++ [tAnd (tLit (tSt (laneW ins i) (N.take k)).1 (a : Int)) (tLit (tSt (laneW ins i) (N.take k)).1 (b : Int))]
        rw [← i1 i hi, ← wLit_lane f1 (hz i hi) (by omega) (by omega), ← wLit_lane f1 (hz i hi) (by omega) (by omega)]
        have := at_and fa.1 fa.2 fb.1 fb.2 (i : Int)
        rw [← this]
        simp [laneW, wAnd]
theorem words_all {ins : List (Int × Int)} {N : Net} (hN : agf.Good N) (hl : N.length ≤ 1000) (hf : ∀ p ∈ ins, fns.In64 p.1 ∧ fns.In64 p.2) : WordsOk N ins (wSt ins N).1 := by
  have hf' : ∀ v, wFit (ins.getD v (0, 0)) := fun v => by
    by_cases h : v < ins.length
    · rw [show ins.getD v (0, 0) = ins[v] by simp [List.getD, h]]; exact hf _ (List.getElem_mem h)
    · rw [getD_none (by omega)]; exact wFit_zero
  obtain ⟨l1, c1, f1, a1, i1⟩ := words_ok hN hl hf' N.length (Nat.le_refl _)
  rw [List.take_length] at l1 c1 f1 a1 i1
  refine ⟨l1, fun v _ => f1 v, fun v _ => a1 v, fun i hi v hv => ?_⟩
  have := i1 i hi
  rw [← laneW_at hv, this]
  rfl
/-- words of which each bit is a value -/
def allW (zs : List Int) : List (Int × Int) := zs.map fun z => (allO z, allZ z)
theorem allW_fit (zs : List Int) : ∀ p ∈ allW zs, fns.In64 p.1 ∧ fns.In64 p.2 := by
  intro p hp
  obtain ⟨z, -, rfl⟩ := List.mem_map.1 hp
  exact ⟨in_allO z, in_allZ z⟩
/-- Eval by words -/
theorem eval_words {zs : List Int} {N : Net} (hN : agf.Good N) (hl : N.length ≤ 1000) {m : Nat} (hm : m = if zs.length < N.length then zs.length else N.length) :
    laneW (wSt (allW (zs.take m)) N).1 0 = (tSt zs N).1 := by
  have hf' : ∀ v, wFit ((allW (zs.take m)).getD v (0, 0)) := fun v => by
    by_cases h : v < (allW (zs.take m)).length
    · rw [show (allW (zs.take m)).getD v (0, 0) = (allW (zs.take m))[v] by simp [List.getD, h]]; exact allW_fit _ _ (List.getElem_mem h)
    · rw [getD_none (by omega)]; exact wFit_zero
  obtain ⟨-, -, -, -, i1⟩ := words_ok hN hl hf' N.length (Nat.le_refl _)
  rw [List.take_length] at i1
  rw [i1 0 (by omega)]
  have hlen : (laneW (allW (zs.take m)) 0).length = (zs.take m).length := by simp [laneW, allW]
  refine congrArg Prod.fst (tSt_same fun k hk => ?_)
  have hkn : k < N.length := Nat.lt_of_lt_of_le hk (cnt_le N _)
  unfold tIn
  rw [hlen, List.length_take]
  by_cases h : k < zs.length
  · have hkm : k < min m zs.length := by rw [hm]; split <;> omega
    rw [if_pos hkm, if_pos h, laneW_at (by simp [allW]; omega)]
    have e : (allW (zs.take m)).getD k (0, 0) = (allO (zs.getD k 0), allZ (zs.getD k 0)) := by
      have : k < m := by omega
      simp [allW, List.getD, h, this]
    rw [e]
    simp only
    rw [at_all]
    unfold tWant
    rcases tv3 (zs.getD k 0) with e2 | e2 | e2
    · rw [e2]; rfl
    · rw [e2]; rfl
    · rw [if_neg (by rintro ⟨h | h, -⟩; exact e2.1 h; exact e2.2 h), tv_other e2]; rfl
  · rw [if_neg (by omega), if_neg h]
end Go.Proofs.Ytoacedadfjoneaa.aig
