/- Values of nets whose inputs may be open, purely. -/
import Derived.Test.YtoacedadfjoneaaTl0
import Derived.Test.YtoacedadfjoneaaA9
import Derived.Test.YtoacedadfjoneaaFnO
namespace Go.Proofs.Ytoacedadfjoneaa.aig
open Go.Proofs.Ytoacedadfjoneaa.agf Go.Proofs.Ytoacedadfjoneaa.fns
open Go.Proofs.Ytoacedadfjoneaa.tri (tLit tKnown)

/-- the k-th input's value -/
def tIn (ins : List Int) (k : Nat) : Int := if k < ins.length then tv (ins.getD k 0) else 2
def tStep (ins : List Int) (s : List Int × Nat) (x : Nd) : List Int × Nat := match x with
  | none => (s.1 ++ [tIn ins s.2], s.2 + 1)
  | some (a, b) => (s.1 ++ [tAnd (tLit s.1 (a : Int)) (tLit s.1 (b : Int))], s.2)
def tSt (ins : List Int) (N : Net) : List Int × Nat := N.foldl (tStep ins) ([0], 0)
theorem tSt_step (ins : List Int) {N : Net} {k : Nat} {x : Nd} (h : N[k]? = some x) : tSt ins (N.take (k + 1)) = tStep ins (tSt ins (N.take k)) x := by
  rw [take_snoc h]; simp [tSt]
theorem tSt_ok (ins : List Int) (N : Net) : ∀ k, k ≤ N.length → (tSt ins (N.take k)).1.length = k + 1 ∧ (tSt ins (N.take k)).2 = cntI N k := by
  intro k
  induction k with
  | zero => intro _; exact ⟨rfl, rfl⟩
  | succ k ih =>
    intro hk
    obtain ⟨h1, h2⟩ := ih (by omega)
    have e := List.getElem?_eq_getElem (show k < N.length by omega)
    rw [tSt_step ins e, cntI_step, e]
    cases h : N[k] with
    | none => simp [tStep, h1, h2]
    | some g => obtain ⟨a, b⟩ := g; simp [tStep, h1, h2]
theorem tSt_len (ins : List Int) (N : Net) : (tSt ins N).1.length = N.length + 1 := by
  have := (tSt_ok ins N N.length (Nat.le_refl _)).1
  rwa [List.take_length] at this
/-! ## What is not open is so -/
def Snd (t : Int) (b : Bool) : Prop := (t = 0 → b = false) ∧ (t = 1 → b = true)
theorem snd_two (b : Bool) : Snd 2 b := ⟨fun h => by omega, fun h => by omega⟩
theorem snd_tv {t : Int} {b : Bool} : Snd (tv t) b ↔ Snd t b := by unfold Snd; rw [tv_zero, tv_one]
theorem snd_not {t : Int} {b : Bool} (h : Snd t b) : Snd (tNot t) (!b) := by
  rcases tv3 t with rfl | rfl | h2
  · rw [h.1 rfl]; exact ⟨fun e => absurd e (by decide), fun _ => rfl⟩
  · rw [h.2 rfl]; exact ⟨fun _ => rfl, fun e => absurd e (by decide)⟩
  · rw [not_other h2]; exact snd_two _
theorem snd_and {s t : Int} {p q : Bool} (h : Snd s p) (g : Snd t q) : Snd (tAnd s t) (p && q) := by
  unfold tAnd
  split
  · rename_i e
    refine ⟨fun _ => ?_, fun e => by omega⟩
    rcases e with e | e
    · rw [h.1 e]; rfl
    · rw [g.1 e]; simp
  · split
    · rename_i e
      exact ⟨fun e => by omega, fun _ => by rw [h.2 e.1, g.2 e.2]; rfl⟩
    · exact snd_two _
theorem snd_lit {T : List Int} {B : List Bool} (h0 : B.getD 0 false = false) (h : ∀ j, Snd (T.getD j 0) (B.getD j false)) {a : Nat} (ha : a / 2 < T.length) (hs : a ≤ 33554433) : Snd (tLit T (a : Int)) (ev B a) := by
  have hg := good_yes (l := (a : Int)) (by omega) (by omega)
  have K : Snd (tKnown T ((a : Int) / 2)) (B.getD (a / 2) false) := by
    unfold tKnown
    by_cases e : (a : Int) / 2 = 0
    · rw [if_pos e, show a / 2 = 0 by omega, h0]; exact ⟨fun _ => rfl, fun e => by omega⟩
    · rw [if_neg e, if_pos ⟨by omega, by omega⟩, snd_tv, show ((a : Int) / 2).toNat = a / 2 by omega]; exact h _
  unfold tLit ev
  rw [var_yes hg]
  by_cases o : a % 2 = 1
  · rw [neg_odd hg (by omega), if_pos rfl, show (a % 2 == 1) = true by simp [o]]
    have := snd_not K
    cases hb : B.getD (a / 2) false <;> rw [hb] at this <;> exact this
  · rw [neg_even hg (by omega), if_neg (by simp), show (a % 2 == 1) = false by simp; omega]
    cases hb : B.getD (a / 2) false <;> rw [hb] at K <;> exact K
theorem getD_none {α : Type} {l : List α} {d : α} {j : Nat} (h : l.length ≤ j) : l.getD j d = d := by
  simp only [List.getD]; rw [List.getElem?_eq_none h]; rfl
theorem cnt_mono (N : Net) {k m : Nat} (h : k ≤ m) : cntI N k ≤ cntI N m := by
  induction m with
  | zero =>
    obtain rfl : k = 0 := by omega
    exact Nat.le_refl _
  | succ m ih =>
    by_cases e : k = m + 1
    · rw [e]; exact Nat.le_refl _
    · have := ih (by omega)
      rw [cntI_step]; omega
theorem sound_all {ins : List Int} {all : List Bool} {N : Net} (hN : agf.Good N) (hl : N.length ≤ 1000) (hi : ∀ k, k < cntI N N.length → Snd (tIn ins k) (all.getD k false)) :
    ∀ k, k ≤ N.length → ∀ j, Snd ((tSt ins (N.take k)).1.getD j 0) ((st all (N.take k)).1.getD j false) := by
  intro k
  induction k with
  | zero =>
    intro _ j
    have z : ∀ e : (0 : Int) = 1, False := by omega
    cases j with
    | zero => exact ⟨fun _ => rfl, fun e => absurd e z⟩
    | succ j => exact ⟨fun _ => rfl, fun e => absurd e z⟩
  | succ k ih =>
    intro hk
    have h1 := ih (by omega)
    obtain ⟨l1, c1⟩ := tSt_ok ins N k (by omega)
    have l2 : (st all (N.take k)).1.length = k + 1 := by rw [st_len, List.length_take]; omega
    have c2 := st_cnt all N k (by omega)
    have e := List.getElem?_eq_getElem (show k < N.length by omega)
    rw [tSt_step ins e, st_step all e]
    intro j
    have key : ∀ (r : Int) (s : Bool), Snd r s → Snd (((tSt ins (N.take k)).1 ++ [r]).getD j 0) (((st all (N.take k)).1 ++ [s]).getD j false) := by
      intro r s hrs
      by_cases hj : j < k + 1
      · rw [snocI_l (by rw [l1]; exact hj), snocB_l (by rw [l2]; exact hj)]; exact h1 j
      · by_cases hj2 : j = k + 1
        · have e1 := snocI_r (tSt ins (N.take k)).1 r
          have e2 := snocB_r (st all (N.take k)).1 s
          rw [l1] at e1; rw [l2] at e2
          rw [hj2, e1, e2]; exact hrs
        · rw [getD_none (by simp [l1]; omega), getD_none (by simp [l2]; omega)]
          exact ⟨fun _ => rfl, fun e => absurd e (by decide)⟩
    cases h : N[k] with
    | none =>
      refine key _ _ ?_
      rw [c1, c2]
      refine hi _ ?_
      have h1 := cntI_step N k
      rw [e, h, if_pos rfl] at h1
      have := cnt_mono N (show k + 1 ≤ N.length by omega)
      omega
    | some g =>
      obtain ⟨a, b⟩ := g
      rw [h] at e
      obtain ⟨g1, g2⟩ := hN k a b e
      exact key _ _ (snd_and (snd_lit (st_zero all _) h1 (by rw [l1]; omega) (by omega)) (snd_lit (st_zero all _) h1 (by rw [l1]; omega) (by omega)))
/-! ## Of inputs that say more comes no less -/
theorem bl_refl (a : Int) : tBelow a a = true := below_iff.2 (.inr rfl)
theorem bl_two (a : Int) : tBelow 2 a = true := below_iff.2 (.inl ⟨by decide, by decide⟩)
theorem bl_trans {a b c : Int} (h : tBelow a b = true) (g : tBelow b c = true) : tBelow a c = true := by
  rw [below_iff] at h g ⊢
  rcases h with h | h
  · exact .inl h
  · rcases g with g | g
    · left
      have e := tv_other g
      rw [← h] at e
      exact ⟨fun x => by rw [x] at e; exact absurd e (by decide), fun x => by rw [x] at e; exact absurd e (by decide)⟩
    · exact .inr (h.trans g)
theorem tAnd_comm (a b : Int) : tAnd a b = tAnd b a := by
  by_cases a0 : a = 0 <;> by_cases b0 : b = 0 <;> by_cases a1 : a = 1 <;> by_cases b1 : b = 1 <;> simp [tAnd, *]
theorem bl_and {a a' b b' : Int} (h : tBelow a a' = true) (g : tBelow b b' = true) : tBelow (tAnd a b) (tAnd a' b') = true := by
  refine bl_trans (below_and b h) ?_
  rw [tAnd_comm a' b, tAnd_comm a' b']
  exact below_and a' g
theorem bl_tv {a b : Int} (h : tBelow a b = true) : tBelow (tv a) (tv b) = true := by
  unfold tBelow at h ⊢
  rw [tv_tv, tv_tv]; exact h
theorem bl_lit {T T' : List Int} (hl : T.length = T'.length) (h : ∀ j, tBelow (T.getD j 0) (T'.getD j 0) = true) (x : Int) : tBelow (tLit T x) (tLit T' x) = true := by
  have K : ∀ v, tBelow (tKnown T v) (tKnown T' v) = true := by
    intro v
    unfold tKnown
    rw [← hl]
    split
    · exact bl_refl _
    · split
      · exact bl_tv (h _)
      · exact bl_refl _
  unfold tLit
  split
  · exact below_not (K _)
  · exact K _
theorem mono_all {ins ins' : List Int} (hi : ∀ k, tBelow (tIn ins k) (tIn ins' k) = true) (N : Net) :
    ∀ k, k ≤ N.length → ∀ j, tBelow ((tSt ins (N.take k)).1.getD j 0) ((tSt ins' (N.take k)).1.getD j 0) = true := by
  intro k
  induction k with
  | zero => intro _ j; exact bl_refl _
  | succ k ih =>
    intro hk
    have h1 := ih (by omega)
    obtain ⟨l1, c1⟩ := tSt_ok ins N k (by omega)
    obtain ⟨l2, c2⟩ := tSt_ok ins' N k (by omega)
    have e := List.getElem?_eq_getElem (show k < N.length by omega)
    rw [tSt_step ins e, tSt_step ins' e]
    intro j
    have key : ∀ (r s : Int), tBelow r s = true → tBelow (((tSt ins (N.take k)).1 ++ [r]).getD j 0) (((tSt ins' (N.take k)).1 ++ [s]).getD j 0) = true := by
      intro r s hrs
      by_cases hj : j < k + 1
      · rw [snocI_l (by rw [l1]; exact hj), snocI_l (by rw [l2]; exact hj)]; exact h1 j
      · by_cases hj2 : j = k + 1
        · have e1 := snocI_r (tSt ins (N.take k)).1 r
          have e2 := snocI_r (tSt ins' (N.take k)).1 s
          rw [l1] at e1; rw [l2] at e2
          rw [hj2, e1, e2]; exact hrs
        · rw [getD_none (by simp [l1]; omega), getD_none (by simp [l2]; omega)]
          exact bl_refl _
    cases h : N[k] with
    | none =>
      refine key _ _ ?_
      rw [c1, c2]; exact hi _
    | some g =>
      obtain ⟨a, b⟩ := g
      exact key _ _ (bl_and (bl_lit (l1.trans l2.symm) h1 _) (bl_lit (l1.trans l2.symm) h1 _))
/-- whether literals are One -/
def tSure (N : Net) (ins ls : List Int) : Bool := ls.all fun x => tLit (tSt ins N).1 x == 1
theorem sure_mono {ins ins' : List Int} (hi : ∀ k, tBelow (tIn ins k) (tIn ins' k) = true) {N : Net} {ls : List Int} (h : tSure N ins ls = true) : tSure N ins' ls = true := by
  unfold tSure at h ⊢
  rw [List.all_eq_true] at h ⊢
  intro x hx
  have h1 := h x hx
  have hm := mono_all hi N N.length (Nat.le_refl _)
  rw [List.take_length] at hm
  have := bl_lit (by rw [tSt_len, tSt_len]) hm x
  have e1 : tLit (tSt ins N).1 x = 1 := by simpa using h1
  rw [e1, below_iff] at this
  have e2 : tLit (tSt ins' N).1 x = 1 := by
    rcases this with ⟨-, h⟩ | h
    · exact absurd rfl h
    · exact tv_one.1 h.symm
  simp [e2]
/-! ## What is dropped -/
def keepB (ks : List Bool) (k : Nat) : Bool := ks.getD k false
def dropStep (N : Net) (ls : List Int) (ks : List Bool) (out : List Int) (k : Nat) : List Int :=
  if keepB ks k then out else if tSure N (out.set k 2) ls then out.set k 2 else out
def dropTo (N : Net) (ls : List Int) (ks : List Bool) (out : List Int) : Nat → List Int
  | 0 => out
  | k + 1 => dropStep N ls ks (dropTo N ls ks out k) k
/-- values of as many inputs as there are, among the first k nodes -/
def startL (N : Net) (ins : List Int) (k : Nat) : List Int := (List.range (cntI N k)).map (tIn ins)
def tDrop (N : Net) (ins ls : List Int) (ks : List Bool) : List Int :=
  if tSure N (startL N ins N.length) ls then dropTo N ls ks (startL N ins N.length) (startL N ins N.length).length else []
theorem startL_step (N : Net) (ins : List Int) (k : Nat) : startL N ins (k + 1) = startL N ins k ++ if N[k]? = some none then [tIn ins (startL N ins k).length] else [] := by
  unfold startL
  rw [cntI_step]
  by_cases h : N[k]? = some none
  · rw [if_pos h, if_pos h, List.range_succ, List.map_append]; simp
  · rw [if_neg h, if_neg h]; simp
theorem startL_len (N : Net) (ins : List Int) (k : Nat) : (startL N ins k).length = cntI N k := by unfold startL; simp
theorem tIn_set {out : List Int} {k j : Nat} : tBelow (tIn (out.set k 2) j) (tIn out j) = true := by
  unfold tIn
  rw [List.length_set]
  split
  · rename_i h
    by_cases e : k = j
    · subst e
      have : (out.set k 2).getD k 0 = 2 := by simp [List.getD, h]
      rw [this]; exact bl_tv (bl_two _)
    · have : (out.set k 2).getD j 0 = out.getD j 0 := by simp [List.getD, List.getElem?_set_ne e]
      rw [this]; exact bl_refl _
  · exact bl_refl _
theorem dropStep_len (N : Net) (ls : List Int) (ks : List Bool) (out : List Int) (k : Nat) : (dropStep N ls ks out k).length = out.length := by
  unfold dropStep; split
  · rfl
  · split <;> simp
theorem drop_len (N : Net) (ls : List Int) (ks : List Bool) (out : List Int) (k : Nat) : (dropTo N ls ks out k).length = out.length := by
  induction k with
  | zero => rfl
  | succ k ih => unfold dropTo; rw [dropStep_len, ih]
theorem dropStep_at (N : Net) (ls : List Int) (ks : List Bool) (out : List Int) {k j : Nat} (h : k ≠ j) : (dropStep N ls ks out k).getD j 0 = out.getD j 0 := by
  unfold dropStep; split
  · rfl
  · split
    · simp [List.getD, List.getElem?_set_ne h]
    · rfl
theorem dropTo_at (N : Net) (ls : List Int) (ks : List Bool) (out : List Int) {k m : Nat} (h : k + 1 ≤ m) : (dropTo N ls ks out m).getD k 0 = (dropTo N ls ks out (k + 1)).getD k 0 := by
  induction m with
  | zero => omega
  | succ m ih =>
    by_cases e : m = k
    · rw [e]
    · rw [← ih (by omega)]
      exact dropStep_at _ _ _ _ e
theorem dropStep_below (N : Net) (ls : List Int) (ks : List Bool) (out : List Int) (k j : Nat) : tBelow (tIn (dropStep N ls ks out k) j) (tIn out j) = true := by
  unfold dropStep; split
  · exact bl_refl _
  · split
    · exact tIn_set
    · exact bl_refl _
theorem drop_below (N : Net) (ls : List Int) (ks : List Bool) (out : List Int) {k m : Nat} (h : k ≤ m) (j : Nat) : tBelow (tIn (dropTo N ls ks out m) j) (tIn (dropTo N ls ks out k) j) = true := by
  induction m with
  | zero =>
    obtain rfl : k = 0 := by omega
    exact bl_refl _
  | succ m ih =>
    by_cases e : k = m + 1
    · rw [e]; exact bl_refl _
    · exact bl_trans (dropStep_below N ls ks _ m j) (ih (by omega))
/-- none more can be dropped -/
theorem drop_no_more {N : Net} {ls : List Int} {ks : List Bool} {out : List Int} {k m : Nat} (hk : k < m) (hl : k < out.length) (h2 : (dropTo N ls ks out m).getD k 0 ≠ 2) (hkeep : keepB ks k = false) :
    tSure N ((dropTo N ls ks out m).set k 2) ls = false := by
  have hd : dropTo N ls ks out (k + 1) = if tSure N ((dropTo N ls ks out k).set k 2) ls then (dropTo N ls ks out k).set k 2 else dropTo N ls ks out k := by
    show dropStep N ls ks (dropTo N ls ks out k) k = _
    unfold dropStep; rw [hkeep]; rfl
  have hs : tSure N ((dropTo N ls ks out k).set k 2) ls = false := by
    cases hh : tSure N ((dropTo N ls ks out k).set k 2) ls with
    | false => rfl
    | true =>
      rw [hh, if_pos rfl] at hd
      rw [dropTo_at N ls ks out (show k + 1 ≤ m by omega), hd] at h2
      exact absurd (by simp [List.getD, drop_len, hl]) h2
  cases hh : tSure N ((dropTo N ls ks out m).set k 2) ls with
  | false => rfl
  | true =>
    have := sure_mono (ins' := (dropTo N ls ks out k).set k 2) (fun j => by
      have hb := drop_below N ls ks out (show k ≤ m by omega) j
      unfold tIn at hb ⊢
      rw [List.length_set, List.length_set]
      rw [drop_len, drop_len] at hb ⊢
      by_cases hj : j < out.length
      · rw [if_pos hj, if_pos hj] at hb ⊢
        by_cases e : k = j
        · subst e
          have e1 : ((dropTo N ls ks out m).set k 2).getD k 0 = 2 := by simp [List.getD, drop_len, hl]
          rw [e1]; exact bl_tv (bl_two _)
        · have e1 : ((dropTo N ls ks out m).set k 2).getD j 0 = (dropTo N ls ks out m).getD j 0 := by simp [List.getD, List.getElem?_set_ne e]
          have e2 : ((dropTo N ls ks out k).set k 2).getD j 0 = (dropTo N ls ks out k).getD j 0 := by simp [List.getD, List.getElem?_set_ne e]
          rw [e1, e2]; exact hb
      · rw [if_neg hj, if_neg hj]; exact bl_refl _) hh
    rw [hs] at this; cases this
end Go.Proofs.Ytoacedadfjoneaa.aig
