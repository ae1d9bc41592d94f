/- What the project's dropper does, purely: how it begins, how it ends, and what comes of a whole list of inputs. -/
import Derived.Test.YtoacedadfjoneaaFx
namespace Go.Proofs.Ytoacedadfjoneaa.aig
open Go.Proofs.Ytoacedadfjoneaa.agf Go.Proofs.Ytoacedadfjoneaa.fns
open Go.Proofs.Ytoacedadfjoneaa.tri (tLit tKnown)

theorem tIn_open (out : List Int) (k : Nat) : tIn (out.set k 2) k = 2 := by
  unfold tIn
  rw [List.length_set]
  split
  · rename_i h
    rw [show (out.set k 2).getD k 0 = 2 by simp [List.getD, h]]; rfl
  · rfl
theorem tIn_else (out : List Int) {k j : Nat} (h : k ≠ j) : tIn (out.set k 2) j = tIn out j := by
  unfold tIn
  rw [List.length_set, show (out.set k 2).getD j 0 = out.getD j 0 by simp [List.getD, List.getElem?_set_ne h]]
theorem cnt_ne {N : Net} {i j : Nat} (hi : N[i]? = some none) (hj : N[j]? = some none) (h : i ≠ j) : cntI N i ≠ cntI N j := by
  have key : ∀ a b, N[a]? = some none → a < b → cntI N a < cntI N b := fun a b ha hab => by
    have h1 := cntI_step N a
    rw [ha, if_pos rfl] at h1
    have := cnt_mono N (show a + 1 ≤ b by omega)
    omega
  rcases Nat.lt_or_gt_of_ne h with e | e
  · have := key i j hi e; omega
  · have := key j i hj e; omega
/-- what is known ahead of an input's dropping: v its variable, k its place among the inputs -/
structure FreeIn (ns : List (Int × Int)) (F V T ls out : List Int) (M : List Bool) (v k : Nat) : Prop where
  good : GoodN ns
  small : ns.length ≤ 1000
  hV : V = (tSt out (ns.map absN)).1
  hT : T = (tSt (out.set k 2) (ns.map absN)).1
  inp : ∃ j, v = j + 1 ∧ (ns.map absN)[j]? = some none ∧ cntI (ns.map absN) j = k
  fv : ∀ j, V.getD j 0 = 2 ∨ V.getD j 0 = F.getD j 0
  at_ : V.getD v 0 = F.getD v 0
  fo : ∀ m, M.getD m false = true → Fo (ns.map absN) ls out m
section
variable {ns : List (Int × Int)} {F V T ls out U R : List Int} {M : List Bool} {v k : Nat} {X : Nat → Prop}
theorem FreeIn.lenV (h : FreeIn ns F V T ls out M v k) : V.length = ns.length + 1 ∧ T.length = V.length := by
  rw [h.hV, h.hT, tSt_len, tSt_len, List.length_map]; exact ⟨rfl, rfl⟩
theorem FreeIn.lt (h : FreeIn ns F V T ls out M v k) : v < V.length ∧ 1 ≤ v := by
  obtain ⟨j, rfl, h1, -⟩ := h.inp
  have := (List.getElem?_eq_some_iff.1 h1).1
  rw [List.length_map] at this
  rw [h.lenV.1]; omega
theorem FreeIn.tv (h : FreeIn ns F V T ls out M v k) : T.getD v 0 = 2 := by
  obtain ⟨j, rfl, h1, h2⟩ := h.inp
  rw [h.hT, tSt_input _ h1, h2, tIn_open]
theorem FreeIn.below (h : FreeIn ns F V T ls out M v k) (j : Nat) : T.getD j 0 = 2 ∨ T.getD j 0 = V.getD j 0 := by
  rw [h.hT, h.hV]; exact tSt_lower (lower_set out k) _ j
theorem FreeIn.lost (h : FreeIn ns F V T ls out M v k) {j : Nat} (hm : M.getD j false = true) (ht : T.getD j 0 = 2) : tSure (ns.map absN) (out.set k 2) ls = false :=
  h.fo j hm _ (lower_set out k) (by rw [← h.hT]; exact ht)
theorem FreeIn.start (h : FreeIn ns F V T ls out M v k) (hm : M.getD v false = false) : Fr ns V T F M (Pnd ns [(v : Int)] 0) (V.set v 2) [(v : Int)] ∧ (V.set v 2).getD v 0 = 2 := by
  have hlt := h.lt.1
  refine ⟨⟨by simp, fun j => ?_, fun j hj => ?_, fun r hr => ?_, fun j hj => ?_, ?_, fun k' a b e => ?_⟩, by rw [set_two hlt, if_pos rfl]⟩
  · rw [set_two hlt]; split
    · rename_i c; subst c; exact .inr ⟨rfl, h.tv⟩
    · exact .inl rfl
  · rw [set_two hlt] at hj
    split at hj
    · rename_i c; subst c; simp
    · exact absurd rfl hj
  · rw [List.mem_singleton.1 hr]; exact ⟨v, rfl, hlt, h.at_⟩
  · rw [set_two hlt]; split
    · rename_i c; subst c; rw [hm] at hj; cases hj
    · rfl
  · have := cnt2_le (V.set v 2)
    simp at *; omega
  · have hk' : k' < ns.length := by have := (List.getElem?_eq_some_iff.1 e).1; rwa [List.length_map] at this
    obtain ⟨ga, gb⟩ := good_abs h.good k' a b e
    have hs := h.small
    have hnv : v ≠ k' + 1 := fun c => by
      obtain ⟨j, hj, h1, -⟩ := h.inp
      obtain rfl : j = k' := by omega
      rw [h1] at e; cases e
    rw [set_two hlt, if_neg hnv]
    have pnd : a / 2 = v ∨ b / 2 = v → Pnd ns [(v : Int)] 0 (k' + 1) := fun c => ⟨0, Nat.le_refl _, by simp, by
      have := fan_of e c
      simpa [List.getD] using this⟩
    by_cases ha : a / 2 = v
    · exact .inr (.inr (pnd (.inl ha)))
    · by_cases hb : b / 2 = v
      · exact .inr (.inr (pnd (.inr hb)))
      · rw [lit_set (by omega) ha, lit_set (by omega) hb]
        have hgt := tSt_gate out (good_abs h.good) (by rw [List.length_map]; exact hs) e
        rw [← h.hV] at hgt
        rw [← hgt]
        by_cases c : V.getD (k' + 1) 0 = 2
        · exact .inl c
        · exact .inr (.inl c)
theorem FreeIn.done (h : FreeIn ns F V T ls out M v k) (hf : Fr ns V T F M X U R) (h2 : U.getD v 0 = 2) (hx : ∀ g, ¬ X g) : U = T := by
  refine hf.done h.good h.small h.hT h.hV (lower_set out k) (fun k' e => ?_) hx
  obtain ⟨j, hj, h1, h3⟩ := h.inp
  by_cases c : k' = j
  · subst c; rw [← hj, h2, h.tv]
  · have ht : T.getD (k' + 1) 0 = V.getD (k' + 1) 0 := by
      rw [h.hT, h.hV, tSt_input _ e, tSt_input _ e, tIn_else out (by rw [← h3]; exact cnt_ne h1 e (Ne.symm c))]
    rcases hf.chg (k' + 1) with d | ⟨d, d2⟩
    · rw [d, ht]
    · rw [d, d2]
/-- how freeing ends -/
structure FreeOk (ns : List (Int × Int)) (F V T ls out : List Int) (M : List Bool) (k : Nat) (U R : List Int) (b : Bool) : Prop where
  len : U.length = V.length
  frd : ∀ j : Nat, U.getD j 0 ≠ V.getD j 0 → (j : Int) ∈ R
  org : ∀ r ∈ R, ∃ j : Nat, r = (j : Int) ∧ j < V.length ∧ V.getD j 0 = F.getD j 0
  room : R.length ≤ V.length + 1
  yes : b = true → U = T ∧ ∀ j, M.getD j false = true → T.getD j 0 = V.getD j 0
  no : b = false → tSure (ns.map absN) (out.set k 2) ls = false
theorem FreeIn.none (h : FreeIn ns F V T ls out M v k) (hm : M.getD v false = true) : FreeOk ns F V T ls out M k V [] false :=
  ⟨rfl, fun j hj => absurd rfl hj, fun r hr => by simp at hr, by simp, (fun e => by cases e), fun _ => h.lost hm h.tv⟩
theorem FreeIn.stop (h : FreeIn ns F V T ls out M v k) (hf : Fr ns V T F M X U R) {j : Nat} (hm : M.getD j false = true) (ht : T.getD j 0 = 2) : FreeOk ns F V T ls out M k U R false :=
  ⟨hf.len, hf.frd, hf.org, by have := hf.room; omega, (fun e => by cases e), fun _ => h.lost hm ht⟩
theorem FreeIn.all (h : FreeIn ns F V T ls out M v k) (hf : Fr ns V T F M X U R) (h2 : U.getD v 0 = 2) (hx : ∀ g, ¬ X g) : FreeOk ns F V T ls out M k U R true := by
  have e := h.done hf h2 hx
  exact ⟨hf.len, hf.frd, hf.org, by have := hf.room; omega, fun _ => ⟨e, fun j hj => by rw [← e]; exact hf.mst j hj⟩, fun e => by cases e⟩
end
end Go.Proofs.Ytoacedadfjoneaa.aig
