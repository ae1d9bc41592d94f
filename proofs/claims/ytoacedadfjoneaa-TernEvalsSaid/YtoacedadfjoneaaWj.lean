/- The walk of the project's Inputs, where there is no store (made of Y4); which input comes when; Drop; all that the project's values that may be open have to be. -/
import Derived.Test.YtoacedadfjoneaaWi
namespace Go.Proofs.Ytoacedadfjoneaa.aig
open Go.RowKit
open Go.Proofs.Ytoacedadfjoneaa.mem Go.Proofs.Ytoacedadfjoneaa.agf Go.Proofs.Ytoacedadfjoneaa.fns
open Go.Proofs.Ytoacedadfjoneaa.ints (Ints ints_of_owned below_drewN)
open Go.Proofs.Ytoacedadfjoneaa.tri (tLit)

set_option maxHeartbeats 1600000 in
theorem inputs_any (P : Nat → Prop) (v : Value) (ns : List (Int × Int)) (w : World) (hv : KNds P w v ns) (hn : ns.length ≤ 1000) :
    Calls Try.prog 30 #[v] w (Told (inpTo ns ns.length) w) := by
  obtain ⟨i0, hi, hz0, hz1, hz2⟩ := info_parts infoI
  obtain ⟨a, cap, rfl, l1, l2⟩ := hv.form
  unfold maxLen at l2
  obtain ⟨m, hm⟩ : ∃ m, m = ns.length := ⟨_, rfl⟩
  rw [← hm] at l1 hn hv ⊢
  have HV := Lib.hid hv
  have HM := Lib.hid hm
  have HR0 : Hid (w.ownsRow w.heap.size 3 1 (.slice none 0 0) 0 []) := Lib.hid (World.ownsRow_nil _ _ _ _)
  clear hv hm
  go_enter Try.func30, Try.ntmps30
  go_wp2_with fail
  go_loopw [3, 8] (fun l i wr => ∃ (k : Nat) (L : List Int) (lv : Value), k ≤ m ∧ i = .int .i64 k ∧ l = lv ∧ L.length ≤ k ∧ Hid (L = inpTo ns k) ∧ Hid (wr.ownsRow w.heap.size 3 1 lv L.length (L.map (Value.int .i64)) ∧ Below w.heap.size w wr)) (fun _ i _ => m - (intOf i).toNat)
  case atStart => exact ⟨0, [], _, Nat.zero_le _, rfl, rfl, Nat.le_refl _, Lib.hid rfl, Lib.hid ⟨HR0.out, Below.refl _ _⟩⟩
  case round =>
    clear HR0
    obtain ⟨k, L, lv, hk, rfl, hlv, hL, HLI, HW⟩ := hrel
    obtain rfl : lv = _ := hlv.symm
    obtain ⟨wo, rfl⟩ : ∃ wo : World, wo = wr := ⟨_, rfl⟩
    by_cases hlt : k < m
    · obtain ⟨b, off, rfl, -, e1, e2⟩ := (HV.out.on HW.out.2).at_ hlt
      have HST := Lib.hid (inpTo_step ns k)
      obtain ⟨p, hp⟩ : ∃ p, p = (ns.getD k (0, 0)).1 := ⟨_, rfl⟩
      obtain ⟨q, hq⟩ : ∃ q, q = (ns.getD k (0, 0)).2 := ⟨_, rfl⟩
      rw [← hp] at e1 HST
      rw [← hq] at e2
      have d1 : (k : Int) < (m : Int) := by omega
      have d2 : 0 ≤ (k : Int) := by omega
      have hwz := HW.out.2.size
      clear hp hq
      go_upto_region 5 with fail
      obtain ⟨W1, hW1⟩ : ∃ W1, W1 = wo.alloc (.cells #[.int .i64 p, .int .i64 q] 40) := ⟨_, rfl⟩
      obtain ⟨X, hX⟩ : ∃ X, X = wo.heap.size := ⟨_, rfl⟩
      have x0 : W1.cell? ⟨X, 0, none⟩ = some (.int .i64 p) := by rw [hW1, hX]; exact (box_at _ _ _ _).1
      have x1 : W1.cell? ⟨X, 1, none⟩ = some (.int .i64 q) := by rw [hW1, hX]; exact (box_at _ _ _ _).2
      have HB1 : Hid (Below wo.heap.size wo W1) := Lib.hid (by rw [hW1]; exact box_below wo p q _)
      rw [← hX, ← hW1]
      clear hX hW1 e1 e2
      by_cases g0 : p < 0
      · have HP : Hid (decide (p < 0) = true) := Lib.hid (decide_eq_true g0)
        have HN : Hid (L ++ [(k : Int) + 1] = inpTo ns (k + 1)) := Lib.hid (by rw [HST.out, if_pos g0, HLI.out])
        clear g0
        go_wp2_with fail
        go_at_call 36; refine (isInput_of q HP.out _).mono ?_; rintro e w2 ⟨rfl, hb⟩
        have HB2 : Hid (Below wo.heap.size wo w2) := Lib.hid (HB1.out.trans (hb.mono HB1.out.size))
        have HBW : Hid (Below w.heap.size w w2) := Lib.hid (HW.out.2.trans (HB2.out.mono hwz))
        obtain ⟨r, hr⟩ : ∃ r, r = (k : Int) + 1 := ⟨_, rfl⟩
        rw [← hr] at HN
        have HR := Lib.hid hr
        have HROW2 := Lib.hid (own_on HW.out.1 HB2.out)
        have HROW := Lib.hid (own_on HROW2.out ((Below.refl _ w2).alloc (Nat.le_refl _) (.cells #[.int .i64 r] 3)))
        have hsz := HBW.out.size
        clear hb hr x0 x1
        go_wp2_with (at_builtin; refine wpList_append_lies _ rfl (.tmp 15) (.tmp 18) 23 rfl w.heap.size 3 i0 (.int .i64 0) 1 8 Try.underlying23 hi hz0 hz1 hz2 rfl (by decide) lv L.length (L.map (Value.int .i64)) rfl (by rw [← HR.out]; exact HROW.out) ⟨w2.heap.size, 0, none⟩ 1 1 [.int .i64 ((k : Int) + 1)] rfl rfl (news1 _ _ _) (one_cell _) (by omega) (by unfold maxLen; omega) (by omega) (by simp; omega) _ rfl ?_)
        intro t2 c2 w3 hown hgrow _ _
        have HE := Lib.hid (row_end HBW.out hsz HROW2.out hown hgrow)
        clear hown hgrow
        go_wp2_with fail
        go_roundw
        case rel => exact ⟨k + 1, L ++ [(k : Int) + 1], .slice (some ⟨t2, 0, none⟩) (L.length + 1) c2, by omega, by go_num, rfl, by simp; omega, by rw [← HR.out]; exact HN, HE⟩
        case measure => simp [intOf]; omega
      · have HP : Hid (decide (p < 0) = false) := Lib.hid (decide_eq_false g0)
        have HN : Hid (L = inpTo ns (k + 1)) := Lib.hid (by rw [HST.out, if_neg g0, List.append_nil, HLI.out])
        clear g0
        go_wp2_with fail
        go_at_call 36; refine (isInput_of q HP.out _).mono ?_; rintro e w2 ⟨rfl, hb⟩
        have HB2 : Hid (Below wo.heap.size wo w2) := Lib.hid (HB1.out.trans (hb.mono HB1.out.size))
        have HE : Hid (w2.ownsRow w.heap.size 3 1 lv L.length (L.map (Value.int .i64)) ∧ Below w.heap.size w w2) := Lib.hid ⟨own_on HW.out.1 HB2.out, HW.out.2.trans (HB2.out.mono hwz)⟩
        clear hb x0 x1
        go_wp2_with fail
        go_roundw
        case rel => exact ⟨k + 1, L, lv, by omega, by go_num, rfl, by omega, HN, HE⟩
        case measure => simp [intOf]; omega
    · obtain rfl : m = k := by omega
      have HE : Hid (Told (inpTo ns m) w (.returned lv) wo) := Lib.hid (by rw [← HLI.out]; exact ⟨lv, rfl, HW.out.1, HW.out.2⟩)
      clear hlt hk
      go_wp2_with fail
      go_ret
      exact HE.out
/-- which node the inputs are -/
theorem inp_ok (ns : List (Int × Int)) : ∀ k, k ≤ ns.length → (inpTo ns k).length = cntI (ns.map absN) k ∧ ∀ j, j < (inpTo ns k).length → ∃ i, i < k ∧ (inpTo ns k).getD j 0 = ((i + 1 : Nat) : Int) ∧ (ns.map absN)[i]? = some none ∧ cntI (ns.map absN) i = j := by
  intro k
  induction k with
  | zero => intro _; exact ⟨rfl, fun j hj => by simp [inpTo] at hj⟩
  | succ k ih =>
    intro hk
    obtain ⟨h1, h2⟩ := ih (by omega)
    have ha := absN_at (show k < ns.length by omega)
    rw [inpTo_step, cntI_step]
    by_cases h : (ns.getD k (0, 0)).1 < 0
    · have hn : (ns.map absN)[k]? = some none := by rw [ha]; unfold absN; rw [if_pos h]
      rw [if_pos h, if_pos hn]
      refine ⟨by rw [List.length_append, h1]; rfl, fun j hj => ?_⟩
      by_cases hj2 : j < (inpTo ns k).length
      · obtain ⟨i, g1, g2, g3⟩ := h2 j hj2
        exact ⟨i, by omega, by rw [snocI_l hj2]; exact g2, g3⟩
      · have hj3 : j = (inpTo ns k).length := by simp at hj; omega
        exact ⟨k, by omega, by rw [hj3, snocI_r]; simp, hn, by rw [hj3, h1]⟩
    · have hn : (ns.map absN)[k]? ≠ some none := by rw [ha]; unfold absN; rw [if_neg h]; simp
      rw [if_neg h, if_neg hn, List.append_nil]
      refine ⟨by rw [h1]; rfl, fun j hj => ?_⟩
      obtain ⟨i, g1, g⟩ := h2 j hj
      exact ⟨i, by omega, g⟩
/-! ## The document's dropping, one by one -/
theorem dropTo_rest (N : Net) (ls : List Int) (ks : List Bool) (out : List Int) : ∀ m k, m ≤ k → (dropTo N ls ks out m).getD k 0 = out.getD k 0 := by
  intro m
  induction m with
  | zero => intro k _; rfl
  | succ m ih =>
    intro k hk
    show (dropStep N ls ks (dropTo N ls ks out m) m).getD k 0 = _
    rw [dropStep_at N ls ks _ (show m ≠ k by omega)]
    exact ih k (by omega)
theorem dropStep_outN (N : Net) (ls : List Int) (ks : List Bool) (out : List Int) (k : Nat) : dropStep N ls ks out k = if keepB ks k then out else outN N ls out k := rfl
theorem dropTo_sure {N : Net} {ls : List Int} {ks : List Bool} {out : List Int} (h : tSure N out ls = true) : ∀ m, tSure N (dropTo N ls ks out m) ls = true := by
  intro m
  induction m with
  | zero => exact h
  | succ m ih =>
    show tSure N (dropStep N ls ks (dropTo N ls ks out m) m) ls = true
    unfold dropStep
    split
    · exact ih
    · split
      · assumption
      · exact ih
def AllTri (out : List Int) : Prop := ∀ j, Tri (out.getD j 0)
theorem tri_set {out : List Int} (h : AllTri out) (k : Nat) : AllTri (out.set k 2) := by
  intro j
  by_cases e : k = j
  · subst e
    by_cases hk : k < out.length
    · rw [show (out.set k 2).getD k 0 = 2 by simp [List.getD, hk]]; exact .inr (.inr rfl)
    · rw [getD_none (by rw [List.length_set]; omega)]; exact .inl rfl
  · rw [show (out.set k 2).getD j 0 = out.getD j 0 by simp [List.getD, List.getElem?_set_ne e]]; exact h j
theorem dropTo_tri {N : Net} {ls : List Int} {ks : List Bool} {out : List Int} (h : AllTri out) : ∀ m, AllTri (dropTo N ls ks out m) := by
  intro m
  induction m with
  | zero => exact h
  | succ m ih =>
    show AllTri (dropStep N ls ks (dropTo N ls ks out m) m)
    unfold dropStep
    split
    · exact ih
    · split
      · exact tri_set ih m
      · exact ih
theorem start_at (N : Net) (ins : List Int) {k : Nat} (h : k < (startL N ins N.length).length) : (startL N ins N.length).getD k 0 = tIn ins k := by
  unfold startL at h ⊢
  rw [List.length_map, List.length_range] at h
  simp [List.getD, h]
theorem start_tri (N : Net) (ins : List Int) : AllTri (startL N ins N.length) := by
  intro j
  by_cases h : j < (startL N ins N.length).length
  · rw [start_at N ins h]; exact tIn_two _ _
  · rw [getD_none (by omega)]; exact .inl rfl
theorem tIn_tri {out : List Int} (h : AllTri out) {k : Nat} (hk : k < out.length) : tIn out k = out.getD k 0 := by
  unfold tIn; rw [if_pos hk]; exact tv_two (h k)
theorem start_vals (N : Net) (ins : List Int) : tSt (startL N ins N.length) N = tSt ins N := by
  refine tSt_same fun k hk => ?_
  have hl : k < (startL N ins N.length).length := by rw [startL_len]; exact hk
  rw [tIn_tri (start_tri N ins) hl, start_at N ins hl]
/-- what is known ahead of the j-th input -/
theorem free_in {ns : List (Int × Int)} {zs ls : List Int} {ks : List Bool} {M : List Bool} (hg : GoodN ns) (hn : ns.length ≤ 1000) {i j : Nat} (hi : (ns.map absN)[i]? = some none) (hc : cntI (ns.map absN) i = j)
    (hf : ∀ m, M.getD m false = true → Fo (ns.map absN) ls (dropTo (ns.map absN) ls ks (startL (ns.map absN) zs (ns.map absN).length) j) m) :
    FreeIn ns (tSt zs (ns.map absN)).1 (tSt (dropTo (ns.map absN) ls ks (startL (ns.map absN) zs (ns.map absN).length) j) (ns.map absN)).1
      (tSt ((dropTo (ns.map absN) ls ks (startL (ns.map absN) zs (ns.map absN).length) j).set j 2) (ns.map absN)).1 ls (dropTo (ns.map absN) ls ks (startL (ns.map absN) zs (ns.map absN).length) j) M (i + 1) j := by
  have hlow : Lower (dropTo (ns.map absN) ls ks (startL (ns.map absN) zs (ns.map absN).length) j) (startL (ns.map absN) zs (ns.map absN).length) := fun k => drop_below (ns.map absN) ls ks _ (Nat.zero_le j) k
  refine ⟨hg, hn, rfl, rfl, ⟨i, rfl, hi, hc⟩, fun x => ?_, ?_, hf⟩
  · rw [← start_vals (ns.map absN) zs]; exact tSt_lower hlow _ x
  · rw [← start_vals (ns.map absN) zs, tSt_input _ hi, tSt_input _ hi, hc]
    unfold tIn
    rw [drop_len, dropTo_rest _ _ _ _ j j (Nat.le_refl _)]
end Go.Proofs.Ytoacedadfjoneaa.aig
