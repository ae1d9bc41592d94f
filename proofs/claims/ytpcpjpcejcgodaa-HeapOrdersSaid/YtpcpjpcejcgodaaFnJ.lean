/- Heaps, purely: what a push, a new score and a pop begin with. -/
import Derived.Test.YtpcpjpcejcgodaaFnK
namespace Go.Proofs.Ytpcpjpcejcgodaa.hpf
open Go.Proofs.Ytpcpjpcejcgodaa.fns

theorem snoc_l {T : List Nat} {x i : Nat} (hi : i < T.length) : (T ++ [x]).getD i 0 = T.getD i 0 := by simp [List.getD, List.getElem?_append_left hi]
theorem snoc_r (T : List Nat) (x : Nat) : (T ++ [x]).getD T.length 0 = x := by simp [List.getD]
theorem push_way {n x : Nat} {S P T : List Nat} (h : Hok n S P T) (hx : x < n) (h0 : P.getD x 0 = 0) : OnWay n S x True (P.set x (T.length + 1)) (T ++ [x]) T.length := by
  have hf : Full T.length (vs S (T ++ [x])) := full_cong (fun i hi => by unfold vs; rw [snoc_l hi]) h.full
  have hm := full_more hf
  have hl : (T ++ [x]).length = T.length + 1 := by simp
  exact ⟨wf_push h.wf hx h0, by omega, snoc_r T x, by rw [hl]; exact hm.1, fun _ => by rw [hl]; exact hm.2⟩
theorem set_out {n x b : Nat} {S P T : List Nat} (h : Hok n S P T) (h0 : P.getD x 0 = 0) : Hok n (S.set x b) P T :=
  ⟨h.wf, full_cong (fun i hi => by
    unfold vs
    exact rank_set (by intro e; have := (h.wf.at_ i hi).2; rw [e, h0] at this; omega)) h.full⟩
theorem set_way {n x b q : Nat} {S P T : List Nat} (h : Hok n S P T) (hx : x < n) (hq : P.getD x 0 = q + 1) : OnWay n (S.set x b) x False P T q := by
  obtain ⟨a, c⟩ := h.wf.back x hx (by omega)
  rw [hq, Nat.add_sub_cancel] at c
  have hqT : q < T.length := by omega
  refine ⟨h.wf, hqT, c, ?_, fun e => e.elim⟩
  have hh : Hole T.length (fun i => if i = q then vs (S.set x b) T q else vs S T i) q := hole_of hqT h.full (fun i hi => by rw [if_neg hi])
  refine hole_cong (fun i hi => ?_) hqT hh
  by_cases e : i = q
  · rw [e, if_pos rfl]
  · rw [if_neg e]
    unfold vs
    exact rank_set (by intro e2; have := h.wf.inj hi hqT (by rw [e2, c]); exact e this)
theorem take_at {T : List Nat} {e i : Nat} (hi : i < e) : (T.take e).getD i 0 = T.getD i 0 := by simp [List.getD, hi]
theorem pop_wf {n e : Nat} {S P T : List Nat} (h : Hok n S P T) (he : T.length = e + 1) : Wf n ((swP P T 0 e).set (T.getD 0 0) 0) ((swT T 0 e).take e) ∧ ((swT T 0 e).take e).length = e := by
  obtain ⟨w1, -⟩ := wf_sw h.wf (i := 0) (k := e) (by omega) (by omega)
  refine ⟨wf_pop w1 (by rw [swT_len]; omega) (swT_r (by omega) (by omega)), ?_⟩
  rw [List.length_take, swT_len]; omega
theorem pop_none {n : Nat} {S P T : List Nat} (h : Hok n S P T) (he : T.length = 0 + 1) : Hok n S ((swP P T 0 0).set (T.getD 0 0) 0) ((swT T 0 0).take 0) :=
  ⟨(pop_wf h he).1, full_one _ (by simp)⟩
theorem pop_way {n e : Nat} {S P T : List Nat} (h : Hok n S P T) (he : T.length = e + 1) (h0 : 0 < e) :
    OnWay n S (((swT T 0 e).take e).getD 0 0) False ((swP P T 0 e).set (T.getD 0 0) 0) ((swT T 0 e).take e) 0 ∧ Up (vs S ((swT T 0 e).take e)) 0 := by
  obtain ⟨w1, l1⟩ := pop_wf h he
  refine ⟨⟨w1, by rw [l1]; exact h0, rfl, ?_, fun x => x.elim⟩, fun x => absurd x (by omega)⟩
  rw [l1]
  have hv : ∀ i, i < e → i ≠ 0 → vs S ((swT T 0 e).take e) i = vs S T i := by
    intro i hi h1
    unfold vs
    rw [take_at hi, swT_at (by omega) (by omega), sw_o _ h1 (by omega)]
  refine ⟨fun i i0 hi e1 e2 => ?_, fun i i0 hi e1 x => by omega⟩
  rw [hv i hi e1, hv _ (by omega) e2]
  exact h.full i i0 (by omega)
theorem same_set {n x : Nat} {P P' : List Nat} (hl : P.length = n) (hl' : P'.length = n) (hx : x < n) (h : Same P P') : Same (P.set x 0) (P'.set x 0) := by
  intro y
  rw [getD_set (by omega), getD_set (by omega)]
  by_cases e : y = x
  · rw [if_pos e, if_pos e]
  · rw [if_neg e, if_neg e]; exact h y
end Go.Proofs.Ytpcpjpcejcgodaa.hpf
