/- The walk of the document's Hangs. -/
import Derived.Test.YtbdmndhjbemenaaA9
import Derived.Test.YtbdmndhjbemenaaFnO
import Derived.Test.YtbdmndhjbemenaaIb
namespace Go.Proofs.Ytbdmndhjbemenaa.aig
open Go.RowKit
open Go.Proofs.Ytbdmndhjbemenaa.mem Go.Proofs.Ytbdmndhjbemenaa.agf

/-- truths, filled up to n by no -/
def padB (L : List Bool) (n : Nat) : List Bool := L ++ List.replicate (n - L.length) false
theorem padB_len {L : List Bool} {n : Nat} (h : L.length ≤ n) : (padB L n).length = n := by unfold padB; simp; omega
theorem padB_set {L : List Bool} {n : Nat} {r : Bool} (h : L.length < n) : (padB L n).set L.length r = padB (L ++ [r]) n := by
  unfold padB
  rw [List.set_append_right _ _ (Nat.le_refl _), Nat.sub_self, show n - L.length = (n - (L ++ [r]).length) + 1 by simp; omega, List.replicate_succ, List.set_cons_zero]
  simp
theorem padB_at {L : List Bool} {n j : Nat} (h : j < L.length) : (padB L n)[j]? = some (L.getD j false) := by
  unfold padB
  rw [List.getElem?_append_left h, List.getElem?_eq_getElem h]
  simp [List.getD, h]
theorem padB_nil (n : Nat) : padB [] n = List.replicate n false := by unfold padB; simp
theorem madeB (n : Nat) : (madeCells #[Value.bool false] n).toList = (padB [] n).map Value.bool := by
  rw [padB_nil]
  simp [madeCells, Nat.mod_one, List.map_const']
theorem up_low (N : Net) (v : Nat) : ∀ k, k < v → upL N v k = List.replicate (k + 1) false := by
  intro k
  induction k with
  | zero => intro _; rfl
  | succ k ih =>
    intro hk
    have e := ih (by omega)
    unfold upL
    rw [e, decide_eq_false (by omega)]
    have hg : gateB N (List.replicate (k + 1) false) k = false := by
      have key : ∀ j, (List.replicate (k + 1) false).getD j false = false := fun j => by
        simp only [List.getD]
        by_cases hj : j < k + 1
        · simp [hj]
        · rw [List.getElem?_eq_none (by simp; omega)]; rfl
      unfold gateB
      split
      · rw [key, key]; rfl
      · rfl
    rw [hg, List.replicate_succ' (n := k + 1)]; rfl
theorem up_at (N : Net) {v : Nat} (h : 1 ≤ v) : upL N v v = List.replicate v false ++ [true] := by
  obtain ⟨k, rfl⟩ : ∃ k, v = k + 1 := ⟨v - 1, by omega⟩
  unfold upL
  rw [decide_eq_true rfl, up_low N (k + 1) k (by omega)]; rfl
theorem pad_start (N : Net) {v n : Nat} (h : 1 ≤ v) (hv : v < n) : (padB [] n).set v true = padB (upL N v v) n := by
  rw [up_at N h]
  have e : padB [] n = padB (List.replicate v false) n := by
    unfold padB; simp only [List.nil_append, List.length_nil, Nat.sub_zero, List.length_replicate]
    rw [List.replicate_append_replicate]; congr 1; omega
  have hs := padB_set (L := List.replicate v false) (n := n) (r := true) (by simp; exact hv)
  rw [List.length_replicate] at hs
  rw [e, hs]
theorem up_step {ns : List (Int × Int)} (v : Nat) {k : Nat} (hk : k < ns.length) (hv : v ≤ k) (x : Bool)
    (hx : x = (if (ns.getD k (0, 0)).1 < 0 then false else ((upL (ns.map absN) v k).getD ((ns.getD k (0, 0)).1.toNat / 2) false || (upL (ns.map absN) v k).getD ((ns.getD k (0, 0)).2.toNat / 2) false))) :
    upL (ns.map absN) v (k + 1) = upL (ns.map absN) v k ++ [x] := by
  show upL (ns.map absN) v k ++ [decide (k + 1 = v) || gateB (ns.map absN) (upL (ns.map absN) v k) k] = _
  rw [decide_eq_false (by omega), Bool.false_or, hx]
  unfold gateB
  rw [absN_at hk]
  unfold absN
  by_cases h : (ns.getD k (0, 0)).1 < 0
  · rw [if_pos h, if_pos h]
  · rw [if_neg h, if_neg h]
theorem bcell {w : World} {base t n c : Nat} {L : List Bool} {k : Nat} (h : w.ownsRow base 4 1 (.slice (some ⟨t, 0, none⟩) n c) n ((padB L n).map Value.bool)) (hk : k < L.length) (hn : L.length ≤ n) : w.cell? ⟨t, k, none⟩ = some (.bool (L.getD k false)) := by
  rw [h.cellAt k (by omega), List.getElem?_map, padB_at hk]; rfl
/-- how a truth is told, with memory made -/
def SaysB (b : Bool) (w : World) (e : Ending) (w' : World) : Prop := e = .returned (.bool b) ∧ Below w.heap.size w w'
theorem hangs_no {N : Net} {l v : Int} (h : ¬ (2 ≤ l ∧ l / 2 ≤ (N.length : Int) ∧ 1 ≤ v ∧ hangV N (l / 2).toNat v.toNat = true)) : hangsB N l v = false := by
  cases e : hangsB N l v with
  | false => rfl
  | true => exact absurd (hangs_iff.1 e) h
set_option maxRecDepth 100000 in
set_option maxHeartbeats 3200000 in
theorem refHangs_any (P : Nat → Prop) (v : Value) (ns : List (Int × Int)) (l x : Int) (w : World) (hv : KNds P w v ns) (hg : GoodN ns) (hn : ns.length ≤ 1000) (hl : In64 l) :
    Calls Try.prog 27 #[v, .int .i64 l, .int .i64 x] w (SaysB (hangsB (ns.map absN) l x) w) := by
  obtain ⟨i0, hi, hz0, hz1, hz2⟩ := info_parts infoB
  obtain ⟨a, cap, rfl, l1, l2⟩ := hv.form
  unfold maxLen at l2
  obtain ⟨m, hm⟩ : ∃ m, m = ns.length := ⟨_, rfl⟩
  have hN : (ns.map absN).length = m := by rw [List.length_map, hm]
  rw [← hm] at l1 hn hv ⊢
  have HV := Lib.hid hv
  have HM := Lib.hid hm
  have HG := Lib.hid hg
  have HNL := Lib.hid hN
  unfold In64 at hl
  obtain ⟨hl0, hl9⟩ := hl
  have no : ¬ (2 ≤ l ∧ l / 2 ≤ (m : Int) ∧ 1 ≤ x ∧ x ≤ l / 2) → Hid (SaysB (hangsB (ns.map absN) l x) w (.returned (.bool false)) w) := fun h => Lib.hid (by
    rw [hangs_no (fun e => h ?_)]
    · exact ⟨rfl, Below.refl _ _⟩
    · rw [hN] at e
      have := hang_le (good_abs hg) _ e.2.2.2
      exact ⟨e.1, e.2.1, e.2.2.1, by omega⟩)
  by_cases c1 : l < 2
  · have HE := no (by omega)
    clear hv hm hg no hN
    go_enter Try.func27, Try.ntmps27
    go_wp2_with fail
    go_ret
    exact HE.out
  have d1 : decide (l < 2) = false := decide_eq_false c1
  obtain ⟨q, hq⟩ : ∃ q : Nat, l = (q : Int) := ⟨l.toNat, by omega⟩
  subst hq
  by_cases c2 : (m : Int) < (q : Int) / 2
  · have HE := no (by omega)
    have d2 : decide ((m : Int) < (q : Int) / 2) = true := decide_eq_true c2
    clear hv hm hg no hN c1
    go_enter Try.func27, Try.ntmps27
    go_wp2_with fail
    go_ret
    exact HE.out
  have d2 : decide ((m : Int) < (q : Int) / 2) = false := decide_eq_false c2
  by_cases c3 : x < 1
  · have HE := no (by omega)
    clear hv hm hg no hN c1 c2
    go_enter Try.func27, Try.ntmps27
    go_wp2_with fail
    go_ret
    exact HE.out
  have d3 : decide (x < 1) = false := decide_eq_false c3
  obtain ⟨y, hy⟩ : ∃ y : Nat, x = (y : Int) := ⟨x.toNat, by omega⟩
  subst hy
  by_cases c4 : (q : Int) / 2 < (y : Int)
  · have HE := no (by omega)
    have d4 : decide ((q : Int) / 2 < (y : Int)) = true := decide_eq_true c4
    clear hv hm hg no hN c1 c2 c3
    go_enter Try.func27, Try.ntmps27
    go_wp2_with fail
    go_ret
    exact HE.out
  have d4 : decide ((q : Int) / 2 < (y : Int)) = false := decide_eq_false c4
  obtain ⟨n1, hn1⟩ : ∃ n1, n1 = m + 1 := ⟨_, rfl⟩
  have HQ1 : Hid ((m : Int) + 1 = (n1 : Int)) := Lib.hid (by omega)
  have HN1 := Lib.hid hn1
  have q2 : n1 ≤ 1001 := by omega
  have y1 : 1 ≤ y := by omega
  have y2 : y ≤ q / 2 := by omega
  have y3 : q / 2 < n1 := by omega
  have b1 : (y : Int) < (n1 : Int) := by omega
  have b2 : 0 ≤ (y : Int) := by omega
  have HPS := Lib.hid (pad_start (ns.map absN) (v := y) (n := n1) y1 (by omega))
  have HR : Hid (hangsB (ns.map absN) (q : Int) (y : Int) = hangV (ns.map absN) (q / 2) y) := Lib.hid (by
    unfold hangsB
    rw [decide_eq_true (show (2 : Int) ≤ q by omega), decide_eq_true (show (q : Int) / 2 ≤ ((ns.map absN).length : Int) by rw [hN]; omega), decide_eq_true (show (1 : Int) ≤ y by omega)]
    rw [show ((q : Int) / 2).toNat = q / 2 by omega, show ((y : Int)).toNat = y by omega]; rfl)
  have hz := Nat.le_refl w.heap.size
  clear hv hm hg no hN c1 c2 c3 c4 hn1
  go_enter Try.func27, Try.ntmps27
  go_wp2_with (refine wpList_make_full _ rfl (.tmp 30) (.tmp 30) 33 rfl w.heap.size 4 i0 (.bool false) 1 Try.underlying33 hi hz0 hz1 .i64 .i64 _ _ n1 rfl rfl HQ1.out HQ1.out (by rw [hz2]; omega) (by unfold maxLen; omega) hz ?_)
  intro w1 hown hgrow
  have HB1 : Hid (Below w.heap.size w w1) := Lib.hid ((Below.refl _ w).grown hgrow hz (fun k hk => by cases hk))
  rw [show (madeCells #[Value.bool false] n1).toList = (padB [] n1).map Value.bool from madeB n1] at hown
  have f1 := hown.frozenAt y
  have z1 := hown.cellAt y (by omega)
  obtain ⟨u1, hu1⟩ : ∃ u, ((padB [] n1).map Value.bool)[y]? = some u := ⟨_, List.getElem?_eq_getElem (by rw [List.length_map, padB_len (by simp)]; omega)⟩
  rw [hu1] at z1
  have hst := (hown.stored y (.bool true)).1
  rw [← List.map_set, HPS.out] at hst
  have HS1 : Hid ((w1.setCell ⟨w.heap.size, y, none⟩ (.bool true)).ownsRow w.heap.size 4 1 (.slice (some ⟨w.heap.size, 0, none⟩) n1 n1) n1 ((padB (upL (ns.map absN) y y) n1).map Value.bool) ∧ Below w.heap.size w (w1.setCell ⟨w.heap.size, y, none⟩ (.bool true))) := Lib.hid ⟨hst, HB1.out.setCell (p := ⟨w.heap.size, y, none⟩) hz _⟩
  clear hown hgrow hu1 hst
  go_wp2_with fail
  go_loopw [8] (fun i wr => ∃ k : Nat, y ≤ k ∧ k ≤ q / 2 ∧ i = .int .i64 k ∧ Hid (wr.ownsRow w.heap.size 4 1 (.slice (some ⟨w.heap.size, 0, none⟩) n1 n1) n1 ((padB (upL (ns.map absN) y k) n1).map Value.bool) ∧ Below w.heap.size w wr)) (fun i _ => q / 2 - (intOf i).toNat)
  case atStart => exact ⟨y, Nat.le_refl _, y2, rfl, HS1⟩
  case round =>
    clear HS1 HB1 z1 f1
    obtain ⟨k, hyk, hk, rfl, HW⟩ := hrel
    obtain ⟨wo, rfl⟩ : ∃ wo : World, wo = wr := ⟨_, rfl⟩
    have hUL := up_len (ns.map absN) y k
    have HUL := Lib.hid hUL
    by_cases hlt : k < q / 2
    · have hkm : k < m := by have := HN1.out; omega
      obtain ⟨b, off, rfl, -, e1, e2⟩ := (HV.out.on HW.out.2).at_ hkm
      have hgg := HG.out k (by rw [← HM.out]; exact hkm)
      have HST := Lib.hid (fun r => up_step (ns := ns) y (k := k) (by rw [← HM.out]; exact hkm) hyk r)
      obtain ⟨pq, hpq⟩ : ∃ pq, pq = ns.getD k (0, 0) := ⟨_, rfl⟩
      rw [← hpq] at e1 e2 HST hgg
      obtain ⟨p, r⟩ := pq
      simp only at e1 e2 hgg HST
      have f3 := HW.out.1.frozenAt (k + 1)
      have z3 := HW.out.1.cellAt (k + 1) (by omega)
      obtain ⟨u3, hu3⟩ : ∃ u, ((padB (upL (ns.map absN) y k) n1).map Value.bool)[k + 1]? = some u := ⟨_, List.getElem?_eq_getElem (by rw [List.length_map, padB_len (by omega)]; omega)⟩
      rw [hu3] at z3
      have hwz := HW.out.2.size
      have d5 : (k : Int) < (q : Int) / 2 := by omega
      have d6 : 0 ≤ (k : Int) := by omega
      have d7 : (k : Int) + 1 < (n1 : Int) := by omega
      have d8 : (k : Int) < (m : Int) := by omega
      have HE : Hid (∀ r, upL (ns.map absN) y (k + 1) = upL (ns.map absN) y k ++ [r] → (wo.setCell ⟨w.heap.size, k + 1, none⟩ (.bool r)).ownsRow w.heap.size 4 1 (.slice (some ⟨w.heap.size, 0, none⟩) n1 n1) n1 ((padB (upL (ns.map absN) y (k + 1)) n1).map Value.bool) ∧ Below w.heap.size w (wo.setCell ⟨w.heap.size, k + 1, none⟩ (.bool r))) := Lib.hid (fun r hr => by
        have h := (HW.out.1.stored (k + 1) (.bool r)).1
        have hs := padB_set (L := upL (ns.map absN) y k) (n := n1) (r := r) (by omega)
        rw [hUL] at hs
        rw [← List.map_set, hs, ← hr] at h
        exact ⟨h, HW.out.2.setCell (p := ⟨w.heap.size, k + 1, none⟩) hz _⟩)
      by_cases g0 : p < 0
      · have c1 : decide (0 ≤ p) = false := by simp; omega
        have HX := Lib.hid (HE.out false (HST.out false (by rw [if_pos g0])))
        clear g0 hgg hpq hu3 hUL
        go_wp2_with fail
        go_roundw
        case rel => exact ⟨k + 1, by omega, by omega, by go_num, HX⟩
        case measure => simp [intOf]; omega
      · have c1 : decide (0 ≤ p) = true := by simp; omega
        obtain ⟨g1, g2, g3⟩ := hgg (by omega)
        obtain ⟨x, rfl⟩ := Int.eq_ofNat_of_zero_le (show 0 ≤ p by omega)
        obtain ⟨z, rfl⟩ := Int.eq_ofNat_of_zero_le g2
        have x1 := bcell HW.out.1 (k := x / 2) (by omega) (by omega)
        have x2 := bcell HW.out.1 (k := z / 2) (by omega) (by omega)
        have HST2 : Hid (∀ r, r = ((upL (ns.map absN) y k).getD (x / 2) false || (upL (ns.map absN) y k).getD (z / 2) false) → upL (ns.map absN) y (k + 1) = upL (ns.map absN) y k ++ [r]) := Lib.hid (fun r hr => HST.out r (by rw [if_neg g0]; exact hr))
        have b3 : (x : Int) / 2 < (n1 : Int) := by omega
        have b4 : 0 ≤ (x : Int) / 2 := by omega
        have b5 : (z : Int) / 2 < (n1 : Int) := by omega
        have b6 : 0 ≤ (z : Int) / 2 := by omega
        cases h1 : (upL (ns.map absN) y k).getD (x / 2) false with
        | true =>
          rw [h1] at x1
          have HX := Lib.hid (HE.out true (HST2.out true (by rw [h1]; rfl)))
          clear g0 hgg hpq hu3 hUL h1 g1 g2 g3
          go_wp2_with fail
          go_roundw
          case rel => exact ⟨k + 1, by omega, by omega, by go_num, HX⟩
          case measure => simp [intOf]; omega
        | false =>
          rw [h1] at x1
          obtain ⟨b2, hb2⟩ : ∃ b2, b2 = (upL (ns.map absN) y k).getD (z / 2) false := ⟨_, rfl⟩
          rw [← hb2] at x2
          have HX := Lib.hid (HE.out b2 (HST2.out b2 (by rw [h1, hb2]; rfl)))
          clear g0 hgg hpq hu3 hUL h1 hb2 g1 g2 g3
          go_wp2_with fail
          go_roundw
          case rel => exact ⟨k + 1, by omega, by omega, by go_num, HX⟩
          case measure => simp [intOf]; omega
    · obtain rfl : k = q / 2 := by omega
      have x1 := bcell HW.out.1 (k := q / 2) (by omega) (by omega)
      have HY : Hid ((upL (ns.map absN) y (q / 2)).getD (q / 2) false = hangsB (ns.map absN) (q : Int) (y : Int)) := Lib.hid (by
        rw [HR.out]; exact hang_up (Nat.le_refl _) (by rw [HNL.out]; have := HN1.out; omega))
      obtain ⟨b0, hb0⟩ : ∃ b0, b0 = (upL (ns.map absN) y (q / 2)).getD (q / 2) false := ⟨_, rfl⟩
      rw [← hb0] at x1 HY
      have d5 : ¬ (((q / 2 : Nat) : Int) < (q : Int) / 2) := by omega
      have b3 : (q : Int) / 2 < (n1 : Int) := by omega
      have b4 : 0 ≤ (q : Int) / 2 := by omega
      clear hlt hb0 hUL
      go_wp2_with fail
      go_ret
      exact ⟨retB HY.out, HW.out.2⟩
end Go.Proofs.Ytbdmndhjbemenaa.aig
