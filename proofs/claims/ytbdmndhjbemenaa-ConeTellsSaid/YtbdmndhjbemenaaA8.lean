/- The walks of the document's Inputs and Levels. -/
import Derived.Test.YtbdmndhjbemenaaA7
namespace Go.Proofs.Ytbdmndhjbemenaa.aig
open Go.RowKit
open Go.Proofs.Ytbdmndhjbemenaa.mem Go.Proofs.Ytbdmndhjbemenaa.agf

/-- a list of the call's own, behind an append -/
theorem row_end {base t c : Nat} {lv : Value} {L : List Int} {r : Int} {w w1 w2 : World} {o : Obj} (hb : Below base w w1) (hs : base ≤ w1.heap.size) (hrow : w1.ownsRow base 3 1 lv L.length (L.map (Value.int .i64)))
    (hown : w2.ownsRow base 3 1 (.slice (some ⟨t, 0, none⟩) (L.length + 1) c) (L.length + 1) (L.map (Value.int .i64) ++ [.int .i64 r])) (hg : (w1.alloc o).grownBy w2 lv.ownBlock) :
    w2.ownsRow base 3 1 (.slice (some ⟨t, 0, none⟩) (L.length + 1) c) (L ++ [r]).length ((L ++ [r]).map (Value.int .i64)) ∧ Below base w w2 := by
  refine ⟨?_, (hb.alloc hs o).grown hg (by simp; omega) (fun k hk => (hrow.lt k hk).1)⟩
  rw [map_snocI] at hown
  rw [List.length_append, List.length_singleton]; exact hown
/-- how a list is told -/
def Told (L : List Int) (w : World) (e : Ending) (w' : World) : Prop :=
  ∃ v, e = .returned v ∧ w'.ownsRow w.heap.size 3 1 v L.length (L.map (Value.int .i64)) ∧ Below w.heap.size w w'
/-- the variables of the inputs among the first k nodes -/
def inpTo (ns : List (Int × Int)) (k : Nat) : List Int := ((List.range k).filter fun i => decide ((ns.getD i (0, 0)).1 < 0)).map fun i : Nat => (i : Int) + 1
theorem inpTo_step (ns : List (Int × Int)) (k : Nat) : inpTo ns (k + 1) = inpTo ns k ++ (if (ns.getD k (0, 0)).1 < 0 then [(k : Int) + 1] else []) := by
  unfold inpTo
  rw [List.range_succ, List.filter_append, List.map_append]
  by_cases h : (ns.getD k (0, 0)).1 < 0
  · rw [if_pos h]; simp only [List.filter_cons, decide_eq_true h, if_true, List.filter_nil, List.map_cons, List.map_nil]
  · rw [if_neg h]; simp only [List.filter_cons, decide_eq_false h, Bool.false_eq_true, if_false, List.filter_nil, List.map_nil]
theorem inpTo_len (ns : List (Int × Int)) (k : Nat) : (inpTo ns k).length ≤ k := by
  unfold inpTo; rw [List.length_map]
  exact Nat.le_trans (List.length_filter_le _ _) (by simp)
theorem KNds.on {w w' : World} {v : Value} {ns : List (Int × Int)} {P : Nat → Prop} (h : KNds P w v ns) (hb : Below w.heap.size w w') : KNds P w' v ns := h.move (moved_of_below hb)
/-- the levels, one node more -/
def lvStep (L : List Int) (p : Int × Int) : List Int := L ++ [if p.1 < 0 then 0 else max (L.getD (p.1.toNat / 2) 0) (L.getD (p.2.toNat / 2) 0) + 1]
def levels (ns : List (Int × Int)) : List Int := ns.foldl lvStep [0]
theorem levels_step {ns : List (Int × Int)} {k : Nat} (h : k < ns.length) : levels (ns.take (k + 1)) = lvStep (levels (ns.take k)) (ns.getD k (0, 0)) := by
  rw [List.take_succ_eq_append_getElem h]
  unfold levels
  rw [List.foldl_append]
  simp [List.getD, h]
/-- how high the levels are -/
def Lvls (L : List Int) (k : Nat) : Prop := ∀ j, 0 ≤ L.getD j 0 ∧ L.getD j 0 ≤ (k : Int)
theorem lvls_more {L : List Int} {k : Nat} {r : Int} (h : Lvls L k) (hr : 0 ≤ r ∧ r ≤ (k : Int) + 1) : Lvls (L ++ [r]) (k + 1) := by
  intro j
  rcases Nat.lt_trichotomy j L.length with e | e | e
  · rw [snocI_l e]; have := h j; omega
  · rw [e, snocI_r]; omega
  · have : (L ++ [r]).getD j 0 = 0 := by simp only [List.getD]; rw [List.getElem?_eq_none (by simp; omega)]; rfl
    rw [this]; omega
theorem row_cell {w : World} {base t c : Nat} {L : List Int} (h : w.ownsRow base 3 1 (.slice (some ⟨t, 0, none⟩) L.length c) L.length (L.map (Value.int .i64))) {j : Nat} (hj : j < L.length) : w.cell? ⟨t, j, none⟩ = some (.int .i64 (L.getD j 0)) := by
  rw [h.cellAt j (by omega), List.getElem?_map, List.getElem?_eq_getElem hj]; simp [List.getD, hj]
set_option maxHeartbeats 3200000 in
theorem refLevels_any (P : Nat → Prop) (v : Value) (ns : List (Int × Int)) (w : World) (hv : KNds P w v ns) (hg : GoodN ns) (hn : ns.length ≤ 1000) :
    Calls Try.prog 31 #[v] w (Told (levels ns) w) := by
  obtain ⟨i0, hi, hz0, hz1, hz2⟩ := info_parts infoI
  obtain ⟨a, cap, rfl, l1, l2⟩ := hv.form
  unfold maxLen at l2
  obtain ⟨m, hm⟩ : ∃ m, m = ns.length := ⟨_, rfl⟩
  rw [← hm] at l1 hn hv
  have HV := Lib.hid hv
  have HM := Lib.hid hm
  have HG := Lib.hid hg
  have HB0 : Hid (Below w.heap.size w (w.alloc (.cells #[.int .i64 0] 3))) := Lib.hid ((Below.refl _ _).alloc (Nat.le_refl _) _)
  have HR0 : Hid ((w.alloc (.cells #[.int .i64 0] 3)).ownsRow w.heap.size 3 1 (.slice (some ⟨w.heap.size, 0, none⟩) 1 1) 1 [.int .i64 0]) := Lib.hid (World.ownsRow_lit w #[.int .i64 0] 1 (Nat.le_refl _) (by unfold maxLen; omega) rfl)
  rw [← hm]
  clear hv hm hg
  go_enter Try.func31, Try.ntmps31
  go_wp2_with fail
  go_loopw [3, 4] (fun l i wr => ∃ (k : Nat) (L : List Int) (lv : Value), k ≤ m ∧ i = .int .i64 k ∧ l = lv ∧ L.length = k + 1 ∧ Hid (L = levels (ns.take k)) ∧ Hid (Lvls L k) ∧ Hid (wr.ownsRow w.heap.size 3 1 lv L.length (L.map (Value.int .i64)) ∧ Below w.heap.size w wr)) (fun _ i _ => m - (intOf i).toNat)
  case atStart => exact ⟨0, [0], _, Nat.zero_le _, rfl, rfl, rfl, Lib.hid rfl, Lib.hid (fun j => by cases j <;> simp), Lib.hid ⟨HR0.out, HB0.out⟩⟩
  case round =>
    clear HB0 HR0
    obtain ⟨k, L, lv, hk, rfl, hlv, hL, HLI, HLV, HW⟩ := hrel
    obtain rfl : lv = _ := hlv.symm
    obtain ⟨wo, rfl⟩ : ∃ wo : World, wo = wr := ⟨_, rfl⟩
    by_cases hlt : k < m
    · obtain ⟨b, off, rfl, -, e1, e2⟩ := (HV.out.on HW.out.2).at_ hlt
      have HST := Lib.hid (levels_step (ns := ns) (k := k) (by rw [← HM.out]; exact hlt))
      have hgg := HG.out k (by rw [← HM.out]; exact hlt)
      obtain ⟨pq, hpq⟩ : ∃ pq, pq = ns.getD k (0, 0) := ⟨_, rfl⟩
      rw [← hpq] at e1 e2 HST hgg
      obtain ⟨p, q⟩ := pq
      simp only at e1 e2 hgg
      obtain ⟨t, c, rfl, -⟩ := HW.out.1.form (by omega)
      have hsz := HW.out.2.size
      have d1 : (k : Int) < (m : Int) := by omega
      have d2 : 0 ≤ (k : Int) := by omega
      have HLL := Lib.hid hL
      have hLb : L.length ≤ 1001 := by omega
      clear hpq
      by_cases g0 : p < 0
      · have c1 : decide (0 ≤ p) = false := by simp; omega
        have HN : Hid (L ++ [0] = levels (ns.take (k + 1))) := Lib.hid (by rw [HST.out, ← HLI.out]; unfold lvStep; rw [if_pos g0])
        have HLV2 := Lib.hid (lvls_more HLV.out (r := 0) (by omega))
        have HROW := Lib.hid (own_on HW.out.1 ((Below.refl _ wo).alloc (Nat.le_refl _) (.cells #[.int .i64 0] 3)))
        clear g0 hgg hL
        go_wp2_with (at_builtin; refine wpList_append_lies _ rfl (.tmp 50) (.tmp 52) 23 rfl w.heap.size 3 i0 (.int .i64 0) 1 8 Try.underlying23 hi hz0 hz1 hz2 rfl (by decide) (.slice (some ⟨t, 0, none⟩) L.length c) L.length (L.map (Value.int .i64)) rfl HROW.out ⟨wo.heap.size, 0, none⟩ 1 1 [.int .i64 0] rfl rfl (news1 _ _ _) (one_cell _) (by omega) (by unfold maxLen; omega) (by omega) (by simp; omega) _ rfl ?_)
        intro t2 c2 w2 hown hgrow _ _
        have HE := Lib.hid (row_end HW.out.2 hsz HW.out.1 hown hgrow)
        clear hown hgrow
        go_wp2_with fail
        go_roundw
        case rel => exact ⟨k + 1, L ++ [0], .slice (some ⟨t2, 0, none⟩) (L.length + 1) c2, by omega, by go_num, rfl, by rw [List.length_append, List.length_singleton, HLL.out], HN, HLV2, HE⟩
        case measure => simp [intOf]; omega
      · have c1 : decide (0 ≤ p) = true := by simp; omega
        obtain ⟨g1, g2, g3⟩ := hgg (by omega)
        obtain ⟨x, rfl⟩ := Int.eq_ofNat_of_zero_le (show 0 ≤ p by omega)
        obtain ⟨y, rfl⟩ := Int.eq_ofNat_of_zero_le g2
        have x1 := row_cell HW.out.1 (j := x / 2) (by omega)
        have x2 := row_cell HW.out.1 (j := y / 2) (by omega)
        have v1 := HLV.out (x / 2)
        have v2 := HLV.out (y / 2)
        have HN0 : Hid (∀ r, r = max (L.getD (x / 2) 0) (L.getD (y / 2) 0) + 1 → L ++ [r] = levels (ns.take (k + 1))) := Lib.hid (by
          rintro r rfl
          rw [HST.out, ← HLI.out]; unfold lvStep; rw [if_neg g0]; rfl)
        obtain ⟨la, hla⟩ : ∃ la, la = L.getD (x / 2) 0 := ⟨_, rfl⟩
        obtain ⟨lb, hlb⟩ : ∃ lb, lb = L.getD (y / 2) 0 := ⟨_, rfl⟩
        rw [← hla] at x1 v1 HN0
        rw [← hlb] at x2 v2 HN0
        have b3 : (x : Int) / 2 < (L.length : Int) := by omega
        have b4 : 0 ≤ (x : Int) / 2 := by omega
        have b5 : (y : Int) / 2 < (L.length : Int) := by omega
        have b6 : 0 ≤ (y : Int) / 2 := by omega
        have hk1 : k ≤ 1000 := by omega
        obtain ⟨v3, v4⟩ := v1
        obtain ⟨v5, v6⟩ := v2
        clear hgg g0 g1 g2 g3 hla hlb hL
        by_cases hab : la < lb
        · have c2 : decide (la < lb) = true := decide_eq_true hab
          have HLV2 := Lib.hid (lvls_more HLV.out (r := lb + 1) (by omega))
          have HN := Lib.hid (HN0.out (lb + 1) (by omega))
          have HROW := Lib.hid (own_on HW.out.1 ((Below.refl _ wo).alloc (Nat.le_refl _) (.cells #[.int .i64 (lb + 1)] 3)))
          clear hab
          go_wp2_with (at_builtin; refine wpList_append_lies _ rfl (.tmp 50) (.tmp 52) 23 rfl w.heap.size 3 i0 (.int .i64 0) 1 8 Try.underlying23 hi hz0 hz1 hz2 rfl (by decide) (.slice (some ⟨t, 0, none⟩) L.length c) L.length (L.map (Value.int .i64)) rfl HROW.out ⟨wo.heap.size, 0, none⟩ 1 1 [.int .i64 (lb + 1)] rfl rfl (news1 _ _ _) (one_cell _) (by omega) (by unfold maxLen; omega) (by omega) (by simp; omega) _ rfl ?_)
          intro t2 c2' w2 hown hgrow _ _
          have HE := Lib.hid (row_end HW.out.2 hsz HW.out.1 hown hgrow)
          clear hown hgrow
          go_wp2_with fail
          go_roundw
          case rel => exact ⟨k + 1, L ++ [lb + 1], .slice (some ⟨t2, 0, none⟩) (L.length + 1) c2', by omega, by go_num, rfl, by rw [List.length_append, List.length_singleton, HLL.out], HN, HLV2, HE⟩
          case measure => simp [intOf]; omega
        · have c2 : decide (la < lb) = false := decide_eq_false hab
          have HLV2 := Lib.hid (lvls_more HLV.out (r := la + 1) (by omega))
          have HN := Lib.hid (HN0.out (la + 1) (by omega))
          have HROW := Lib.hid (own_on HW.out.1 ((Below.refl _ wo).alloc (Nat.le_refl _) (.cells #[.int .i64 (la + 1)] 3)))
          clear hab
          go_wp2_with (at_builtin; refine wpList_append_lies _ rfl (.tmp 50) (.tmp 52) 23 rfl w.heap.size 3 i0 (.int .i64 0) 1 8 Try.underlying23 hi hz0 hz1 hz2 rfl (by decide) (.slice (some ⟨t, 0, none⟩) L.length c) L.length (L.map (Value.int .i64)) rfl HROW.out ⟨wo.heap.size, 0, none⟩ 1 1 [.int .i64 (la + 1)] rfl rfl (news1 _ _ _) (one_cell _) (by omega) (by unfold maxLen; omega) (by omega) (by simp; omega) _ rfl ?_)
          intro t2 c2' w2 hown hgrow _ _
          have HE := Lib.hid (row_end HW.out.2 hsz HW.out.1 hown hgrow)
          clear hown hgrow
          go_wp2_with fail
          go_roundw
          case rel => exact ⟨k + 1, L ++ [la + 1], .slice (some ⟨t2, 0, none⟩) (L.length + 1) c2', by omega, by go_num, rfl, by rw [List.length_append, List.length_singleton, HLL.out], HN, HLV2, HE⟩
          case measure => simp [intOf]; omega
    · obtain rfl : m = k := by omega
      have HE : Hid (Told (levels ns) w (.returned lv) wo) := Lib.hid (by
        have e := HLI.out
        rw [HM.out, List.take_length] at e
        rw [← e]; exact ⟨lv, rfl, HW.out.1, HW.out.2⟩)
      clear hlt hk hL
      go_wp2_with fail
      go_ret
      exact HE.out
end Go.Proofs.Ytbdmndhjbemenaa.aig
