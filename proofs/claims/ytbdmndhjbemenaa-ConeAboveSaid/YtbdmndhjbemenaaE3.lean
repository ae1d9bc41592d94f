/- The walks of the project's cone: Of, Support, Depth. -/
import Derived.Test.YtbdmndhjbemenaaE2
namespace Go.Proofs.Ytbdmndhjbemenaa.aig
open Go.RowKit
open Go.Proofs.Ytbdmndhjbemenaa.mem Go.Proofs.Ytbdmndhjbemenaa.agf Go.Proofs.Ytbdmndhjbemenaa.fns
open Go.Proofs.Ytbdmndhjbemenaa.ints (Ints ints_of_owned)

/-- a call's own row, told behind what was made ahead of it -/
theorem told_late {L : List Int} {w w1 w2 : World} {lv : Value} (h1 : Below w.heap.size w w1) (h2 : w2.ownsRow w1.heap.size 3 1 lv L.length (L.map (Value.int .i64))) (h3 : Below w1.heap.size w1 w2) : Told L w (.returned lv) w2 :=
  ⟨lv, rfl, Joins.ownsRow_le h2 h1.size, h1.trans (h3.mono h1.size)⟩
set_option maxRecDepth 100000 in
set_option maxHeartbeats 1600000 in
theorem of_any (v u : Value) (ns : List (Int × Int)) (zs : List Int) (w : World) (hv : KNds (fun _ => False) w v ns) (hg : GoodN ns) (hn : ns.length ≤ 1000) (hu : Ints w u zs) :
    Calls Try.prog 10 #[v, u] w (Told (selTo (ofB (ns.map absN) zs) ns.length) w) := by
  obtain ⟨i0, hi, hz0, hz1, hz2⟩ := info_parts infoI
  have HC := Lib.hid (reached_any v u ns zs w hv hg hn hu)
  have HLN := Lib.hid (reach_len (ns.map absN) zs)
  have HAT := Lib.hid (fun i (h : i < (ns.map absN).length) => reach_at zs (i := i) h)
  have HZ0 : Hid ((reachL (ns.map absN) zs).getD 0 false = false) := Lib.hid rfl
  rw [List.length_map] at HLN HAT
  obtain ⟨m, hm⟩ : ∃ m, m = ns.length := ⟨_, rfl⟩
  rw [← hm] at hn HLN HAT
  rw [← hm]
  obtain ⟨f, hf⟩ : ∃ f, f = ofB (ns.map absN) zs := ⟨_, rfl⟩
  rw [← hf] at HAT
  rw [← hf]
  obtain ⟨BL, hBL⟩ : ∃ BL, BL = reachL (ns.map absN) zs := ⟨_, rfl⟩
  rw [← hBL] at HC HLN HAT HZ0
  obtain ⟨q0, hq0⟩ : ∃ q0, q0 = BL.length := ⟨_, rfl⟩
  have HQ := Lib.hid hq0
  have HQM : Hid (q0 = m + 1) := Lib.hid (by rw [hq0]; exact HLN.out)
  have q2 : q0 ≤ 1001 := by have := HQM.out; omega
  clear hv hg hu hm hf hBL hq0 HLN
  go_enter Try.func10, Try.ntmps10
  go_wp2_with fail
  go_at_call 26; refine HC.out.mono ?_; rintro e w1 ⟨R, rfl, o1, b1⟩
  rw [← HQ.out] at o1
  rw [← HQ.out]
  have HRl := Lib.hid (o1.lt R rfl).2
  have HKB : Hid (∀ j, j < q0 → w1.cell? ⟨R, j, none⟩ = some (.bool (BL.getD j false))) := Lib.hid (fun j hj => by
    rw [o1.cellAt j (by omega), List.getElem?_map, List.getElem?_eq_getElem (by rw [← HQ.out]; exact hj)]
    simp [List.getD, HQ.out ▸ hj])
  have HB1 := Lib.hid b1
  have HN0 : Hid (w1.ownsRow w1.heap.size 3 1 (.slice none 0 0) 0 []) := Lib.hid (World.ownsRow_nil _ _ _ _)
  clear o1 b1 HC
  go_wp2_with fail
  go_loopw [5, 12] (fun l i wr => ∃ (k : Nat) (L : List Int) (lv : Value), k ≤ q0 ∧ i = .int .i64 k ∧ l = lv ∧ L.length ≤ k ∧ Hid (L = selTo f (k - 1)) ∧ Hid (wr.ownsRow w1.heap.size 3 1 lv L.length (L.map (Value.int .i64)) ∧ Below w1.heap.size w1 wr)) (fun _ i _ => q0 - (intOf i).toNat)
  case atStart => exact ⟨0, [], _, Nat.zero_le _, rfl, rfl, Nat.le_refl _, Lib.hid rfl, Lib.hid ⟨HN0.out, Below.refl _ _⟩⟩
  case round =>
    clear HN0
    obtain ⟨k, L, lv, hk, rfl, hlv, hL, HLI, HW⟩ := hrel
    obtain rfl : lv = _ := hlv.symm
    obtain ⟨wo, rfl⟩ : ∃ wo : World, wo = wr := ⟨_, rfl⟩
    by_cases hlt : k < q0
    · have d1 : (k : Int) < (q0 : Int) := by omega
      have d2 : 0 ≤ (k : Int) := by omega
      have z1 := (HW.out.2.cell (p := ⟨R, k, none⟩) HRl.out).trans (HKB.out k hlt)
      have HSY : Hid (BL.getD k false = true → L ++ [(k : Int)] = selTo f (k + 1 - 1)) := Lib.hid (fun h => by
        cases k with
        | zero => rw [HZ0.out] at h; cases h
        | succ j =>
          rw [HAT.out j (by have := HQM.out; omega)] at h
          rw [HLI.out, show j + 1 + 1 - 1 = j + 1 by omega, sel_yes h, show j + 1 - 1 = j by omega]; simp)
      have HSN : Hid (BL.getD k false = false → L = selTo f (k + 1 - 1)) := Lib.hid (fun h => by
        cases k with
        | zero => exact HLI.out
        | succ j =>
          rw [HAT.out j (by have := HQM.out; omega)] at h
          rw [HLI.out, show j + 1 + 1 - 1 = j + 1 by omega, sel_no h, show j + 1 - 1 = j by omega])
      obtain ⟨t, ht⟩ : ∃ t, t = BL.getD k false := ⟨_, rfl⟩
      rw [← ht] at z1 HSY HSN
      clear ht
      cases t with
      | true =>
        have HN := Lib.hid (HSY.out rfl)
        have HRO := Lib.hid HW.out.1
        have HROW := Lib.hid (own_on HRO.out ((Below.refl _ wo).alloc (Nat.le_refl _) (.cells #[.int .i64 (k : Int)] 3)))
        have HBW := Lib.hid HW.out.2
        have hsz := HBW.out.size
        go_wp2_with (at_builtin; refine wpList_append_lies _ rfl (.tmp 18) (.tmp 20) 23 rfl w1.heap.size 3 i0 (.int .i64 0) 1 8 Try.underlying23 hi hz0 hz1 hz2 rfl (by decide) lv L.length (L.map (Value.int .i64)) rfl HROW.out ⟨wo.heap.size, 0, none⟩ 1 1 [.int .i64 (k : Int)] rfl rfl (news1 _ _ _) (one_cell _) (by omega) (by unfold maxLen; omega) (by omega) (by simp; omega) _ rfl ?_)
        intro t2 c2 w3 hown hgrow hat _
        have HE := Lib.hid (row_end HBW.out hsz HRO.out hown hgrow)
        clear hown hgrow hat
        go_wp2_with fail
        go_roundw
        case rel => exact ⟨k + 1, L ++ [(k : Int)], .slice (some ⟨t2, 0, none⟩) (L.length + 1) c2, by omega, by go_num, rfl, by simp; omega, HN, HE⟩
        case measure => simp [intOf]; omega
      | false =>
        have HN := Lib.hid (HSN.out rfl)
        go_wp2_with fail
        go_roundw
        case rel => exact ⟨k + 1, L, lv, by omega, by go_num, rfl, by omega, HN, HW⟩
        case measure => simp [intOf]; omega
    · obtain rfl : q0 = k := by omega
      have HE : Hid (Told (selTo f m) w (.returned lv) wo) := Lib.hid (by
        have e := HLI.out
        rw [HQM.out, show m + 1 - 1 = m by omega] at e
        rw [← e]; exact told_late HB1.out HW.out.1 HW.out.2)
      clear hlt hk
      go_wp2_with fail
      go_ret
      exact HE.out
set_option maxRecDepth 100000 in
set_option maxHeartbeats 1600000 in
theorem support_any (v u : Value) (ns : List (Int × Int)) (zs : List Int) (w : World) (hv : KNds (fun _ => False) w v ns) (hg : GoodN ns) (hn : ns.length ≤ 1000) (hu : Ints w u zs) :
    Calls Try.prog 12 #[v, u] w (Told (selTo (fun i => ofB (ns.map absN) zs i && inB ns i) ns.length) w) := by
  obtain ⟨i0, hi, hz0, hz1, hz2⟩ := info_parts infoI
  have HC := Lib.hid (of_any v u ns zs w hv hg hn hu)
  have HSS := Lib.hid (sup_sel ns (ofB (ns.map absN) zs) ns.length)
  obtain ⟨f, hf⟩ : ∃ f, f = ofB (ns.map absN) zs := ⟨_, rfl⟩
  rw [← hf] at HC HSS ⊢
  obtain ⟨a, cap, rfl, l1, l2⟩ := hv.form
  unfold maxLen at l2
  obtain ⟨m, hm⟩ : ∃ m, m = ns.length := ⟨_, rfl⟩
  rw [← hm] at l1 hn hv HC HSS ⊢
  have HV := Lib.hid hv
  clear hf hu hg hv hm
  go_enter Try.func12, Try.ntmps12
  go_wp2_with fail
  go_at_call 10; refine HC.out.mono ?_; rintro e w1 ⟨ov, rfl, r1, b1⟩
  have HB1 := Lib.hid b1
  have HO := Lib.hid (ints_of_owned r1)
  have HBD := Lib.hid (fun j => sel_bd (f := f) (k := m) (j := j))
  have HLEN := Lib.hid (sel_len f m)
  obtain ⟨S, hS⟩ : ∃ S, S = selTo f m := ⟨_, rfl⟩
  rw [← hS] at HO HBD HSS HLEN
  obtain ⟨oa, ocap, rfl, o3, o4⟩ := Ints.form HO.out
  unfold maxLen at o4
  obtain ⟨n, hnn⟩ : ∃ n, n = S.length := ⟨_, rfl⟩
  rw [← hnn] at HO o3 HLEN ⊢
  have HNN := Lib.hid hnn
  have HN0 : Hid (w1.ownsRow w1.heap.size 3 1 (.slice none 0 0) 0 []) := Lib.hid (World.ownsRow_nil _ _ _ _)
  clear r1 b1 hS hnn HC
  go_wp2_with fail
  go_loopw [5, 12] (fun l i wr => ∃ (k : Nat) (L : List Int) (lv : Value), k ≤ n ∧ i = .int .i64 k ∧ l = lv ∧ L.length ≤ k ∧ Hid (L = supF ns (S.take k)) ∧ Hid (wr.ownsRow w1.heap.size 3 1 lv L.length (L.map (Value.int .i64)) ∧ Below w1.heap.size w1 wr)) (fun _ i _ => n - (intOf i).toNat)
  case atStart => exact ⟨0, [], _, Nat.zero_le _, rfl, rfl, Nat.le_refl _, Lib.hid rfl, Lib.hid ⟨HN0.out, Below.refl _ _⟩⟩
  case round =>
    clear HN0
    obtain ⟨k, L, lv, hk, rfl, hlv, hL, HLI, HW⟩ := hrel
    obtain rfl : lv = _ := hlv.symm
    obtain ⟨wo, rfl⟩ : ∃ wo : World, wo = wr := ⟨_, rfl⟩
    have hn1 : n ≤ 1000 := by have := HLEN.out; omega
    by_cases hlt : k < n
    · obtain ⟨b, off, hoa, -, e1⟩ := Ints.at_ (Ints.on HO.out HW.out.2) hlt
      subst hoa
      obtain ⟨s1, s2, -⟩ := HBD.out k (by rw [← HNN.out]; exact hlt)
      have HST := Lib.hid (supF_step ns (L := S) (j := k) (by rw [← HNN.out]; exact hlt))
      obtain ⟨z, hz⟩ : ∃ z, z = S.getD k 0 := ⟨_, rfl⟩
      rw [← hz] at e1 s1 s2 HST
      obtain ⟨y, hy⟩ : ∃ y : Nat, z = (y : Int) + 1 := ⟨(z - 1).toNat, by omega⟩
      subst hy
      have hym : y < m := by omega
      obtain ⟨nb, noff, rfl, -, e2, e3⟩ := (HV.out.on (HB1.out.trans (HW.out.2.mono HB1.out.size))).at_ hym
      rw [show (((y : Int) + 1) - 1).toNat = y by omega] at HST
      obtain ⟨pq, hpq⟩ : ∃ pq, pq = ns.getD y (0, 0) := ⟨_, rfl⟩
      rw [← hpq] at e2 e3 HST
      obtain ⟨p, q⟩ := pq
      simp only at e2 e3 HST
      have d1 : (k : Int) < (n : Int) := by omega
      have d2 : 0 ≤ (k : Int) := by omega
      have d3 : (y : Int) < (m : Int) := by omega
      have d4 : 0 ≤ (y : Int) := by omega
      have d6 : (y : Int) + 1 - 1 = (y : Int) := by omega
      clear hz hpq s1 s2
      by_cases g0 : p < 0
      · have HP : Hid (decide (p < 0) = true) := Lib.hid (decide_eq_true g0)
        have HN : Hid (L ++ [(y : Int) + 1] = supF ns (S.take (k + 1))) := Lib.hid (by rw [HST.out, if_pos g0, HLI.out])
        clear g0
        go_wp2_with fail
        go_at_call 28; refine (coneIn_of q HP.out _).mono ?_; rintro e w2 ⟨rfl, hb⟩
        have HRO := Lib.hid (own_on HW.out.1 hb)
        have HBW := Lib.hid (HW.out.2.trans (hb.mono HW.out.2.size))
        have HROW := Lib.hid (own_on HRO.out ((Below.refl _ w2).alloc (Nat.le_refl _) (.cells #[.int .i64 ((y : Int) + 1)] 3)))
        have hsz := HBW.out.size
        clear hb
        go_wp2_with (at_builtin; refine wpList_append_lies _ rfl (.tmp 22) (.tmp 24) 23 rfl w1.heap.size 3 i0 (.int .i64 0) 1 8 Try.underlying23 hi hz0 hz1 hz2 rfl (by decide) lv L.length (L.map (Value.int .i64)) rfl HROW.out ⟨w2.heap.size, 0, none⟩ 1 1 [.int .i64 ((y : Int) + 1)] rfl rfl (news1 _ _ _) (one_cell _) (by omega) (by unfold maxLen; omega) (by omega) (by simp; omega) _ rfl ?_)
        intro t2 c2 w3 hown hgrow hat _
        have HE := Lib.hid (row_end HBW.out hsz HRO.out hown hgrow)
        clear hown hgrow hat
        go_wp2_with fail
        go_roundw
        case rel => exact ⟨k + 1, L ++ [(y : Int) + 1], .slice (some ⟨t2, 0, none⟩) (L.length + 1) c2, by omega, by go_num, rfl, by simp; omega, HN, HE⟩
        case measure => simp [intOf]; omega
      · have HP : Hid (decide (p < 0) = false) := Lib.hid (decide_eq_false g0)
        have HN : Hid (L = supF ns (S.take (k + 1))) := Lib.hid (by rw [HST.out, if_neg g0, List.append_nil, HLI.out])
        clear g0
        go_wp2_with fail
        go_at_call 28; refine (coneIn_of q HP.out _).mono ?_; rintro e w2 ⟨rfl, hb⟩
        have HE := Lib.hid (And.intro (own_on HW.out.1 hb) (HW.out.2.trans (hb.mono HW.out.2.size)))
        clear hb
        go_wp2_with fail
        go_roundw
        case rel => exact ⟨k + 1, L, lv, by omega, by go_num, rfl, by omega, HN, HE⟩
        case measure => simp [intOf]; omega
    · obtain rfl : n = k := by omega
      have HE : Hid (Told (selTo (fun i => f i && inB ns i) m) w (.returned lv) wo) := Lib.hid (by
        have e := HLI.out
        rw [HNN.out, List.take_length, HSS.out] at e
        have e2 : selTo (fun i => f i && inB ns i) m = L := e.symm
        rw [e2]; exact told_late HB1.out HW.out.1 HW.out.2)
      clear hlt hk
      go_wp2_with fail
      go_ret
      exact HE.out
theorem levels_zero (ns : List (Int × Int)) : (levels ns).getD 0 0 = 0 := by
  have key : ∀ k, k ≤ ns.length → (levels (ns.take k)).getD 0 0 = 0 := by
    intro k
    induction k with
    | zero => intro _; rfl
    | succ k ih =>
      intro hk
      rw [levels_step (by omega)]
      unfold lvStep
      rw [snocI_l (by rw [(levels_ok ns k (by omega)).1]; omega)]
      exact ih (by omega)
  have := key ns.length (Nat.le_refl _)
  rwa [List.take_length] at this
theorem dStep_no {lv : List Int} {m : Nat} {d z : Int} (hm : m ≤ 1000) (h : ¬ (0 ≤ litVar z ∧ litVar z ≤ (m : Int))) : dStep lv m d z = d := by
  unfold dStep
  rw [if_neg]
  rintro ⟨h1, h2, -⟩
  rw [var_yes (good_yes (by omega) (by omega))] at h
  omega
theorem dStep_yes {lv : List Int} {m : Nat} {d z : Int} (hz : lv.getD 0 0 = 0) (hd : 0 ≤ d) (h : 0 ≤ litVar z ∧ litVar z ≤ (m : Int)) : dStep lv m d z = max d (lv.getD (litVar z).toNat 0) := by
  have e : litVar z = z / 2 ∧ 0 ≤ z := by
    unfold litVar at h ⊢
    split
    · rename_i g; have := good_iff.1 g; omega
    · rename_i g; rw [if_neg g] at h; omega
  unfold dStep
  rw [e.1] at h ⊢
  by_cases h1 : 1 < z
  · by_cases h2 : d < lv.getD (z / 2).toNat 0
    · rw [if_pos ⟨h1, h.2, h2⟩]; omega
    · rw [if_neg (fun e => h2 e.2.2)]; omega
  · rw [if_neg (fun e => h1 e.1), show (z / 2).toNat = 0 by omega, hz]; omega
set_option maxRecDepth 100000 in
set_option maxHeartbeats 1600000 in
theorem depth_any (v u : Value) (ns : List (Int × Int)) (zs : List Int) (w : World) (hv : KNds (fun _ => False) w v ns) (hg : GoodN ns) (hn : ns.length ≤ 1000) (hu : Ints w u zs) :
    Calls Try.prog 14 #[v, u] w fun e w' => e = .returned (.int .i64 (depthF (levels ns) ns.length zs)) ∧ Below w.heap.size w w' := by
  have HC := Lib.hid (levels_any _ v ns w hv hg hn (good_chk hg))
  have HLB := Lib.hid (levels_bd ns)
  have HLN := Lib.hid (levels_len ns)
  have HLZ := Lib.hid (levels_zero ns)
  obtain ⟨L, hLL⟩ : ∃ L, L = levels ns := ⟨_, rfl⟩
  rw [← hLL] at HC HLB HLN HLZ ⊢
  obtain ⟨m, hm⟩ : ∃ m, m = ns.length := ⟨_, rfl⟩
  rw [← hm] at HLB HLN hn ⊢
  obtain ⟨q0, hq0⟩ : ∃ q0, q0 = L.length := ⟨_, rfl⟩
  have HQ := Lib.hid hq0
  have HQM : Hid (q0 = m + 1) := Lib.hid (by rw [hq0]; exact HLN.out)
  have HU := Lib.hid hu
  obtain ⟨ua, ucap, rfl, l3, l4⟩ := Ints.form hu
  unfold maxLen at l4
  obtain ⟨n, hnn⟩ : ∃ n, n = zs.length := ⟨_, rfl⟩
  rw [← hnn] at l3 HU ⊢
  have HNN := Lib.hid hnn
  clear hv hg hu hm hLL hq0 hnn HLN
  go_enter Try.func14, Try.ntmps14
  go_wp2_with fail
  go_at_call 29; refine HC.out.mono ?_; rintro e w1 ⟨ov, rfl, r1, b1⟩
  have HI := Lib.hid (ints_of_owned r1)
  have HB1 := Lib.hid b1
  obtain ⟨oa, ocap, rfl, o3, o4⟩ := Ints.form HI.out
  unfold maxLen at o4
  rw [← HQ.out] at HI o3
  rw [← HQ.out]
  have q2 : q0 ≤ 1001 := by have := HQM.out; omega
  clear r1 b1 HC
  go_wp2_with fail
  go_loop [6, 14] (fun d i => ∃ (k : Nat) (x : Int), k ≤ n ∧ i = .int .i64 k ∧ d = .int .i64 x ∧ Hid (x = depthF L m (zs.take k))) (fun _ i => n - (intOf i).toNat)
  case atStart => exact ⟨0, 0, Nat.zero_le _, rfl, rfl, Lib.hid rfl⟩
  case round =>
    obtain ⟨k, x, hk, rfl, rfl, HX⟩ := hrel
    have hxb : 0 ≤ x ∧ x ≤ (m : Int) := by rw [HX.out]; exact depth_bd HLB.out _
    obtain ⟨hx0, hx1⟩ := hxb
    by_cases hlt : k < n
    · obtain ⟨b, off, rfl, -, e1⟩ := Ints.at_ (Ints.on HU.out HB1.out) hlt
      have HST := Lib.hid (depth_step L m (zs := zs) (j := k) (by rw [← HNN.out]; exact hlt))
      obtain ⟨z, hz⟩ : ∃ z, z = zs.getD k 0 := ⟨_, rfl⟩
      rw [← hz] at e1 HST
      have d1 : (k : Int) < (n : Int) := by omega
      have d2 : 0 ≤ (k : Int) := by omega
      obtain ⟨b1, b2⟩ := var_bd z
      have HCV := Lib.hid (lits.Var_any z w1)
      have HD0 := Lib.hid (fun h => dStep_no (lv := L) (m := m) (d := x) (z := z) hn h)
      have HD1 := Lib.hid (fun h => dStep_yes (lv := L) (m := m) (d := x) (z := z) HLZ.out hx0 h)
      obtain ⟨v, hv⟩ : ∃ v, v = litVar z := ⟨_, rfl⟩
      rw [← hv] at HCV b1 b2 HD0 HD1
      clear hz hv
      by_cases c0 : 0 ≤ v
      · by_cases c1 : v < (q0 : Int)
        · have HN : Hid (max x (L.getD v.toNat 0) = depthF L m (zs.take (k + 1))) := Lib.hid (by rw [HST.out, ← HX.out, HD1.out ⟨c0, by have := HQM.out; omega⟩])
          obtain ⟨y, rfl⟩ := Int.eq_ofNat_of_zero_le c0
          have c3 : y < q0 := by omega
          obtain ⟨lb, loff, rfl, -, e2⟩ := Ints.at_ HI.out c3
          rw [Int.toNat_natCast] at HN
          have hle := HLB.out y
          obtain ⟨r, hr⟩ : ∃ r, r = L.getD y 0 := ⟨_, rfl⟩
          rw [← hr] at e2 HN hle
          clear hr
          obtain ⟨r0, r1⟩ := hle
          by_cases hxr : x < r
          · have HN2 : Hid (r = depthF L m (zs.take (k + 1))) := Lib.hid (by rw [← HN.out]; omega)
            go_wp2_with fail
            go_at_call 30; refine HCV.out.mono ?_; rintro e w' ⟨rfl, rfl⟩
            go_wp2_with fail
            go_round
            case rel => exact ⟨k + 1, r, by omega, by go_num, by go_num, HN2⟩
            case measure => simp [intOf]; omega
          · have HN2 : Hid (x = depthF L m (zs.take (k + 1))) := Lib.hid (by rw [← HN.out]; omega)
            go_wp2_with fail
            go_at_call 30; refine HCV.out.mono ?_; rintro e w' ⟨rfl, rfl⟩
            go_wp2_with fail
            go_round
            case rel => exact ⟨k + 1, x, by omega, by go_num, by go_num, HN2⟩
            case measure => simp [intOf]; omega
        · have HN : Hid (x = depthF L m (zs.take (k + 1))) := Lib.hid (by rw [HST.out, ← HX.out, HD0.out (fun e => by have := HQM.out; omega)])
          go_wp2_with fail
          go_at_call 30; refine HCV.out.mono ?_; rintro e w' ⟨rfl, rfl⟩
          go_wp2_with fail
          go_round
          case rel => exact ⟨k + 1, x, by omega, by go_num, rfl, HN⟩
          case measure => simp [intOf]; omega
      · have HN : Hid (x = depthF L m (zs.take (k + 1))) := Lib.hid (by rw [HST.out, ← HX.out, HD0.out (fun e => c0 e.1)])
        go_wp2_with fail
        go_at_call 30; refine HCV.out.mono ?_; rintro e w' ⟨rfl, rfl⟩
        go_wp2_with fail
        go_round
        case rel => exact ⟨k + 1, x, by omega, by go_num, rfl, HN⟩
        case measure => simp [intOf]; omega
    · obtain rfl : n = k := by omega
      have HE : Hid (x = depthF L m zs) := Lib.hid (by rw [HX.out, HNN.out, List.take_length])
      clear hlt hk
      go_wp2_with fail
      go_ret
      exact ⟨retI HE.out, HB1.out⟩
end Go.Proofs.Ytbdmndhjbemenaa.aig
