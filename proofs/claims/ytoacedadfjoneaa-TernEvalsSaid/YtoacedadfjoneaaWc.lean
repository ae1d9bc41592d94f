/- The walks of the project's Eval of values that may be open, allOne, Sure. -/
import Derived.Test.YtoacedadfjoneaaWb
namespace Go.Proofs.Ytoacedadfjoneaa.aig
open Go.RowKit
open Go.Proofs.Ytoacedadfjoneaa.mem Go.Proofs.Ytoacedadfjoneaa.agf Go.Proofs.Ytoacedadfjoneaa.fns
open Go.Proofs.Ytoacedadfjoneaa.ints (Ints ints_of_owned below_drewN)
open Go.Proofs.Ytoacedadfjoneaa.tri (tLit)

theorem allW_step {zs : List Int} {k : Nat} (h : k < zs.length) : allW (zs.take (k + 1)) = allW (zs.take k) ++ [(allO (zs.getD k 0), allZ (zs.getD k 0))] := by
  unfold allW
  rw [List.take_succ_eq_append_getElem h, List.map_append]
  simp [List.getD, h]
theorem allW_len {zs : List Int} {k : Nat} (h : k ≤ zs.length) : (allW (zs.take k)).length = k := by unfold allW; rw [List.length_map, List.length_take]; omega
theorem madeI (n : Nat) : (madeCells #[Value.int IntKind.i64 0] n).toList = (padI [] n).map (Value.int .i64) := by
  have e : padI [] n = List.replicate n 0 := by unfold padI; simp
  rw [e]
  simp [madeCells, Nat.mod_one, List.map_const']
/-- behind a store of a number -/
theorem row_setI {w : World} {B R q k : Nat} {L : List Int} {r : Int} (h : w.ownsRow B 3 1 (.slice (some ⟨R, 0, none⟩) q q) q ((padI L q).map (Value.int .i64))) (hk : L.length = k) (hq : k < q) :
    (w.setCell ⟨R, k, none⟩ (.int .i64 r)).ownsRow B 3 1 (.slice (some ⟨R, 0, none⟩) q q) q ((padI (L ++ [r]) q).map (Value.int .i64)) := by
  have h1 := (h.stored k (.int .i64 r)).1
  rw [← List.map_set, ← hk, pad_set (by omega), hk] at h1
  exact h1
theorem row_cellI {w : World} {B R q c k : Nat} {L : List Int} (h : w.ownsRow B 3 1 (.slice (some ⟨R, 0, none⟩) q c) q ((padI L q).map (Value.int .i64))) (hl : L.length ≤ q) (hk : k < q) :
    ∃ u, w.cell? ⟨R, k, none⟩ = some u ∧ w.frozen? ⟨R, k, none⟩ = false := by
  have hL : (padI L q).length = q := pad_len hl
  obtain ⟨u, hu⟩ : ∃ u, ((padI L q).map (Value.int .i64))[k]? = some u := ⟨_, List.getElem?_eq_getElem (by rw [List.length_map, hL]; exact hk)⟩
  exact ⟨u, by rw [h.cellAt k (by omega), hu], h.frozenAt k⟩
set_option maxRecDepth 100000 in
set_option maxHeartbeats 3200000 in
theorem tEval_any (v u : Value) (ns : List (Int × Int)) (zs : List Int) (w : World) (hv : KNds (fun _ => False) w v ns) (hg : GoodN ns) (hn : ns.length ≤ 1000) (hu : Ints w u zs) (hzl : zs.length ≤ 1000) :
    Calls Try.prog 9 #[v, u] w (TellsI (tSt zs (ns.map absN)).1 w) := by
  obtain ⟨i0, hi, hz0, hz1, hz2⟩ := info_parts infoW
  obtain ⟨j0, hj, hy0, hy1, hy2⟩ := info_parts infoI
  obtain ⟨a, cap, rfl, l1, l2⟩ := hv.form
  unfold maxLen at l2
  obtain ⟨ua, ucap, rfl, l3, l4⟩ := Ints.form hu
  unfold maxLen at l4
  obtain ⟨I, hI⟩ : ∃ I, I = if zs.length < ns.length then zs.length else ns.length := ⟨_, rfl⟩
  have hl : (ns.map absN).length = ns.length := List.length_map _
  have HW := Lib.hid (eval_words (zs := zs) (good_abs hg) (by rw [hl]; exact hn) (m := I) (by rw [hl]; exact hI))
  have HWL : Hid ((wSt (allW (zs.take I)) (ns.map absN)).1.length = ns.length + 1) := Lib.hid (by have := wSt_len (allW (zs.take I)) (ns.map absN) _ (Nat.le_refl _); rw [List.take_length, hl] at this; exact this)
  have HWF : Hid (∀ p ∈ (wSt (allW (zs.take I)) (ns.map absN)).1, fns.In64 p.1 ∧ fns.In64 p.2) := Lib.hid (by
    have h := words_all (good_abs hg) (by rw [hl]; exact hn) (allW_fit (zs.take I))
    intro p hp
    obtain ⟨j, hj, rfl⟩ := List.mem_iff_getElem.1 hp
    have := h.fit j hj
    rwa [show (wSt (allW (zs.take I)) (ns.map absN)).1.getD j (0, 0) = (wSt (allW (zs.take I)) (ns.map absN)).1[j] by simp [List.getD, hj]] at this)
  have hI1 : I ≤ zs.length := by rw [hI]; split <;> omega
  have hI2 : I ≤ ns.length := by rw [hI]; split <;> omega
  have HAL := Lib.hid (allW_len hI1)
  have HAS : Hid (∀ k, k < I → allW (zs.take (k + 1)) = allW (zs.take k) ++ [(allO (zs.getD k 0), allZ (zs.getD k 0))]) := Lib.hid (fun k hk => allW_step (by omega))
  have HAK : Hid (∀ k, k ≤ I → (allW (zs.take k)).length = k) := Lib.hid (fun k hk => allW_len (by omega))
  have HTW := Lib.hid (fun v u w hv hu => tWords_any v u ns (allW (zs.take I)) w hv hg hn hu (by rw [allW_len hI1]; omega))
  obtain ⟨T, hT⟩ : ∃ T, T = (tSt zs (ns.map absN)).1 := ⟨_, rfl⟩
  obtain ⟨WS, hWS⟩ : ∃ WS, WS = (wSt (allW (zs.take I)) (ns.map absN)).1 := ⟨_, rfl⟩
  rw [← hT, ← hWS] at HW
  rw [← hWS] at HWL HWF HTW
  rw [← hT]
  obtain ⟨m, hm⟩ : ∃ m, m = ns.length := ⟨_, rfl⟩
  obtain ⟨n, hnn⟩ : ∃ n, n = zs.length := ⟨_, rfl⟩
  rw [← hm] at l1 hn hI2 hI hv HWL ⊢
  rw [← hnn] at l3 hzl hu hI1 hI ⊢
  have HV := Lib.hid hv
  have HU := Lib.hid hu
  have hI3 : I ≤ 1000 := by omega
  have HMIN : Hid ((n < m ∧ I = n) ∨ (m ≤ n ∧ I = m)) := Lib.hid (by rw [hI]; split <;> omega)
  clear hv hu hT hWS hm hnn hl hg hI
  go_enter Try.func9, Try.ntmps9
  go_upto_region 1 with fail
  go_cut [5] (fun s5 wx => s5 = .slice (some ⟨w.heap.size, 0, none⟩) I I ∧ Hid (wx.ownsRow w.heap.size 33 2 (.slice (some ⟨w.heap.size, 0, none⟩) I I) I (wordCells (padW [] I)) ∧ Below w.heap.size w wx))
  case first =>
    go_wp2_with (refine wpList_make_full _ rfl (.tmp 14) (.tmp 14) 24 rfl w.heap.size 33 i0 (.agg #[.int .u64 0, .int .u64 0]) 2 Try.underlying24 hi hz0 hz1 .i64 .i64 _ _ I rfl rfl (by have := HMIN.out; omega) (by have := HMIN.out; omega) (by rw [hz2]; omega) (by unfold maxLen; omega) (Nat.le_refl _) ?_)
    all_goals
      intro w2 hown hgrow
      have HE : Hid (w2.ownsRow w.heap.size 33 2 (.slice (some ⟨w.heap.size, 0, none⟩) I I) I (wordCells (padW [] I)) ∧ Below w.heap.size w w2) := Lib.hid (by
        have h := hown
        rw [show (madeCells #[Value.int IntKind.u64 0, Value.int IntKind.u64 0] (I * 2)).toList = wordCells (padW [] I) from madeW I] at h
        exact ⟨h, (Below.refl _ w).grown hgrow (Nat.le_refl _) (fun k hk => by cases hk)⟩)
      clear hown hgrow
      go_wp2_with fail
      go_meet
      exact ⟨rfl, HE⟩
  case rest =>
    obtain ⟨rfl, HE⟩ := hcut
    obtain ⟨W0, rfl⟩ : ∃ W0 : World, W0 = wc := ⟨_, rfl⟩
    obtain ⟨R, hR⟩ : ∃ R, R = w.heap.size := ⟨_, rfl⟩
    have HRR := Lib.hid hR
    rw [← hR] at HE ⊢
    clear hR
    go_wp2_with fail
    go_loopw [18] (fun i wr => ∃ (k : Nat), k ≤ I ∧ i = .int .i64 k ∧ Hid (wr.ownsRow R 33 2 (.slice (some ⟨R, 0, none⟩) I I) I (wordCells (padW (allW (zs.take k)) I)) ∧ Below R w wr)) (fun i _ => I - (intOf i).toNat)
    case atStart => exact ⟨0, Nat.zero_le _, rfl, HE⟩
    case round =>
      clear HE
      obtain ⟨k, hk, rfl, HW2⟩ := hrel
      obtain ⟨wo, rfl⟩ : ∃ wo : World, wo = wr := ⟨_, rfl⟩
      by_cases hlt : k < I
      · obtain ⟨b, off, rfl, hbl, e1⟩ := ints.ints_cell (Ints.on HU.out (by rw [← HRR.out]; exact HW2.out.2)) (k := k) (by omega)
        have HST := Lib.hid (HAS.out k hlt)
        have HLE := Lib.hid (HAK.out k hk)
        obtain ⟨z, hz⟩ : ∃ z, z = zs.getD k 0 := ⟨_, rfl⟩
        rw [← hz] at e1 HST
        have d1 : (k : Int) < (I : Int) := by omega
        have d2 : 0 ≤ (k : Int) := by omega
        have d3 : (k : Int) < (n : Int) := by omega
        clear hz
        go_wp2_with fail
        go_at_call 19; refine (tri.All_any z _).mono ?_; rintro e w3 ⟨rfl, hb3⟩
        have hrow := own_on HW2.out.1 hb3
        obtain ⟨u1, u2, y1, y2, y3, y4⟩ := row_cellW hrow (by rw [HLE.out]; exact hk) hlt
        have HE : Hid (((w3.setCell ⟨R, k * 2, none⟩ (.int .u64 (allO z))).setCell ⟨R, k * 2 + 1, none⟩ (.int .u64 (allZ z))).ownsRow R 33 2 (.slice (some ⟨R, 0, none⟩) I I) I (wordCells (padW (allW (zs.take (k + 1))) I)) ∧ Below R w ((w3.setCell ⟨R, k * 2, none⟩ (.int .u64 (allO z))).setCell ⟨R, k * 2 + 1, none⟩ (.int .u64 (allZ z)))) := Lib.hid (by
          have h := row_setW (r := (allO z, allZ z)) hrow HLE.out hlt
          rw [HST.out]
          exact ⟨h, ((HW2.out.2.trans (hb3.mono (by have := HW2.out.2.size; have := HRR.out; omega))).setCell (p := ⟨R, k * 2, none⟩) (Nat.le_refl _) _).setCell (p := ⟨R, k * 2 + 1, none⟩) (Nat.le_refl _) _⟩)
        clear hrow hb3
        go_wp2_with fail
        go_roundw
        case rel => exact ⟨k + 1, by omega, by go_num, HE⟩
        case measure => simp [intOf]; omega
      · obtain rfl : I = k := by omega
        have HWI : Hid (Wds wo (.slice (some ⟨R, 0, none⟩) I I) (allW (zs.take I)) ∧ Below R w wo) := Lib.hid (by
          have h := HW2.out.1
          rw [padW_full HAL.out] at h
          exact ⟨row_wds h HAL.out, HW2.out.2⟩)
        clear hlt hk HW2
        go_wp2_with fail
        go_at_call 11; refine (HTW.out _ _ _ (HV.out.on (by rw [← HRR.out]; exact HWI.out.2)) HWI.out.1).mono ?_; rintro e w4 ⟨wv, rfl, t4, b4⟩
        obtain ⟨wa, wcap, rfl, p1, p2⟩ := t4.form
        unfold maxLen at p2
        have HT4 := Lib.hid t4
        have hb4 := HWI.out.2.trans (b4.mono (by have := HWI.out.2.size; have := HRR.out; omega))
        have hz4 := hb4.size
        have HB4 := Lib.hid hb4
        obtain ⟨q0, hq0⟩ : ∃ q0, q0 = WS.length := ⟨_, rfl⟩
        have HQ := Lib.hid hq0
        rw [← hq0] at HT4 HWL p1 ⊢
        have q2 : q0 ≤ 1001 := by have := HWL.out; omega
        clear t4 b4 hb4 hq0 HWI
        have HTL : Hid (T.length = q0) := Lib.hid (by rw [← HW.out, HQ.out]; simp [laneW])
        have HTA : Hid (∀ k, k < q0 → T.getD k 0 = tAt (WS.getD k (0, 0)).1 (WS.getD k (0, 0)).2 0) := Lib.hid (fun k hk => by rw [← HW.out, laneW_at (by rw [← HQ.out]; exact hk)]; rfl)
        have HFI : Hid (∀ k, k < q0 → fns.In64 (WS.getD k (0, 0)).1 ∧ fns.In64 (WS.getD k (0, 0)).2) := Lib.hid (fun k hk => by
          rw [HQ.out] at hk
          rw [show WS.getD k (0, 0) = WS[k] by simp [List.getD, hk]]; exact HWF.out _ (List.getElem_mem hk))
        have HTS : Hid (∀ k, k < q0 → T.take (k + 1) = T.take k ++ [T.getD k 0]) := Lib.hid (fun k hk => by
          rw [List.take_succ_eq_append_getElem (by rw [HTL.out]; exact hk)]; simp [List.getD, show k < T.length by rw [HTL.out]; exact hk])
        have HTK : Hid (∀ k, k ≤ q0 → (T.take k).length = k) := Lib.hid (fun k hk => by rw [List.length_take, HTL.out]; omega)
        go_wp2_with (refine wpList_make_full _ rfl (.tmp 34) (.tmp 34) 23 rfl R 3 j0 (.int .i64 0) 1 Try.underlying23 hj hy0 hy1 .i64 .i64 _ _ q0 rfl rfl rfl rfl (by rw [hy2]; omega) (by unfold maxLen; omega) (by have := HRR.out; omega) ?_)
        intro w5 hown hgrow
        obtain ⟨S, hS⟩ : ∃ S, S = w4.heap.size := ⟨_, rfl⟩
        have HSR : Hid (R ≤ S) := Lib.hid (by have := HRR.out; omega)
        have hg5 := (Below.refl w4.heap.size w4).grown hgrow (Nat.le_refl _) (fun k hk => by cases hk)
        have HB5 : Hid (Below R w w5) := Lib.hid (HB4.out.trans (hg5.mono (by have := HRR.out; omega)))
        have HO5 : Hid (w5.ownsRow R 3 1 (.slice (some ⟨S, 0, none⟩) q0 q0) q0 ((padI (T.take 0) q0).map (Value.int .i64))) := Lib.hid (by
          have h := hown
          rw [show (madeCells #[Value.int IntKind.i64 0] q0).toList = (padI (T.take 0) q0).map (Value.int .i64) from madeI q0, ← hS] at h
          exact h)
        have HWS : Hid (∀ W, Below w4.heap.size w5 W → Wds W (.slice wa q0 wcap) WS) := Lib.hid (fun W hb => by
          have h : Below w4.heap.size w4 W := hg5.trans hb
          exact HT4.out.on h)
        rw [← hS] at HWS ⊢
        clear hown hgrow hg5 hS HT4 HTW HWL HWF HW HU HMIN HAL HAS HAK hz4
        go_wp2_with fail
        go_loopw [38] (fun i wr => ∃ (k : Nat), k ≤ q0 ∧ i = .int .i64 k ∧ Hid (wr.ownsRow R 3 1 (.slice (some ⟨S, 0, none⟩) q0 q0) q0 ((padI (T.take k) q0).map (Value.int .i64)) ∧ Below R w wr ∧ Below S w5 wr)) (fun i _ => q0 - (intOf i).toNat)
        case atStart => exact ⟨0, Nat.zero_le _, rfl, Lib.hid ⟨HO5.out, HB5.out, Below.refl _ _⟩⟩
        case round =>
          clear HO5
          obtain ⟨k, hk, rfl, HW2⟩ := hrel
          obtain ⟨wo, rfl⟩ : ∃ wo : World, wo = wr := ⟨_, rfl⟩
          by_cases hlt : k < q0
          · obtain ⟨b, off, rfl, hbl, e1, e2⟩ := (HWS.out _ HW2.out.2.2).at_ hlt
            have HST := Lib.hid (HTS.out k hlt)
            have HLE := Lib.hid (HTK.out k hk)
            have HAT := Lib.hid (HTA.out k hlt)
            have HF := Lib.hid (HFI.out k hlt)
            obtain ⟨p, hp⟩ : ∃ p, p = WS.getD k (0, 0) := ⟨_, rfl⟩
            rw [← hp] at e1 e2 HAT HF
            obtain ⟨r, hr⟩ : ∃ r, r = T.getD k 0 := ⟨_, rfl⟩
            rw [← hr] at HAT HST
            have d1 : (k : Int) < (q0 : Int) := by omega
            have d2 : 0 ≤ (k : Int) := by omega
            have hwS : S < wo.heap.size := (HW2.out.1.lt S rfl).2
            clear hp hr
            go_wp2_with fail
            go_at_call 20; refine (tri.At_any p.1 p.2 0 _ HF.out.1 HF.out.2).mono ?_; rintro e w6 ⟨rfl, b6⟩
            rw [← HAT.out]
            have hb6 := (alloc_below wo (.cells #[.int .u64 p.1, .int .u64 p.2] 33)).trans (b6.mono (by simp))
            have hrow := own_on HW2.out.1 hb6
            obtain ⟨u1, y1, y2⟩ := row_cellI hrow (by rw [HLE.out]; exact hk) hlt
            have HE : Hid ((w6.setCell ⟨S, k, none⟩ (.int .i64 r)).ownsRow R 3 1 (.slice (some ⟨S, 0, none⟩) q0 q0) q0 ((padI (T.take (k + 1)) q0).map (Value.int .i64)) ∧ Below R w (w6.setCell ⟨S, k, none⟩ (.int .i64 r)) ∧ Below S w5 (w6.setCell ⟨S, k, none⟩ (.int .i64 r))) := Lib.hid (by
              refine ⟨by rw [HST.out]; exact row_setI hrow HLE.out hlt, (HW2.out.2.1.trans (hb6.mono (by have := HSR.out; omega))).setCell (p := ⟨S, k, none⟩) HSR.out _, (HW2.out.2.2.trans (hb6.mono (Nat.le_of_lt hwS))).setCell (p := ⟨S, k, none⟩) (Nat.le_refl _) _⟩)
            clear hrow b6 hb6 e1 e2
            go_wp2_with fail
            go_roundw
            case rel => exact ⟨k + 1, by omega, by go_num, HE⟩
            case measure => simp [intOf]; omega
          · obtain rfl : q0 = k := by omega
            have HE : Hid (TellsI T w (.returned (.slice (some ⟨S, 0, none⟩) q0 q0)) wo) := Lib.hid (by
              have h := HW2.out.1
              rw [show T.take q0 = T by rw [← HTL.out, List.take_length], pad_full HTL.out] at h
              exact ⟨_, rfl, ints_of_owned (B := R) (by rw [HTL.out]; exact h), by rw [← HRR.out]; exact HW2.out.2.1⟩)
            clear hlt hk
            go_wp2_with fail
            go_ret
            exact HE.out
/-- whether all literals are One -/
def allOneB (T ls : List Int) : Bool := ls.all fun x => tLit T x == 1
theorem allOne_take (T ls : List Int) {k : Nat} (h : k < ls.length) : allOneB T (ls.take (k + 1)) = (allOneB T (ls.take k) && (tLit T (ls.getD k 0) == 1)) := by
  unfold allOneB
  rw [List.take_succ_eq_append_getElem h, List.all_append]
  simp [List.getD, h]
theorem allOne_no {T ls : List Int} {k : Nat} (h : k < ls.length) (h2 : tLit T (ls.getD k 0) ≠ 1) : allOneB T ls = false := by
  rw [Bool.eq_false_iff]
  intro e
  have := List.all_eq_true.1 e (ls.getD k 0) (by simp [List.getD, h])
  exact h2 (by simpa using this)
set_option maxHeartbeats 1600000 in
theorem allOne_any (v u : Value) (T ls : List Int) (w : World) (hv : Ints w v T) (hu : Ints w u ls) (hT : 0 < T.length) :
    Calls Try.prog 28 #[v, u] w fun e w' => e = .returned (.bool (allOneB T ls)) ∧ w = w' := by
  obtain ⟨a, cap, rfl, l1, l2⟩ := Ints.form hv
  unfold maxLen at l2
  obtain ⟨ua, ucap, rfl, l3, l4⟩ := Ints.form hu
  unfold maxLen at l4
  have HNO := Lib.hid (fun k h h2 => allOne_no (T := T) (ls := ls) (k := k) h h2)
  have HTK := Lib.hid (fun k h => allOne_take T ls (k := k) h)
  obtain ⟨m, hm⟩ : ∃ m, m = T.length := ⟨_, rfl⟩
  obtain ⟨n, hnn⟩ : ∃ n, n = ls.length := ⟨_, rfl⟩
  rw [← hm] at l1 hv hT ⊢
  rw [← hnn] at l3 hu HNO HTK ⊢
  have HV := Lib.hid hv
  have HU := Lib.hid hu
  have HN := Lib.hid hnn
  have t0 : decide (0 < m) = true := by simp; omega
  have t1 : decide ((0 : Int) < (m : Int)) = true := by simp; omega
  clear hv hu hm hnn
  go_enter Try.func28, Try.ntmps28
  go_wp2_with fail
  go_loop [9] (fun i => ∃ (k : Nat), k ≤ n ∧ i = .int .i64 k ∧ Hid (allOneB T (ls.take k) = true)) (fun i => n - (intOf i).toNat)
  case atStart => exact ⟨0, Nat.zero_le _, rfl, Lib.hid rfl⟩
  case round =>
    obtain ⟨k, hk, rfl, HA⟩ := hrel
    by_cases hlt : k < n
    · obtain ⟨b, off, rfl, hbl, e1⟩ := ints.ints_cell HU.out hlt
      have HNO2 := Lib.hid (HNO.out k hlt)
      have HTK2 := Lib.hid (HTK.out k hlt)
      obtain ⟨z, hz⟩ : ∃ z, z = ls.getD k 0 := ⟨_, rfl⟩
      rw [← hz] at e1 HNO2 HTK2
      obtain ⟨r, hr⟩ : ∃ r, r = tLit T z := ⟨_, rfl⟩
      rw [← hr] at HNO2 HTK2
      have HR := Lib.hid hr
      have d1 : (k : Int) < (n : Int) := by omega
      have d2 : 0 ≤ (k : Int) := by omega
      clear hz hr
      by_cases hr1 : r = 1
      · have c1 : (r != 1) = false := by simp [hr1]
        have HE : Hid (allOneB T (ls.take (k + 1)) = true) := Lib.hid (by rw [HTK2.out, HA.out, hr1]; rfl)
        clear hr1
        go_wp2_with fail
        go_at_call 42; refine (tri.Lit_any _ _ _ T z _ HV.out).mono ?_; rintro e w3 ⟨rfl, rfl⟩
        rw [← HR.out]
        go_wp2_with fail
        go_round
        case rel => exact ⟨k + 1, by omega, by go_num, HE⟩
        case measure => simp [intOf]; omega
      · have c1 : (r != 1) = true := by simp [hr1]
        have HE := Lib.hid (HNO2.out hr1)
        clear hr1
        go_wp2_with fail
        go_at_call 42; refine (tri.Lit_any _ _ _ T z _ HV.out).mono ?_; rintro e w3 ⟨rfl, rfl⟩
        rw [← HR.out]
        go_wp2_with fail
        go_ret
        exact ⟨mem.retB HE.out.symm, rfl⟩
    · have HE : Hid (allOneB T ls = true) := Lib.hid (by have := HA.out; rwa [List.take_of_length_le (by rw [← HN.out]; omega)] at this)
      have c1 : decide (k < n) = false := by simp; omega
      clear hlt
      go_wp2_with fail
      go_ret
      exact ⟨mem.retB HE.out.symm, rfl⟩
theorem tSure_any (v u l : Value) (ns : List (Int × Int)) (zs ls : List Int) (w : World) (hv : KNds (fun _ => False) w v ns) (hg : GoodN ns) (hn : ns.length ≤ 1000) (hu : Ints w u zs) (hzl : zs.length ≤ 1000) (hl : Ints w l ls) :
    Calls Try.prog 13 #[v, u, l] w fun e w' => e = .returned (.bool (tSure (ns.map absN) zs ls)) ∧ Below w.heap.size w w' := by
  have HE := Lib.hid (tEval_any v u ns zs w hv hg hn hu hzl)
  have HS : Hid (tSure (ns.map absN) zs ls = allOneB (tSt zs (ns.map absN)).1 ls) := Lib.hid rfl
  have HTL : Hid (0 < (tSt zs (ns.map absN)).1.length) := Lib.hid (by rw [tSt_len]; omega)
  obtain ⟨T, hT⟩ : ∃ T, T = (tSt zs (ns.map absN)).1 := ⟨_, rfl⟩
  rw [← hT] at HE HS HTL
  obtain ⟨r, hr⟩ : ∃ r, r = tSure (ns.map absN) zs ls := ⟨_, rfl⟩
  rw [← hr] at HS ⊢
  obtain ⟨a, cap, rfl, -⟩ := hv.form
  obtain ⟨ua, ucap, rfl, -⟩ := Ints.form hu
  obtain ⟨la, lcap, rfl, -⟩ := Ints.form hl
  have HL := Lib.hid hl
  clear hv hu hl hT hr
  go_enter Try.func13, Try.ntmps13
  go_wp2_with fail
  go_at_call 9; refine HE.out.mono ?_; rintro e w2 ⟨u2, rfl, t2, b2⟩
  have HB := Lib.hid b2
  have HT2 := Lib.hid t2
  clear t2 b2
  go_wp2_with fail
  go_at_call 28; refine (allOne_any _ _ T ls _ HT2.out (HL.out.on HB.out) HTL.out).mono ?_; rintro e w3 ⟨rfl, rfl⟩
  rw [← HS.out]
  go_wp2_with fail
  go_ret
  exact ⟨rfl, HB.out⟩
end Go.Proofs.Ytoacedadfjoneaa.aig
