/- The walk of the statement on values that may be open, once and 64 times at once. (Printed by mkU4.py.) -/
import Derived.Test.YtoacedadfjoneaaU3
namespace Go.Proofs.Ytoacedadfjoneaa.aig
open Go.RowKit
open Go.Proofs.Ytoacedadfjoneaa.mem Go.Proofs.Ytoacedadfjoneaa.agf Go.Proofs.Ytoacedadfjoneaa.fns
open Go.Proofs.Ytoacedadfjoneaa.ints (Ints ints_of_owned refInts_same wpList_clone)

theorem At_q {o z i r : Int} (hr : tAt o z i = r) (w : World) (ho : fns.In64 o) (hz : fns.In64 z) :
    Calls Try.prog 12 #[.int .u64 o, .int .u64 z, .int .i64 i] w fun e w' => e = .returned (.int .i64 r) ∧ w' = w := by
  have := tri.refAt_any o z i w ho hz
  rw [hr] at this
  exact this.mono fun _ _ ⟨h1, h2⟩ => ⟨h1, h2.symm⟩
theorem below_drewN' {B : Nat} {w w' : World} (h : Below B w w') (n : Nat) : Below B w (w'.drewN n) := ⟨h.os, h.tape, h.output, h.size, h.block⟩
theorem map_take_snoc {f : Int × Int → Int} {ws : List (Int × Int)} {q : Nat} (h : q < ws.length) : (ws.take q).map f ++ [f (ws.getD q (0, 0))] = (ws.take (q + 1)).map f := by
  rw [List.take_succ_eq_append_getElem h, List.map_append]; simp [List.getD, h]
theorem mem_getD {ws : List (Int × Int)} {q : Nat} (h : q < ws.length) : ws.getD q (0, 0) ∈ ws := by
  have : ws.getD q (0, 0) = ws[q] := by simp [List.getD, h]
  rw [this]; exact List.getElem_mem h
/-- a list made behind x, grown: as it was below x, and below W -/
theorem row_end2 {base A t c : Nat} {lv : Value} {L : List Int} {r : Int} {w x w1 w2 : World} {o : Obj} (hA : A ≤ base) (hb : Below A w w1) (hs : A ≤ w1.heap.size) (hx : Below base x w1) (hsx : base ≤ w1.heap.size) (hrow : w1.ownsRow base 3 1 lv L.length (L.map (Value.int .i64)))
    (hown : w2.ownsRow base 3 1 (.slice (some ⟨t, 0, none⟩) (L.length + 1) c) (L.length + 1) (L.map (Value.int .i64) ++ [.int .i64 r])) (hg : (w1.alloc o).grownBy w2 lv.ownBlock) :
    w2.ownsRow base 3 1 (.slice (some ⟨t, 0, none⟩) (L.length + 1) c) (L ++ [r]).length ((L ++ [r]).map (Value.int .i64)) ∧ Below A w w2 ∧ Below base x w2 := by
  refine ⟨?_, (hb.alloc hs o).grown hg (by simp; omega) (fun k hk => Nat.le_trans hA (hrow.lt k hk).1), (hx.alloc hsx o).grown hg (by simp; omega) (fun k hk => (hrow.lt k hk).1)⟩
  rw [map_snocI] at hown
  rw [List.length_append, List.length_singleton]; exact hown
set_option maxRecDepth 100000 in
set_option maxHeartbeats 3200000 in
theorem evals10_any (C : TernOk) (v wv : Value) (ns ws : List (Int × Int)) (a : Option Addr) (n cap : Nat) (zs : List Int) (W : World) (hv : KNds (fun _ => False) W v ns) (hu : Ints W (.slice a n cap) zs) (hnil : a = none → n = 0 ∧ cap = 0)
    (hw : Wds W wv ws) (hfit : ∀ p ∈ ws, fns.In64 p.1 ∧ fns.In64 p.2) (hwn : ∀ n c, wv = .slice none n c → n = 0) :
    Calls Try.prog 3 #[v, .slice a n cap, wv] W fun e w' => e = .returned (.bool true) ∧ Below W.heap.size W w' := by
  obtain ⟨i0, hi, hz0, hz1, hz2⟩ := info_parts infoI
  have HV := Lib.hid hv
  have HU := Lib.hid hu
  have HWD := Lib.hid hw
  have HFIT := Lib.hid hfit
  have HNIL := Lib.hid hnil
  have HWN := Lib.hid hwn
  obtain ⟨wa, wcap, rfl, w1, w2⟩ := hw.form
  unfold maxLen at w2
  obtain ⟨nw, hnw⟩ : ∃ nw, nw = ws.length := ⟨_, rfl⟩
  rw [← hnw] at w1 HWD HWN ⊢
  have HNW := Lib.hid hnw
  obtain ⟨a', cap', hs, u1, u2⟩ := Ints.form hu
  obtain ⟨rfl, hn, rfl⟩ := Value.slice.inj hs
  unfold maxLen at u2
  rw [← hn] at u1
  have HN := Lib.hid hn
  obtain ⟨va, vcap, rfl, v1, v2⟩ := hv.form
  unfold maxLen at v2
  clear hv hu hw hfit hnil hwn hnw hn hs
  by_cases hsm : (ns.length : Int) ≤ 60 ∧ okB ns = true
  · have HSM := Lib.hid (small_yes hsm)
    have HG := Lib.hid (okB_good hsm.2)
    have HNL : Hid (ns.length ≤ 1000) := Lib.hid (by omega)
    obtain ⟨m, hm⟩ : ∃ m, m = ns.length := ⟨_, rfl⟩
    have hm60 : m ≤ 60 := by omega
    have HM := Lib.hid hm
    rw [← hm] at v1 HV ⊢
    clear hsm hm
    by_cases c1 : n ≤ 80
    · have d1 : decide (80 < (n : Int)) = false := by simp; omega
      have HZL : Hid (zs.length ≤ 1000) := Lib.hid (by have := HN.out; omega)
      by_cases c2 : nw ≤ 20
      · have d2 : decide (20 < (nw : Int)) = false := by simp; omega
        have HWL : Hid (ws.length ≤ 1000) := Lib.hid (by have := HNW.out; omega)
        go_enter Try.func3, Try.ntmps3
        go_wp2_with fail
        go_at_call 6; refine (Small8_of HSM.out _ HV.out (by omega) (by omega)).mono ?_; rintro e w' ⟨rfl, rfl⟩
        go_wp2_with (at_builtin; refine wpList_clone _ rfl _ _ rfl rfl a n cap zs rfl HU.out HNIL.out (by omega) ?_)
        intro ov x1 o1 b1
        have HO1 := Lib.hid o1
        have HB1 := Lib.hid b1
        clear o1 b1
        go_wp2_with fail
        go_at_call 9; refine (C.eval _ _ ns zs _ (HV.out.on HB1.out) HG.out HNL.out HO1.out HZL.out).mono ?_; rintro e x2 ⟨u2', rfl, t2, b2⟩
        have HB2 := Lib.hid (HB1.out.trans (b2.mono HB1.out.size))
        have HT2 := Lib.hid t2
        clear t2 b2 HO1
        go_wp2_with fail
        go_at_call 10; refine (refEval_any _ _ _ ns zs _ (HV.out.on HB2.out) HNL.out HG.out (Ints.on HU.out HB2.out)).mono ?_; rintro e x3 h3
        obtain ⟨u3, rfl, t3, b3⟩ := told_tellsI h3
        have HB3 := Lib.hid (HB2.out.trans (b3.mono HB2.out.size))
        have HT3 := Lib.hid t3
        have HT2' := Lib.hid (Ints.on HT2.out b3)
        clear t3 b3 h3 HT2
        go_wp2_with fail
        go_at_call 8; refine (refInts_same rfl HT2'.out HT3.out).mono ?_; rintro e x4 ⟨rfl, b4⟩
        have HB4 := Lib.hid (HB3.out.trans (b4.mono HB3.out.size))
        clear b4 HT2' HT3
        go_wp2_with (at_builtin; refine wpList_cloneW _ rfl _ _ rfl rfl (.slice wa nw wcap) ws rfl (HWD.out.on HB4.out) HWN.out HWL.out ?_)
        intro ow x5 o5 b5
        have HB5 := Lib.hid (HB4.out.trans (b5.mono HB4.out.size))
        have HO5 := Lib.hid o5
        clear o5 b5
        go_wp2_with fail
        go_at_call 11; refine (C.words _ _ ns ws _ (HV.out.on HB5.out) HG.out HNL.out HO5.out HFIT.out HWL.out).mono ?_; rintro e x6 ⟨u6, rs, rfl, t6, k6, b6⟩
        have HB6 := Lib.hid (HB5.out.trans (b6.mono HB5.out.size))
        have HT6 := Lib.hid t6
        have HK6 := Lib.hid k6
        obtain ⟨ra, rcap, rfl, r1, r2⟩ := t6.form
        unfold maxLen at r2
        obtain ⟨q, hq⟩ : ∃ q, q = rs.length := ⟨_, rfl⟩
        rw [← hq] at r1 HT6 ⊢
        have HQ := Lib.hid hq
        have hq1 : q = m + 1 := by rw [hq, k6.len, List.length_map, ← HM.out]
        have c3 : ((q : Int) != (m : Int) + 1) = false := by simp; omega
        have HQM := Lib.hid hq1
        have hq61 : q ≤ 61 := by omega
        clear t6 k6 b6 hq hq1 HO5
        go_wp2_with fail
        go_loopw [8] (fun i wr => ∃ k : Nat, k ≤ 64 ∧ i = .int .i64 k ∧ Hid (Below W.heap.size W wr ∧ Below x6.heap.size x6 wr)) (fun i _ => 64 - (intOf i).toNat)
        case atStart => exact ⟨0, Nat.zero_le _, rfl, Lib.hid ⟨HB6.out, Below.refl _ _⟩⟩
        case round =>
          obtain ⟨k, hk, rfl, HW⟩ := hrel
          obtain ⟨wo, rfl⟩ : ∃ wo : World, wo = wr := ⟨_, rfl⟩
          by_cases hlt : k < 64
          · have d3 : decide ((k : Int) < 64) = true := by simp; omega
            have d3' : decide (k < 64) = true := by simp; omega
            have hwz := HW.out.1.size
            have HR0 : Hid ((wo.alloc (.cells #[] 3)).ownsRow x6.heap.size 3 1 (.slice (some ⟨wo.heap.size, 0, none⟩) 0 0) 0 []) := Lib.hid (World.ownsRow_made _ #[] 0 HW.out.2.size (by unfold maxLen; omega) rfl)
            have HB0 : Hid (Below wo.heap.size wo (wo.alloc (.cells #[] 3))) := Lib.hid (alloc_below _ _)
            have HX6 := Lib.hid (HW.out.2)
            have HWB := Lib.hid (HW.out.1)
            have hKK : k ≤ 63 := by omega
            clear HW
            go_wp2_with fail
            go_loopw [9, 10] (fun l j wr => ∃ (t : Nat) (L : List Int) (lv : Value), t ≤ nw ∧ j = .int .i64 t ∧ l = lv ∧ L.length = t ∧ Hid (L = (ws.take t).map fun p => tAt p.1 p.2 (k : Int)) ∧ Hid (wr.ownsRow x6.heap.size 3 1 lv L.length (L.map (Value.int .i64)) ∧ Below W.heap.size W wr ∧ Below x6.heap.size x6 wr)) (fun _ j _ => nw - (intOf j).toNat)
            case atStart => exact ⟨0, [], _, Nat.zero_le _, rfl, rfl, rfl, Lib.hid (by simp), Lib.hid ⟨HR0.out, HWB.out.trans (HB0.out.mono hwz), HX6.out.trans (HB0.out.mono HX6.out.size)⟩⟩
            case round =>
              clear HR0 HB0
              obtain ⟨t, L, lv, ht, rfl, hlv, hL, HLI, HY⟩ := hrel
              obtain rfl : lv = _ := hlv.symm
              obtain ⟨wi, rfl⟩ : ∃ wi : World, wi = wr := ⟨_, rfl⟩
              have HLL := Lib.hid hL
              by_cases hlt2 : t < nw
              · obtain ⟨b, off, rfl, -, e1, e2⟩ := (HWD.out.on HY.out.2.1).at_ hlt2
                have HFQ := Lib.hid (HFIT.out _ (mem_getD (q := t) (by rw [← HNW.out]; exact hlt2)))
                have HST := Lib.hid (map_take_snoc (f := fun p => tAt p.1 p.2 (k : Int)) (ws := ws) (q := t) (by rw [← HNW.out]; exact hlt2))
                have KN : Hid (∀ u, Below W.heap.size W u → u.cell? ⟨b, off + t * 2, none⟩ = some (.int .u64 (ws.getD t (0, 0)).1) ∧ u.cell? ⟨b, off + t * 2 + 1, none⟩ = some (.int .u64 (ws.getD t (0, 0)).2)) := Lib.hid (fun u hu => by
                  obtain ⟨b', off', hbo, -, k1, k2⟩ := (HWD.out.on hu).at_ hlt2
                  obtain ⟨rfl, rfl, -⟩ := Addr.mk.inj (Option.some.inj hbo)
                  exact ⟨k1, k2⟩)
                obtain ⟨p0, hp0⟩ : ∃ p0, p0 = ws.getD t (0, 0) := ⟨_, rfl⟩
                rw [← hp0] at e1 e2 HFQ HST KN
                obtain ⟨p, r⟩ := p0
                simp only at e1 e2 HFQ HST KN
                obtain ⟨x, hx⟩ : ∃ x, tAt p r (k : Int) = x := ⟨_, rfl⟩
                rw [hx] at HST
                have HN : Hid (L ++ [x] = (ws.take (t + 1)).map fun p => tAt p.1 p.2 (k : Int)) := Lib.hid (by rw [HLI.out]; exact HST.out)
                have HAT := Lib.hid (fun w' => At_q hx w' HFQ.out.1 HFQ.out.2)
                have HRO := Lib.hid (own_on HY.out.1 (below_drewN (Below.refl _ _) 1))
                have HBW : Hid (Below W.heap.size W (wi.drewN 1)) := Lib.hid (below_drewN HY.out.2.1 1)
                have HBX : Hid (Below x6.heap.size x6 (wi.drewN 1)) := Lib.hid (below_drewN HY.out.2.2 1)
                have hsz2 := HBW.out.size
                have hszx := HY.out.2.2.size
                have hsz1 := HY.out.2.1.size
                have HYR := Lib.hid HY.out.1
                have HROW := Lib.hid (own_on HRO.out ((Below.refl _ (wi.drewN 1)).alloc (Nat.le_refl _) (.cells #[.int .i64 x] 3)))
                have d4 : (t : Int) < (nw : Int) := by omega
                have d5 : 0 ≤ (t : Int) := by omega
                have hLb : L.length ≤ 20 := by omega
                clear hp0 hx hL
                go_upto_region 15 with fail
                go_region_held3 (fun w' => w'.cell? ⟨b, off + t * 2, none⟩ = some (.int .u64 p) ∧ w'.cell? ⟨b, off + t * 2 + 1, none⟩ = some (.int .u64 r))
                  (first | (exact KN.out _ hbe.2.1) | go_keep)
                  (first | (refine step_append_lies _ rfl (.tmp 59) (.tmp 72) 23 rfl x6.heap.size 3 i0 (.int .i64 0) 1 8 Try.underlying23 hi hz0 hz1 hz2 rfl (by decide) lv L.length (L.map (Value.int .i64)) rfl HROW.out ⟨(wi.drewN 1).heap.size, 0, none⟩ 1 1 [.int .i64 x] rfl rfl (news1 _ _ _) (one_cell _) (by omega) (by unfold maxLen; omega) (by omega) (by simp; omega) _ rfl ?_; intro t2 c2 y3 hown hgrow hat hlt3; have hbe := row_end2 HB6.out.size HBW.out hsz2 HBX.out hszx HRO.out hown hgrow) | (go_at_call 12; refine (HAT.out _).mono ?_; rintro e w' ⟨rfl, rfl⟩))
                have HE : Hid (y3.ownsRow x6.heap.size 3 1 (.slice (some ⟨t2, 0, none⟩) (L.length + 1) c2) (L ++ [x]).length ((L ++ [x]).map (Value.int .i64)) ∧ Below W.heap.size W y3 ∧ Below x6.heap.size x6 y3) := Lib.hid hbe
                clear hown hgrow hat hbe
                go_wp2_with fail
                go_roundw
                case rel => exact ⟨t + 1, L ++ [x], .slice (some ⟨t2, 0, none⟩) (L.length + 1) c2, by omega, by go_num, rfl, by simp [HLL.out], HN, HE⟩
                case measure => simp [intOf]; omega
              · obtain rfl : nw = t := by omega
                have HLE : Hid (L = ws.map fun p => tAt p.1 p.2 (k : Int)) := Lib.hid (by rw [HLI.out, HNW.out, List.take_length])
                have HLI2 := Lib.hid (ints_of_owned HY.out.1)
                have HYB := Lib.hid HY.out.2
                have HIS := Lib.hid (fun v hv => HK6.out.is_ k hlt v hv)
                rw [← HLE.out] at HIS
                clear hlt2 ht hL HLI HY
                go_wp2_with fail
                go_at_call 10; refine (refEval_any _ _ _ ns L _ (HV.out.on HYB.out.1) HNL.out HG.out HLI2.out).mono ?_; rintro e x7 h7
                obtain ⟨u7, rfl, t7, b7⟩ := told_tellsI h7
                have HB7 := Lib.hid (HYB.out.1.trans (b7.mono HYB.out.1.size))
                have HX7 := Lib.hid (HYB.out.2.trans (b7.mono HYB.out.2.size))
                have HT7 := Lib.hid t7
                obtain ⟨ta, tcap, rfl, -, t9⟩ := Ints.form t7
                have HTL : Hid ((tSt L (ns.map absN)).1.length = q) := Lib.hid (by rw [tSt_len, List.length_map, ← HM.out]; exact HQM.out.symm)
                rw [HTL.out] at HT7
                rw [HTL.out]
                have HR7 := Lib.hid (HT6.out.on HX7.out)
                obtain ⟨T, hT⟩ : ∃ T, T = (tSt L (ns.map absN)).1 := ⟨_, rfl⟩
                rw [← hT] at HT7 HIS
                clear h7 t7 b7 hT t9 HTL HLI2
                go_wp2_with fail
                go_loopw [12] (fun i wr => ∃ j : Nat, j ≤ q ∧ i = .int .i64 j ∧ Hid (∃ d, wr = x7.drewN d)) (fun i _ => q - (intOf i).toNat)
                case atStart => exact ⟨0, Nat.zero_le _, rfl, Lib.hid ⟨0, rfl⟩⟩
                case round =>
                  obtain ⟨j, hj, rfl, HD⟩ := hrel
                  obtain ⟨y, rfl⟩ : ∃ y : World, y = wr := ⟨_, rfl⟩
                  have hb : Below x7.heap.size x7 y := by obtain ⟨d, e⟩ := HD.out; rw [e]; exact below_drewN (Below.refl _ _) d
                  have HBY := Lib.hid hb
                  by_cases hlt3 : j < q
                  · obtain ⟨b, off, rfl, -, e1, e2⟩ := (HR7.out.on hb).at_ hlt3
                    obtain ⟨b', off', rfl, -, e3⟩ := Ints.at_ (Ints.on HT7.out hb) hlt3
                    have HF := Lib.hid (HK6.out.fit j (by rw [← HQ.out]; exact hlt3))
                    have hap := HK6.out.apart j (by rw [← HQ.out]; exact hlt3)
                    have his := HIS.out j (by rw [← HQ.out]; exact hlt3)
                    obtain ⟨p0, hp0⟩ : ∃ p0, p0 = rs.getD j (0, 0) := ⟨_, rfl⟩
                    rw [← hp0] at e1 e2 HF hap his
                    obtain ⟨p, r⟩ := p0
                    simp only at e1 e2 HF hap his
                    rw [← his] at e3
                    obtain ⟨x, hx⟩ : ∃ x, tAt p r (k : Int) = x := ⟨_, rfl⟩
                    rw [hx] at e3
                    have HAT := Lib.hid (fun w' => At_q hx w' HF.out.1 HF.out.2)
                    have c5 : (bits .and .u64 p r != 0) = false := by rw [hap]; rfl
                    have c6 : (x != x) = false := by simp
                    have d4 : (j : Int) < (q : Int) := by omega
                    have d5 : 0 ≤ (j : Int) := by omega
                    clear hp0 hap his hx hb
                    go_upto_region 20 with fail
                    go_quiet ((first | (go_at_call 12; exact Calls.quiet_of_same (HAT.out _)) | fail))
                    go_wp2_with fail
                    go_roundw
                    case rel => exact ⟨j + 1, by omega, by go_num, Lib.hid (by obtain ⟨d, e⟩ := HD.out; exact ⟨d + nq, by rw [e, World.drewN_drewN]⟩)⟩
                    case measure => simp [intOf]; omega
                  · obtain rfl : q = j := by omega
                    have HE : Hid (Below W.heap.size W y ∧ Below x6.heap.size x6 y) := Lib.hid ⟨HB7.out.trans (hb.mono HB7.out.size), HX7.out.trans (hb.mono HX7.out.size)⟩
                    clear hlt3 hj hb
                    go_wp2_with fail
                    go_roundw
                    case rel => exact ⟨k + 1, by omega, by go_num, HE⟩
                    case measure => simp [intOf]; omega
          · obtain rfl : k = 64 := by omega
            have HWB := Lib.hid HW.out.1
            clear hlt hk HW
            go_wp2_with fail
            go_at_call 7; refine (lives10_any C _).mono ?_; rintro e wb ⟨rfl, bb⟩
            have HBB := Lib.hid (HWB.out.trans (bb.mono HWB.out.size))
            clear bb
            go_wp2_with fail
            go_ret
            exact ⟨rfl, HBB.out⟩
      · have d2 : decide (20 < (nw : Int)) = true := by simp; omega
        go_enter Try.func3, Try.ntmps3
        go_wp2_with fail
        go_at_call 6; refine (Small8_of HSM.out _ HV.out (by omega) (by omega)).mono ?_; rintro e w' ⟨rfl, rfl⟩
        go_wp2_with fail
        go_at_call 7; refine (lives10_any C _).mono ?_; rintro e wb ⟨rfl, bb⟩
        have HBB := Lib.hid bb
        clear bb
        go_wp2_with fail
        go_ret
        exact ⟨rfl, HBB.out⟩
    · have d1 : decide (80 < (n : Int)) = true := by simp; omega
      go_enter Try.func3, Try.ntmps3
      go_wp2_with fail
      go_at_call 6; refine (Small8_of HSM.out _ HV.out (by omega) (by omega)).mono ?_; rintro e w' ⟨rfl, rfl⟩
      go_wp2_with fail
      go_at_call 7; refine (lives10_any C _).mono ?_; rintro e wb ⟨rfl, bb⟩
      have HBB := Lib.hid bb
      clear bb
      go_wp2_with fail
      go_ret
      exact ⟨rfl, HBB.out⟩
  · have HSM := Lib.hid (small_no hsm)
    clear hsm
    go_enter Try.func3, Try.ntmps3
    go_wp2_with fail
    go_at_call 6; refine (Small8_of HSM.out _ HV.out (by omega) (by omega)).mono ?_; rintro e w' ⟨rfl, rfl⟩
    go_wp2_with fail
    go_at_call 7; refine (lives10_any C _).mono ?_; rintro e wb ⟨rfl, bb⟩
    have HBB := Lib.hid bb
    clear bb
    go_wp2_with fail
    go_ret
    exact ⟨rfl, HBB.out⟩
end Go.Proofs.Ytoacedadfjoneaa.aig
