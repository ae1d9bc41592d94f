/- The walks of the statements on what literals hang on, and on what hangs on a variable, over any cones. -/
import Derived.Test.YtbdmndhjbemenaaC5
import Derived.Deep.RegionHeld3
namespace Go.Proofs.Ytbdmndhjbemenaa.aig
open Go.RowKit
open Go.Proofs.Ytbdmndhjbemenaa.mem Go.Proofs.Ytbdmndhjbemenaa.agf
open Go.Proofs.Ytbdmndhjbemenaa.ints (Ints refInts_any refInts_same ints_of_owned wpList_clone)

theorem small_no {ns : List (Int × Int)} {c : Int} (h : ¬ ((ns.length : Int) ≤ c ∧ okB ns = true)) : (decide ((ns.length : Int) ≤ c) && okB ns) = false := by
  cases hk : okB ns with
  | false => simp
  | true =>
    rw [decide_eq_false (fun e => h ⟨e, hk⟩)]; rfl
theorem small_yes {ns : List (Int × Int)} {c : Int} (h : (ns.length : Int) ≤ c ∧ okB ns = true) : (decide ((ns.length : Int) ≤ c) && okB ns) = true := by
  rw [decide_eq_true h.1, h.2]; rfl
set_option maxRecDepth 100000 in
set_option maxHeartbeats 3200000 in
theorem tells8_any (C : ConeOk) (v : Value) (ns : List (Int × Int)) (a : Option Addr) (n cap : Nat) (zs : List Int) (W : World) (hv : KNds (fun _ => False) W v ns) (hu : Ints W (.slice a n cap) zs) (hnil : a = none → n = 0 ∧ cap = 0) (h64 : ∀ z ∈ zs, In64 z) :
    Calls Try.prog 3 #[v, .slice a n cap] W fun e w' => e = .returned (.bool true) ∧ Below W.heap.size W w' := by
  have HV := Lib.hid hv
  have HU := Lib.hid hu
  have H64 := Lib.hid h64
  have HNIL := Lib.hid hnil
  obtain ⟨a', cap', hs, u1, u2, -⟩ := hu
  obtain ⟨rfl, hn, rfl⟩ := Value.slice.inj hs
  unfold maxLen at u2
  rw [← hn] at u1
  have HN := Lib.hid hn
  clear hv h64 hnil hn hs
  by_cases hsm : (ns.length : Int) ≤ 80 ∧ okB ns = true
  · have HSM := Lib.hid (small_yes hsm)
    have HG := Lib.hid (okB_good hsm.2)
    have HNL : Hid (ns.length ≤ 1000) := Lib.hid (by omega)
    clear hsm
    by_cases hl : n ≤ 40
    · have d0 : decide (40 < (n : Int)) = false := by simp; omega
      have HZL : Hid (zs.length ≤ 1000) := Lib.hid (by have := HN.out; omega)
      go_enter Try.func3, Try.ntmps3
      go_wp2_with fail
      go_at_call 7; refine (Small8_of HSM.out _ HV.out (by omega) (by omega)).mono ?_; rintro e w' ⟨rfl, rfl⟩
      go_wp2_with (at_builtin; refine wpList_clone _ rfl _ _ rfl rfl a n cap zs rfl HU.out HNIL.out (by omega) ?_)
      intro ov w1 o1 b1
      have HO1 := Lib.hid o1
      have HB1 := Lib.hid b1
      clear o1 b1
      go_wp2_with fail
      go_at_call 10; refine (C.of _ _ ns zs _ (HV.out.on HB1.out) HG.out HNL.out HO1.out H64.out HZL.out).mono ?_; rintro e w2 ⟨u2, rfl, t2, b2⟩
      have HB2 := Lib.hid (HB1.out.trans (b2.mono HB1.out.size))
      have HO2 := Lib.hid (Ints.on HO1.out b2)
      have HT2 := Lib.hid t2
      clear t2 b2 HO1
      go_wp2_with fail
      go_at_call 11; refine (refCones_any _ _ ns zs _ (HV.out.on HB2.out) HG.out HNL.out (Ints.on HU.out HB2.out) H64.out HZL.out).mono ?_; rintro e w3 h3
      obtain ⟨u3, rfl, t3, b3⟩ := told_tellsL h3
      have HB3 := Lib.hid (HB2.out.trans (b3.mono HB2.out.size))
      have HO3 := Lib.hid (Ints.on HO2.out b3)
      have HT3 := Lib.hid t3
      have HT2' := Lib.hid (Ints.on HT2.out b3)
      clear t3 b3 h3 HO2 HT2
      go_wp2_with fail
      go_at_call 9; refine (refInts_same rfl HT2'.out HT3.out).mono ?_; rintro e w4 ⟨rfl, b4⟩
      have HB4 := Lib.hid (HB3.out.trans (b4.mono HB3.out.size))
      have HO4 := Lib.hid (Ints.on HO3.out b4)
      clear b4 HO3 HT2' HT3
      go_wp2_with fail
      go_at_call 12; refine (C.support _ _ ns zs _ (HV.out.on HB4.out) HG.out HNL.out HO4.out H64.out HZL.out).mono ?_; rintro e w5 ⟨u5, rfl, t5, b5⟩
      have HB5 := Lib.hid (HB4.out.trans (b5.mono HB4.out.size))
      have HO5 := Lib.hid (Ints.on HO4.out b5)
      have HT5 := Lib.hid t5
      clear t5 b5 HO4
      go_wp2_with fail
      go_at_call 13; refine (refSupport_any _ _ ns zs _ (HV.out.on HB5.out) HG.out HNL.out (Ints.on HU.out HB5.out) H64.out HZL.out).mono ?_; rintro e w6 h6
      obtain ⟨u6, rfl, t6, b6⟩ := told_tellsL h6
      have HB6 := Lib.hid (HB5.out.trans (b6.mono HB5.out.size))
      have HO6 := Lib.hid (Ints.on HO5.out b6)
      have HT6 := Lib.hid t6
      have HT5' := Lib.hid (Ints.on HT5.out b6)
      clear t6 b6 h6 HO5 HT5
      go_wp2_with fail
      go_at_call 9; refine (refInts_same rfl HT5'.out HT6.out).mono ?_; rintro e w7 ⟨rfl, b7⟩
      have HB7 := Lib.hid (HB6.out.trans (b7.mono HB6.out.size))
      have HO7 := Lib.hid (Ints.on HO6.out b7)
      clear b7 HO6 HT5' HT6
      go_wp2_with fail
      go_at_call 14; refine (C.depth _ _ ns zs _ (HV.out.on HB7.out) HG.out HNL.out HO7.out H64.out HZL.out).mono ?_; rintro e w8 ⟨rfl, b8⟩
      have HB8 := Lib.hid (HB7.out.trans (b8.mono HB7.out.size))
      have HO8 := Lib.hid (Ints.on HO7.out b8)
      clear b8 HO7
      go_wp2_with fail
      go_at_call 15; refine (refDepth_any _ _ ns zs _ (HV.out.on HB8.out) HG.out HNL.out (Ints.on HU.out HB8.out) H64.out HZL.out).mono ?_; rintro e w9 ⟨rfl, b9⟩
      have HB9 := Lib.hid (HB8.out.trans (b9.mono HB8.out.size))
      have HO9 := Lib.hid (Ints.on HO8.out b9)
      clear b9 HO8
      go_wp2_with fail
      go_at_call 9; refine (refInts_same rfl HO9.out (Ints.on HU.out HB9.out)).mono ?_; rintro e wa ⟨rfl, ba⟩
      have HBA := Lib.hid (HB9.out.trans (ba.mono HB9.out.size))
      clear ba
      go_wp2_with fail
      go_at_call 8; refine (lives8_any C _).mono ?_; rintro e wb ⟨rfl, bb⟩
      have HBB := Lib.hid (HBA.out.trans (bb.mono HBA.out.size))
      clear bb
      go_wp2_with fail
      go_ret
      exact ⟨rfl, HBB.out⟩
    · have d0 : decide (40 < (n : Int)) = true := by simp; omega
      go_enter Try.func3, Try.ntmps3
      go_wp2_with fail
      go_at_call 7; refine (Small8_of HSM.out _ HV.out (by omega) (by omega)).mono ?_; rintro e w' ⟨rfl, rfl⟩
      go_wp2_with fail
      go_at_call 8; refine (lives8_any C _).mono ?_; rintro e wb ⟨rfl, bb⟩
      have HBB := Lib.hid bb
      clear bb
      go_wp2_with fail
      go_ret
      exact ⟨rfl, HBB.out⟩
  · have HSM := Lib.hid (small_no hsm)
    clear hsm
    go_enter Try.func3, Try.ntmps3
    go_wp2_with fail
    go_at_call 7; refine (Small8_of HSM.out _ HV.out (by omega) (by omega)).mono ?_; rintro e w' ⟨rfl, rfl⟩
    go_wp2_with fail
    go_at_call 8; refine (lives8_any C _).mono ?_; rintro e wb ⟨rfl, bb⟩
    have HBB := Lib.hid bb
    clear bb
    go_wp2_with fail
    go_ret
    exact ⟨rfl, HBB.out⟩
theorem grid_at {ns : List (Int × Int)} {k : Nat} (h : k < ns.length + 1) : ((List.range (ns.length + 1)).map fun x => selTo (fanB ns x) ns.length).getD k [] = selTo (fanB ns k) ns.length := by
  simp [List.getD, h]
set_option maxRecDepth 100000 in
set_option maxHeartbeats 3200000 in
theorem above8_any (C : ConeOk) (v : Value) (ns : List (Int × Int)) (x : Int) (W : World) (hv : KNds (fun _ => False) W v ns) (hx : In64 x) :
    Calls Try.prog 4 #[v, .int .i64 x] W fun e w' => e = .returned (.bool true) ∧ Below W.heap.size W w' := by
  have HV := Lib.hid hv
  have HX := Lib.hid hx
  obtain ⟨va, vcap, rfl, v1, v2⟩ := hv.form
  unfold maxLen at v2
  by_cases hsm : (ns.length : Int) ≤ 80 ∧ okB ns = true
  · have HSM := Lib.hid (small_yes hsm)
    have HG := Lib.hid (okB_good hsm.2)
    have HNL : Hid (ns.length ≤ 1000) := Lib.hid (by omega)
    obtain ⟨m, hm⟩ : ∃ m, m = ns.length := ⟨_, rfl⟩
    have hm80 : m ≤ 80 := by omega
    have HGR := Lib.hid (fun k h => grid_at (ns := ns) (k := k) h)
    have HLL : Hid (((List.range (ns.length + 1)).map fun x => selTo (fanB ns x) ns.length).length = ns.length + 1) := Lib.hid (by simp)
    obtain ⟨LL, hLL⟩ : ∃ LL, LL = (List.range (ns.length + 1)).map fun x => selTo (fanB ns x) ns.length := ⟨_, rfl⟩
    rw [← hLL] at HGR HLL
    have HLE := Lib.hid hLL
    have HM := Lib.hid hm
    rw [← hm] at v1 HLL HGR HV ⊢
    clear hsm hv hx hLL hm
    go_enter Try.func4, Try.ntmps4
    go_wp2_with fail
    go_at_call 7; refine (Small8_of HSM.out _ HV.out (by omega) (by omega)).mono ?_; rintro e w' ⟨rfl, rfl⟩
    go_wp2_with fail
    go_at_call 16; refine (C.fanouts _ ns _ HV.out HG.out HNL.out).mono ?_; rintro e w1 ⟨u, rfl, g1, b1⟩
    rw [← HLE.out] at g1
    have HG1 := Lib.hid g1
    have HB1 := Lib.hid b1
    obtain ⟨ga, gcap, rfl, g2, g3, -⟩ := g1
    unfold maxLen at g3
    obtain ⟨q0, hq0⟩ : ∃ q0, q0 = LL.length := ⟨_, rfl⟩
    rw [← hq0] at HG1 HLL g2 ⊢
    have q1 : q0 = m + 1 := HLL.out
    have HQ0 := Lib.hid hq0
    have q2 : ((q0 : Int) != (m : Int) + 1) = false := by simp; omega
    have q3 : q0 ≤ 81 := by omega
    have HQ := Lib.hid q1
    clear b1 hq0 q1
    go_wp2_with fail
    go_loopw [6] (fun i wr => ∃ k : Nat, k ≤ q0 ∧ i = .int .i64 k ∧ Hid (Below W.heap.size W wr ∧ Grid wr (.slice ga q0 gcap) LL)) (fun i _ => q0 - (intOf i).toNat)
    case atStart => exact ⟨0, Nat.zero_le _, rfl, Lib.hid ⟨HB1.out, HG1.out⟩⟩
    case round =>
      clear HB1 HG1
      obtain ⟨k, hk, rfl, HW⟩ := hrel
      obtain ⟨wo, rfl⟩ : ∃ wo : World, wo = wr := ⟨_, rfl⟩
      by_cases hlt : k < q0
      · obtain ⟨ga', gcap', hgv, -, -, hgc⟩ := HW.out.2
        obtain ⟨rfl, -, rfl⟩ := Value.slice.inj hgv
        obtain ⟨b, off, hga, hb, hcell⟩ := hgc (by rw [← HQ0.out]; omega)
        subst hga
        obtain ⟨fv, hc, hi⟩ := hcell k (by rw [← HQ0.out]; exact hlt)
        rw [HGR.out k (by have := HQ.out; omega)] at hi
        have HI := Lib.hid hi
        have d1 : (k : Int) < (q0 : Int) := by omega
        have d2 : 0 ≤ (k : Int) := by omega
        have HD : Hid (Below wo.heap.size wo (wo.drewN 1)) := Lib.hid (below_drewN (Below.refl _ _) 1)
        have KC : Hid (∀ u, Below wo.heap.size wo u → u.cell? ⟨b, off + k, none⟩ = some fv) := Lib.hid (fun u hu => (hu.cell (p := ⟨b, off + k, none⟩) hb).trans hc)
        clear hgv hgc hcell hi
        go_upto_region 9 with fail
        go_region_held3 (fun w' => w'.cell? ⟨b, off + k, none⟩ = some fv)
          (first | (exact KC.out _ hb6) | (exact KC.out _ hb5) | go_keep)
          (first | (go_at_call 17; refine (refFanouts_any (fun _ => False) _ ns k _ (HV.out.on (HW.out.1.trans (HD.out.mono HW.out.1.size))) HG.out HNL.out).mono ?_; rintro e w5 h5; obtain ⟨u5, rfl, t5, b5⟩ := told_tellsL h5; have hb5 := HD.out.trans (b5.mono HD.out.size)) | (go_at_call 9; refine (refInts_same (by rw [HM.out]) (Ints.on HI.out hb5) t5).mono ?_; rintro e w6 ⟨rfl, b6⟩; have hb6 := hb5.trans (b6.mono hb5.size)))
        have HE : Hid (Below W.heap.size W w6 ∧ Grid w6 (.slice (some ⟨b, off, none⟩) q0 gcap) LL) := Lib.hid ⟨HW.out.1.trans (hb6.mono HW.out.1.size), HW.out.2.on hb6⟩
        clear h5 t5 b5 b6 hb5 hb6 hc hb
        go_wp2_with fail
        go_roundw
        case rel => exact ⟨k + 1, by omega, by go_num, HE⟩
        case measure => simp [intOf]; omega
      · obtain rfl : q0 = k := by omega
        clear hlt hk
        go_wp2_with fail
        go_at_call 18; refine (C.above _ ns x _ (HV.out.on HW.out.1) HG.out HNL.out HX.out).mono ?_; rintro e w2 ⟨u2, rfl, t2, b2⟩
        have HB2 := Lib.hid (HW.out.1.trans (b2.mono HW.out.1.size))
        have HT2 := Lib.hid t2
        clear t2 b2
        go_wp2_with fail
        go_at_call 19; refine (refAbove_any (fun _ => False) _ ns x _ (HV.out.on HB2.out) HG.out HNL.out).mono ?_; rintro e w3 h3
        obtain ⟨u3, rfl, t3, b3⟩ := told_tellsL h3
        have HB3 := Lib.hid (HB2.out.trans (b3.mono HB2.out.size))
        have HT3 := Lib.hid t3
        have HT2' := Lib.hid (Ints.on HT2.out b3)
        clear t3 b3 h3 HT2
        go_wp2_with fail
        go_at_call 9; refine (refInts_same rfl HT2'.out HT3.out).mono ?_; rintro e w4 ⟨rfl, b4⟩
        have HB4 := Lib.hid (HB3.out.trans (b4.mono HB3.out.size))
        clear b4
        go_wp2_with fail
        go_at_call 8; refine (lives8_any C _).mono ?_; rintro e wb ⟨rfl, bb⟩
        have HBB := Lib.hid (HB4.out.trans (bb.mono HB4.out.size))
        clear bb
        go_wp2_with fail
        go_ret
        exact ⟨rfl, HBB.out⟩
  · have HSM := Lib.hid (small_no hsm)
    clear hsm hv hx
    go_enter Try.func4, Try.ntmps4
    go_wp2_with fail
    go_at_call 7; refine (Small8_of HSM.out _ HV.out (by omega) (by omega)).mono ?_; rintro e w' ⟨rfl, rfl⟩
    go_wp2_with fail
    go_at_call 8; refine (lives8_any C _).mono ?_; rintro e wb ⟨rfl, bb⟩
    have HBB := Lib.hid bb
    clear bb
    go_wp2_with fail
    go_ret
    exact ⟨rfl, HBB.out⟩
end Go.Proofs.Ytbdmndhjbemenaa.aig
