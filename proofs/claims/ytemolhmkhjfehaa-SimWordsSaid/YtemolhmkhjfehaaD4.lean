/- The walk of the statement on words, over any simulation. -/
import Derived.Test.YtemolhmkhjfehaaD3
namespace Go.Proofs.Ytemolhmkhjfehaa.aig
open Go.RowKit
open Go.Proofs.Ytemolhmkhjfehaa.mem Go.Proofs.Ytemolhmkhjfehaa.agf
open Go.Proofs.Ytemolhmkhjfehaa.nats (Rd U rd_len rd_cell rd_form Rd.on rd_of_owned)

set_option maxRecDepth 100000 in
set_option maxHeartbeats 1600000 in
theorem words9_any (C : SimOk) (v uv : Value) (ns : List (Int × Int)) (zs : List Nat) (l : Int) (W : World) (hv : KNds (fun _ => False) W v ns) (hu : Rd U W uv zs) (hz : ∀ z ∈ zs, z < 18446744073709551616) (hnil : ∀ n c, uv = .slice none n c → n = 0 ∧ c = 0) (hl : In64 l) :
    Calls Try.prog 4 #[v, uv, .int .i64 l] W fun e w' => e = .returned (.bool true) ∧ Below W.heap.size W w' := by
  have HV := Lib.hid hv
  have HU := Lib.hid hu
  have HZ := Lib.hid hz
  have HL := Lib.hid hl
  obtain ⟨va, vcap, rfl, v1, v2⟩ := hv.form
  unfold maxLen at v2
  obtain ⟨ua, ucap, rfl⟩ := rd_form hu
  obtain ⟨-, u1, u2⟩ := rd_len hu
  unfold maxLen at u2
  have HNIL : Hid (ua = none → zs.length = 0 ∧ ucap = 0) := Lib.hid (fun e => hnil _ _ (by rw [e]))
  obtain ⟨n, hn⟩ : ∃ n, n = zs.length := ⟨_, rfl⟩
  rw [← hn] at u1 HU HNIL ⊢
  have HN := Lib.hid hn
  clear hv hu hz hn hnil hl
  by_cases hsm : (ns.length : Int) ≤ 40 ∧ okB ns = true
  · have HSM := Lib.hid (small_yes hsm)
    have HG := Lib.hid (okB_good hsm.2)
    have HNL : Hid (ns.length ≤ 40) := Lib.hid (by omega)
    obtain ⟨m, hm⟩ : ∃ m, m = ns.length := ⟨_, rfl⟩
    have hm40 : m ≤ 40 := by omega
    have HM := Lib.hid hm
    rw [← hm] at v1 HV ⊢
    clear hsm hm
    by_cases c1 : n ≤ 60
    · have d1 : decide (60 < (n : Int)) = false := by simp; omega
      have HZL : Hid (zs.length ≤ 1000) := Lib.hid (by rw [← HN.out]; omega)
      clear c1
      go_enter Try.func4, Try.ntmps4
      go_wp2_with fail
      go_at_call 6; refine (Small8_of HSM.out _ HV.out (by omega) (by omega)).mono ?_; rintro e w' ⟨rfl, rfl⟩
      go_wp2_with (at_builtin; refine wpList_cloneU _ rfl _ _ rfl rfl ua n ucap zs rfl HU.out HNIL.out HZL.out ?_)
      intro ov w1 o1 b1
      have HO1 := Lib.hid o1
      have HB1 := Lib.hid b1
      clear o1 b1
      go_wp2_with fail
      go_at_call 13; refine (C.words _ _ ns zs _ (HV.out.on HB1.out) HG.out (by have := HNL.out; omega) HO1.out HZ.out HZL.out).mono ?_; rintro e w2 ⟨u2, ws, rfl, t2, s2, k2, g2, b2⟩
      have HB2 := Lib.hid (HB1.out.trans (b2.mono HB1.out.size))
      have HT2 := Lib.hid t2
      have HK2 := Lib.hid k2
      have HG2 := Lib.hid g2
      obtain ⟨wa, wcap, rfl⟩ := rd_form t2
      obtain ⟨-, w3, w4⟩ := rd_len t2
      unfold maxLen at w4
      obtain ⟨q, hq⟩ : ∃ q, q = ws.length := ⟨_, rfl⟩
      rw [← hq] at w3 HT2 ⊢
      have HQ := Lib.hid hq
      have hq1 : q = m + 1 := by rw [hq, s2, ← HM.out]
      have c2 : ((q : Int) != (m : Int) + 1) = false := by simp; omega
      have hq41 : q ≤ 41 := by omega
      have HWL : Hid (ws.length ≤ 1000) := Lib.hid (by rw [← HQ.out]; omega)
      clear t2 s2 k2 g2 b2 HO1 hq hq1
      go_wp2_with fail
      go_at_call 14; refine (C.word _ ws l _ HT2.out HK2.out HWL.out HL.out).mono ?_; rintro e w3 ⟨x, rfl, x1, x2, b3⟩
      have HB3 := Lib.hid (HB2.out.trans (b3.mono HB2.out.size))
      have HT3 := Lib.hid (HT2.out.on b3)
      have HX := Lib.hid x1
      have HXB := Lib.hid x2
      clear x2 x1 b3 HT2
      go_wp2_with fail
      go_loopw [9] (fun i wr => ∃ k : Nat, k ≤ 64 ∧ i = .int .i64 k ∧ Hid (Below W.heap.size W wr ∧ Rd U wr (.slice wa q wcap) ws)) (fun i _ => 64 - (intOf i).toNat)
      case atStart => exact ⟨0, Nat.zero_le _, rfl, Lib.hid ⟨HB3.out, HT3.out⟩⟩
      case round =>
        clear HB3 HT3 HB2 HB1
        obtain ⟨k, hk, rfl, HW⟩ := hrel
        obtain ⟨wo, rfl⟩ : ∃ wo : World, wo = wr := ⟨_, rfl⟩
        by_cases hlt : k < 64
        · have d2 : (k : Int) < 64 := by omega
          have d3 : 0 ≤ (k : Int) := by omega
          have HLA := Lib.hid (refLane_any (.slice ua n ucap) zs (k : Int) wo (HU.out.on HW.out.1) HZ.out HZL.out)
          have HL0 : Hid (laneZ ws (k : Int) = (st (laneZ zs (k : Int)) (ns.map absN)).1) := Lib.hid (by rw [lane_yes _ hlt, lane_yes _ hlt]; exact HG2.out k hlt)
          have HX0 : Hid (litB (st (laneZ zs (k : Int)) (ns.map absN)).1 l = x.testBit k) := Lib.hid (by rw [← HL0.out, HXB.out k hlt, lane_yes _ hlt])
          have HLT := Lib.hid hlt
          clear hlt
          go_wp2_with fail
          go_at_call 15; refine HLA.out.mono ?_; rintro e w4 h4
          obtain ⟨u4, rfl, t4, b4⟩ := told_tellsB h4
          have HB4 := Lib.hid (HW.out.1.trans (b4.mono HW.out.1.size))
          have HR4 := Lib.hid (HW.out.2.on b4)
          have HT4 := Lib.hid t4
          clear h4 t4 b4 HW HLA
          go_wp2_with fail
          go_at_call 10; refine (refValues_any (fun _ => False) _ _ ns _ _ (HV.out.on HB4.out) HT4.out HG.out (by have := HNL.out; omega)).mono ?_; rintro e w5 h5
          obtain ⟨u5, rfl, t5, b5⟩ := told_tellsB h5
          have HB5 := Lib.hid (HB4.out.trans (b5.mono HB4.out.size))
          have HR5 := Lib.hid (HR4.out.on b5)
          have HT5 := Lib.hid t5
          clear h5 t5 b5 HR4 HT4 HB4
          go_wp2_with fail
          go_at_call 15; refine (refLane_any _ ws (k : Int) _ HR5.out HK2.out HWL.out).mono ?_; rintro e w6 h6
          obtain ⟨u6, rfl, t6, b6⟩ := told_tellsB h6
          have HB6 := Lib.hid (HB5.out.trans (b6.mono HB5.out.size))
          have HR6 := Lib.hid (HR5.out.on b6)
          have HT6 := Lib.hid t6
          have HT5' := Lib.hid (HT5.out.on b6)
          clear h6 t6 b6 HR5 HT5 HB5
          go_wp2_with fail
          go_at_call 8; refine (same9 HL0.out _ _ _ HT6.out HT5'.out (by unfold laneZ; split <;> simp <;> (have := HWL.out; omega))).mono ?_; rintro e w7 ⟨rfl, b7⟩
          have HB7 := Lib.hid (HB6.out.trans (b7.mono HB6.out.size))
          have HR7 := Lib.hid (HR6.out.on b7)
          have HT7 := Lib.hid (HT5'.out.on b7)
          clear b7 HR6 HT5' HT6 HB6
          go_wp2_with fail
          go_at_call 16; refine (refBit9_any x k _ HX.out HLT.out).mono ?_; rintro e w' ⟨rfl, rfl⟩
          have HLI := Lib.hid (refLit9_of HX0.out w7 HT7.out HL.out)
          obtain ⟨y, hy⟩ : ∃ y, y = x.testBit k := ⟨_, rfl⟩
          rw [← hy] at HLI ⊢
          have c3 : (y != y) = false := by simp
          clear hy HX0
          go_wp2_with fail
          go_at_call 12; refine HLI.out.mono ?_; rintro e w' ⟨rfl, rfl⟩
          have HE : Hid (Below W.heap.size W w7 ∧ Rd U w7 (.slice wa q wcap) ws) := Lib.hid ⟨HB7.out, HR7.out⟩
          clear HLI HB7 HR7 HT7
          go_wp2_with fail
          go_roundw
          case rel => exact ⟨k + 1, by have := HLT.out; omega, by go_num, HE⟩
          case measure => have := HLT.out; simp [intOf]; omega
        · obtain rfl : k = 64 := by omega
          clear hlt hk
          go_wp2_with fail
          go_at_call 7; refine (lives9_any C _).mono ?_; rintro e wb ⟨rfl, bb⟩
          have HBB := Lib.hid (HW.out.1.trans (bb.mono HW.out.1.size))
          clear bb
          go_wp2_with fail
          go_ret
          exact ⟨rfl, HBB.out⟩
    · have d1 : decide (60 < (n : Int)) = true := by simp; omega
      clear c1
      go_enter Try.func4, Try.ntmps4
      go_wp2_with fail
      go_at_call 6; refine (Small8_of HSM.out _ HV.out (by omega) (by omega)).mono ?_; rintro e w' ⟨rfl, rfl⟩
      go_wp2_with fail
      go_at_call 7; refine (lives9_any C _).mono ?_; rintro e wb ⟨rfl, bb⟩
      have HBB := Lib.hid bb
      clear bb
      go_wp2_with fail
      go_ret
      exact ⟨rfl, HBB.out⟩
  · have HSM := Lib.hid (small_no hsm)
    clear hsm
    go_enter Try.func4, Try.ntmps4
    go_wp2_with fail
    go_at_call 6; refine (Small8_of HSM.out _ HV.out (by omega) (by omega)).mono ?_; rintro e w' ⟨rfl, rfl⟩
    go_wp2_with fail
    go_at_call 7; refine (lives9_any C _).mono ?_; rintro e wb ⟨rfl, bb⟩
    have HBB := Lib.hid bb
    clear bb
    go_wp2_with fail
    go_ret
    exact ⟨rfl, HBB.out⟩
end Go.Proofs.Ytemolhmkhjfehaa.aig
