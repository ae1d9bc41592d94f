/- The walk of the statement on lanes and on words of lanes, over any simulation. -/
import Derived.Test.YtemolhmkhjfehaaD5
import Derived.Deep.QuietTactic
import Derived.BigQuiet
namespace Go.Proofs.Ytemolhmkhjfehaa.aig
open Go.RowKit
open Go.Proofs.Ytemolhmkhjfehaa.mem Go.Proofs.Ytemolhmkhjfehaa.agf
open Go.Proofs.Ytemolhmkhjfehaa.nats (Rd U rd_len rd_cell rd_form Rd.on rd_of_owned)

theorem KB.take {w : World} {a : Option Addr} {n cap k : Nat} {bs : List Bool} (h : KB w (.slice a n cap) bs) (hk : k ≤ n) : KB w (.slice a k cap) (bs.take k) := by
  obtain ⟨a', cap', hv, h1, h2, h3⟩ := h
  obtain ⟨rfl, e1, rfl⟩ := Value.slice.inj hv
  have hl : (bs.take k).length = k := by rw [List.length_take]; omega
  refine ⟨a, cap, by rw [hl], by omega, h2, fun hp => ?_⟩
  obtain ⟨b, off, ha, hlt, hc⟩ := h3 (by omega)
  refine ⟨b, off, ha, hlt, fun i hi => ?_⟩
  rw [hl] at hi
  rw [hc i (by omega)]
  simp [List.getD, hi]
set_option maxRecDepth 100000 in
set_option maxHeartbeats 3200000 in
theorem lanes9_any (C : SimOk) (uv gv : Value) (zs : List Nat) (i : Int) (LL : List (List Bool)) (W : World) (hu : Rd U W uv zs) (hz : ∀ z ∈ zs, z < 18446744073709551616) (hnil : ∀ n c, uv = .slice none n c → n = 0 ∧ c = 0) (hi : In64 i) (hg : GridB W gv LL) :
    Calls Try.prog 5 #[uv, .int .i64 i, gv] W fun e w' => e = .returned (.bool true) ∧ Below W.heap.size W w' := by
  have HU := Lib.hid hu
  have HZ := Lib.hid hz
  have HI := Lib.hid hi
  have HG := Lib.hid hg
  obtain ⟨ua, ucap, rfl⟩ := rd_form hu
  obtain ⟨-, u1, u2⟩ := rd_len hu
  unfold maxLen at u2
  have HNIL : Hid (ua = none → zs.length = 0 ∧ ucap = 0) := Lib.hid (fun e => hnil _ _ (by rw [e]))
  obtain ⟨m, hm⟩ : ∃ m, m = zs.length := ⟨_, rfl⟩
  rw [← hm] at u1 HU HNIL ⊢
  have HM := Lib.hid hm
  obtain ⟨a, cap, rfl, l1, l2, -⟩ := hg
  unfold maxLen at l2
  obtain ⟨n, hn⟩ : ∃ n, n = LL.length := ⟨_, rfl⟩
  rw [← hn] at l1 HG ⊢
  have HN := Lib.hid hn
  clear hu hz hi hnil hm hn
  by_cases c1 : m ≤ 60
  · have d1 : decide (60 < (m : Int)) = false := by simp; omega
    have HZL : Hid (zs.length ≤ 1000) := Lib.hid (by rw [← HM.out]; omega)
    by_cases c2 : n ≤ 80
    · have d2 : decide (80 < (n : Int)) = false := by simp; omega
      have HNL : Hid (LL.length ≤ 1000) := Lib.hid (by rw [← HN.out]; omega)
      clear c1
      go_enter Try.func5, Try.ntmps5
      go_wp2_with fail
      go_loop [7] (fun x => ∃ k : Nat, k ≤ n ∧ x = .int .i64 k ∧ Hid (∀ j, j < k → (LL.getD j []).length ≤ 60)) (fun x => n - (intOf x).toNat)
      case atStart => exact ⟨0, Nat.zero_le _, rfl, Lib.hid (fun j hj => by omega)⟩
      case round =>
        obtain ⟨k, hk, rfl, HJ⟩ := hrel
        by_cases hlt : k < n
        · obtain ⟨b, off, rfl, -, ra, rcap, hc, r1, r2, -⟩ := HG.out.at_ hlt
          unfold maxLen at r1
          have d3 : (k : Int) < (n : Int) := by omega
          have d4 : 0 ≤ (k : Int) := by omega
          obtain ⟨lk, hlke⟩ : ∃ lk, lk = (LL.getD k []).length := ⟨_, rfl⟩
          rw [← hlke] at hc r2
          by_cases c3 : lk ≤ 60
          · have d5 : decide (60 < (lk : Int)) = false := by simp; omega
            have HJ2 : Hid (∀ j, j < k + 1 → (LL.getD j []).length ≤ 60) := Lib.hid (fun j hj => by
              by_cases e : j = k
              · rw [e, ← hlke]; exact c3
              · exact HJ.out j (by omega))
            clear c3 hlke
            go_wp2_with fail
            go_round
            case rel => exact ⟨k + 1, by omega, by go_num, HJ2⟩
            case measure => simp [intOf]; omega
          · have d5 : decide (60 < (lk : Int)) = true := by simp; omega
            clear c3 hlke HJ
            go_wp2_with fail
            go_at_call 7; refine (lives9_any C _).mono ?_; rintro e wb ⟨rfl, bb⟩
            have HBB := Lib.hid bb
            clear bb
            go_wp2_with fail
            go_ret
            exact ⟨rfl, HBB.out⟩
        · obtain rfl : n = k := by omega
          have H60 : Hid (∀ l ∈ LL, l.length ≤ 60) := Lib.hid (fun l hl => by
            obtain ⟨j, hj, rfl⟩ := List.getElem_of_mem hl
            have h := HJ.out j (by rw [HN.out]; exact hj)
            simpa [List.getD, hj] using h)
          have H1000 : Hid (∀ l ∈ LL, l.length ≤ 1000) := Lib.hid (fun l hl => by have := H60.out l hl; omega)
          clear hlt hk HJ
          go_wp2_with fail
          go_at_call 17; refine (C.pack _ LL _ HG.out H1000.out HNL.out).mono ?_; rintro e w1 ⟨p1, rfl, t1, b1⟩
          have HB1 := Lib.hid b1
          have HP1 := Lib.hid t1
          clear t1 b1
          go_wp2_with fail
          go_at_call 18; refine (refPack_any _ LL _ (HG.out.on HB1.out) H1000.out HNL.out).mono ?_; rintro e w2 ⟨p2, rfl, t2, b2⟩
          have HB2 := Lib.hid (HB1.out.trans (b2.mono HB1.out.size))
          have HP2 := Lib.hid (HP1.out.on b2)
          have HQ2 := Lib.hid t2
          clear t2 b2 HP1
          have hpl : (packL LL).length ≤ 60 := by rw [packL_len]; exact packN_le H60.out _
          have HPL := Lib.hid hpl
          have HPZ := Lib.hid (packL_lt LL)
          have HPB := Lib.hid (fun j (h : j < packI LL) => pack_back (LL := LL) h)
          have HPI : Hid (packI LL = min n 64) := Lib.hid (by unfold packI; rw [← HN.out])
          obtain ⟨P, hP⟩ : ∃ P, P = packL LL := ⟨_, rfl⟩
          rw [← hP] at HP2 HQ2 HPL HPZ HPB hpl
          clear hP
          obtain ⟨pa, pcap, rfl⟩ := rd_form HP2.out
          obtain ⟨-, p3, p4⟩ := rd_len HP2.out
          unfold maxLen at p4
          obtain ⟨qa, qcap, rfl⟩ := rd_form HQ2.out
          obtain ⟨-, q3, q4⟩ := rd_len HQ2.out
          unfold maxLen at q4
          obtain ⟨t, ht⟩ : ∃ t, t = P.length := ⟨_, rfl⟩
          rw [← ht] at p3 q3 HP2 HQ2 hpl ⊢
          have HT := Lib.hid ht
          have e1 : ((t : Int) != (t : Int)) = false := by simp
          clear ht
          go_wp2_with (at_builtin; refine wpList_cloneU _ rfl _ _ rfl rfl ua m ucap zs rfl (HU.out.on HB2.out) HNIL.out HZL.out ?_)
          intro ov w3 o3 b3
          have HB3 := Lib.hid (HB2.out.trans (b3.mono HB2.out.size))
          have HO3 := Lib.hid o3
          have HP3 := Lib.hid (HP2.out.on b3)
          have HQ3 := Lib.hid (HQ2.out.on b3)
          clear o3 b3 HP2 HQ2 HB2 HB1
          go_wp2_with fail
          go_at_call 19; refine (C.lane _ zs i _ HO3.out HZ.out HZL.out HI.out).mono ?_; rintro e w4 ⟨u4, rfl, t4, b4⟩
          have HB4 := Lib.hid (HB3.out.trans (b4.mono HB3.out.size))
          have HT4 := Lib.hid t4
          have HP4 := Lib.hid (HP3.out.on b4)
          have HQ4 := Lib.hid (HQ3.out.on b4)
          clear t4 b4 HP3 HQ3 HO3
          go_wp2_with fail
          go_at_call 15; refine (refLane_any _ zs i _ (HU.out.on HB4.out) HZ.out HZL.out).mono ?_; rintro e w5 h5
          obtain ⟨u5, rfl, t5, b5⟩ := told_tellsB h5
          have HB5 := Lib.hid (HB4.out.trans (b5.mono HB4.out.size))
          have HT5 := Lib.hid t5
          have HT4' := Lib.hid (HT4.out.on b5)
          have HP5 := Lib.hid (HP4.out.on b5)
          have HQ5 := Lib.hid (HQ4.out.on b5)
          clear h5 t5 b5 HP4 HQ4 HT4 HB4 HB3
          go_wp2_with fail
          go_at_call 8; refine (same9 rfl _ _ _ HT4'.out HT5.out (by unfold laneZ; split <;> simp <;> (have := HZL.out; omega))).mono ?_; rintro e w6 ⟨rfl, b6⟩
          have HB6 := Lib.hid (HB5.out.trans (b6.mono HB5.out.size))
          have HP6 := Lib.hid (HP5.out.on b6)
          have HQ6 := Lib.hid (HQ5.out.on b6)
          clear b6 HP5 HQ5 HT4' HT5 HB5
          go_wp2_with fail
          go_loopw [10] (fun x wr => ∃ k : Nat, k ≤ t ∧ x = .int .i64 k ∧ Hid (∃ q, wr = w6.drewN q)) (fun x _ => t - (intOf x).toNat)
          case atStart => exact ⟨0, Nat.zero_le _, rfl, Lib.hid ⟨0, rfl⟩⟩
          case round =>
            obtain ⟨k, hk, rfl, HQ⟩ := hrel
            obtain ⟨wo, rfl⟩ : ∃ wo : World, wo = wr := ⟨_, rfl⟩
            have hb : Below w6.heap.size w6 wo := by obtain ⟨q, e⟩ := HQ.out; rw [e]; exact below_drewN (Below.refl _ _) q
            by_cases hlt : k < t
            · obtain ⟨b, off, rfl, -, e2⟩ := rd_cell (HP6.out.on hb) hlt
              obtain ⟨b', off', rfl, -, e3⟩ := rd_cell (HQ6.out.on hb) hlt
              obtain ⟨x, hx⟩ : ∃ x, x = P.getD k 0 := ⟨_, rfl⟩
              rw [← hx] at e2 e3
              have d3 : (k : Int) < (t : Int) := by omega
              have d4 : 0 ≤ (k : Int) := by omega
              have d5 : ((x : Int) != (x : Int)) = false := by simp
              clear hx hb
              go_wp2_with fail
              go_quiet (fail)
              go_wp2_with fail
              go_roundw
              case rel => exact ⟨k + 1, by omega, by go_num, Lib.hid (by obtain ⟨q, e⟩ := HQ.out; exact ⟨q + nq, by rw [e, World.drewN_drewN]⟩)⟩
              case measure => simp [intOf]; omega
            · obtain rfl : t = k := by omega
              have HBO := Lib.hid (HB6.out.trans (hb.mono HB6.out.size))
              have HPO := Lib.hid (HP6.out.on hb)
              clear hlt hk hb HQ HP6 HQ6 HB6
              go_wp2_with fail
              go_loopw [11] (fun x wr => ∃ k : Nat, k ≤ min n 64 ∧ x = .int .i64 k ∧ Hid (Below W.heap.size W wr ∧ Rd U wr (.slice pa t pcap) P)) (fun x _ => 100 - (intOf x).toNat)
              case atStart => exact ⟨0, Nat.zero_le _, rfl, Lib.hid ⟨HBO.out, HPO.out⟩⟩
              case round =>
                clear HBO HPO
                obtain ⟨k, hk, rfl, HW⟩ := hrel
                obtain ⟨wo, rfl⟩ : ∃ wo : World, wo = wr := ⟨_, rfl⟩
                by_cases hlt : k < min n 64
                · have d3 : (k : Int) < (n : Int) := by omega
                  have d4 : (k : Int) < 64 := by omega
                  have d5 : 0 ≤ (k : Int) := by omega
                  obtain ⟨b, off, rfl, hb, ra, rcap, hc, r1, r2, hkb⟩ := (HG.out.on HW.out.1).at_ (show k < n by omega)
                  unfold maxLen at r1
                  have hback := HPB.out k (by rw [HPI.out]; exact hlt)
                  have HCL := Lib.hid (C.lane (.slice pa t pcap) P (k : Int) wo HW.out.2 HPZ.out (by have := HPL.out; omega) (by unfold In64; omega))
                  have HSMK := Lib.hid hlt
                  have hlane : (laneZ P (k : Int)).length ≤ 60 := by
                    rw [lane_yes _ (show k < 64 by omega), List.length_map]; exact HPL.out
                  obtain ⟨G, hGG⟩ : ∃ G, G = LL.getD k [] := ⟨_, rfl⟩
                  rw [← hGG] at hc r2 hkb hback
                  obtain ⟨ZZ, hZZ⟩ : ∃ ZZ, ZZ = laneZ P (k : Int) := ⟨_, rfl⟩
                  rw [← hZZ] at hback HCL hlane
                  have HBK := Lib.hid hback.2
                  have hle := hback.1
                  have HKB := Lib.hid hkb
                  obtain ⟨lk, hlke⟩ : ∃ lk, lk = G.length := ⟨_, rfl⟩
                  rw [← hlke] at hc r2 HKB hle HBK
                  have hlk60 : lk ≤ 60 := by omega
                  have HLK := Lib.hid hlke
                  have KC : Hid (∀ u, Below wo.heap.size wo u → u.cell? ⟨b, off + k, none⟩ = some (.slice ra lk rcap)) := Lib.hid (fun u hu => (hu.cell (p := ⟨b, off + k, none⟩) hb).trans hc)
                  clear hGG hZZ hback hkb hlke hc hb hlt
                  go_wp2_with fail
                  go_at_call 19; refine HCL.out.mono ?_; rintro e w7 ⟨mv, rfl, t7, b7⟩
                  have HB7 := Lib.hid b7
                  obtain ⟨ma, mcap, rfl, m1, m2⟩ := t7.form9
                  unfold maxLen at m2
                  obtain ⟨ml, hml⟩ : ∃ ml, ml = ZZ.length := ⟨_, rfl⟩
                  rw [← hml] at t7 m1 hle hlane ⊢
                  have HT7 := Lib.hid t7
                  have d6 : decide ((ml : Int) < (lk : Int)) = false := by simp; omega
                  have d7 : (lk : Int) ≤ (mcap : Int) := by omega
                  have HSK : Hid (KB w7 (.slice ma lk mcap) G) := Lib.hid (by have h := t7.take hle; rw [HBK.out] at h; exact h)
                  have hc7 := KC.out w7 b7
                  have HSK : Hid (KB w7 (.slice ma lk mcap) G) := Lib.hid (by have h := t7.take hle; rw [HBK.out] at h; exact h)
                  have hc7 := KC.out w7 b7
                  have HD : Hid (Below w7.heap.size w7 (w7.drewN 1)) := Lib.hid (below_drewN (Below.refl _ _) 1)
                  have KC7 : Hid (∀ u, Below w7.heap.size w7 u → u.cell? ⟨b, off + k, none⟩ = some (.slice ra lk rcap)) := Lib.hid (fun u hu => KC.out u (b7.trans (hu.mono b7.size)))
                  clear t7 b7 hml HBK
                  have HSQ := Lib.hid (fun q => same9_quiet G (.slice ma lk mcap) (.slice ra lk rcap) w7 q HSK.out (HKB.out.on HB7.out) (by have := HLK.out; omega))
                  go_wp2_with fail
                  go_quiet (first | (go_at_call 8; exact HSQ.out _))
                  have hb8 : Below w7.heap.size w7 (w7.drewN nq) := below_drewN (Below.refl _ _) nq
                  have HE : Hid (Below W.heap.size W (w7.drewN nq) ∧ Rd U (w7.drewN nq) (.slice pa t pcap) P) := Lib.hid ⟨HW.out.1.trans ((HB7.out.trans (hb8.mono HB7.out.size)).mono HW.out.1.size), (HW.out.2.on HB7.out).on hb8⟩
                  clear hb8 hc7
                  go_wp2_with fail
                  go_roundw
                  case rel => exact ⟨k + 1, by have := HSMK.out; omega, by go_num, HE⟩
                  case measure => have := HSMK.out; simp [intOf]; omega
                · by_cases hkn : k < n
                  · have d3 : (k : Int) < (n : Int) := by omega
                    have d4 : decide ((k : Int) < 64) = false := by simp; omega
                    clear hk hlt hkn
                    go_wp2_with fail
                    go_at_call 7; refine (lives9_any C _).mono ?_; rintro e wb ⟨rfl, bb⟩
                    have HBB := Lib.hid (HW.out.1.trans (bb.mono HW.out.1.size))
                    clear bb
                    go_wp2_with fail
                    go_ret
                    exact ⟨rfl, HBB.out⟩
                  · have d3 : decide ((k : Int) < (n : Int)) = false := by simp; omega
                    have d4 : decide (k < n) = false := by simp; omega
                    clear hk hlt hkn
                    go_wp2_with fail
                    go_at_call 7; refine (lives9_any C _).mono ?_; rintro e wb ⟨rfl, bb⟩
                    have HBB := Lib.hid (HW.out.1.trans (bb.mono HW.out.1.size))
                    clear bb
                    go_wp2_with fail
                    go_ret
                    exact ⟨rfl, HBB.out⟩
    · have d2 : decide (80 < (n : Int)) = true := by simp; omega
      clear c1 c2
      go_enter Try.func5, Try.ntmps5
      go_wp2_with fail
      go_at_call 7; refine (lives9_any C _).mono ?_; rintro e wb ⟨rfl, bb⟩
      have HBB := Lib.hid bb
      clear bb
      go_wp2_with fail
      go_ret
      exact ⟨rfl, HBB.out⟩
  · have d1 : decide (60 < (m : Int)) = true := by simp; omega
    clear c1
    go_enter Try.func5, Try.ntmps5
    go_wp2_with fail
    go_at_call 7; refine (lives9_any C _).mono ?_; rintro e wb ⟨rfl, bb⟩
    have HBB := Lib.hid bb
    clear bb
    go_wp2_with fail
    go_ret
    exact ⟨rfl, HBB.out⟩
end Go.Proofs.Ytemolhmkhjfehaa.aig
