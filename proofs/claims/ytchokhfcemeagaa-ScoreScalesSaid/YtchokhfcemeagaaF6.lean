/- The walk of the statement on scores that are not too high. -/
import Derived.Test.YtchokhfcemeagaaF4
import Derived.Test.YtchokhfcemeagaaF5
namespace Go.Proofs.Ytchokhfcemeagaa.score
open Go.RowKit
open Go.Proofs.Ytchokhfcemeagaa.fns Go.Proofs.Ytchokhfcemeagaa.nats

theorem is_q (a : Nat) (w : World) : Calls Try.prog 15 #[.float .f64 a, .int .u64 a] w fun e w' => e = .returned (.bool true) ∧ w' = w :=
  (is_of rfl w).mono fun _ _ ⟨h1, h2⟩ => ⟨h1, h2.symm⟩

set_option maxHeartbeats 3200000 in
set_option maxRecDepth 100000 in
theorem scales_small (a : Option Addr) (n cap : Nat) (bs : List Nat) (w : World) (hv : Rd U w (.slice a n cap) bs) (hvw : AllW bs) (hn : n ≤ 300) :
    Calls Try.prog 4 #[.slice a n cap] w fun e w' => e = .returned (.bool true) ∧ Below w.heap.size w w' := by
  obtain ⟨hlen, hcap, hmax⟩ := rd_len hv
  unfold maxLen at hmax
  have HN : Hid (n = bs.length) := Lib.hid hlen.symm
  have HV := Lib.hid hv
  have HW := Lib.hid hvw
  have c1 : decide ((300 : Int) < (n : Int)) = false := by simp; omega
  clear hlen hv hvw
  go_enter Try.func4, Try.ntmps4
  go_wp2_with fail
  go_at_call 10; refine (of_any bs _ _ HV.out (by have := HN.out; omega)).mono ?_; rintro e w1 ⟨v1, rfl, hr1, hb1⟩
  obtain ⟨a1, cap1, rfl⟩ := rd_form hr1
  rw [← HN.out] at hr1 ⊢
  have HR1 := Lib.hid hr1
  have HB1 := Lib.hid hb1
  have HV1 := Lib.hid (HV.out.on hb1)
  obtain ⟨-, hcap1, hmax1⟩ := rd_len hr1
  unfold maxLen at hmax1
  clear hr1 hb1
  go_wp2_with fail
  go_loopw [4, 5] (fun h i wr => ∃ k : Nat, k ≤ n ∧ i = .int .i64 k ∧ h = .bool (hotTo bs k) ∧ wr = w1) (fun _ i _ => n - (intOf i).toNat)
  case atStart => exact ⟨0, Nat.zero_le _, rfl, by rw [hotTo_zero], rfl⟩
  case round =>
    obtain ⟨k, hk, rfl, rfl, rfl⟩ := hrel
    by_cases h1 : k < n
    · have hkl : k < bs.length := by rw [← HN.out]; exact h1
      obtain ⟨b, off, rfl, hbl, hc⟩ := rd_cell HR1.out h1
      obtain ⟨y, hy⟩ : ∃ y, y = bs.getD k 0 := ⟨_, rfl⟩
      rw [← hy] at hc
      have hc2 : wr.cell? ⟨b, off + k, none⟩ = some (.float .f64 y) := hc
      have hf := f_hot (hy ▸ HW.out.at k : W64 y)
      have HS := Lib.hid (hotTo_succ hkl)
      rw [← hy] at HS
      clear hc hy hkl
      cases hh : hotTo bs k
      · rw [hh] at HS
        have HF := Lib.hid hf
        clear hh hf
        go_wp2_with fail
        go_roundw
        case rel => exact ⟨k + 1, by omega, by go_num, by rw [HS.out, HF.out]; rfl, by trivial⟩
        case measure => simp [intOf]; omega
      · rw [hh] at HS
        clear hh hf
        go_wp2_with fail
        go_roundw
        case rel => exact ⟨k + 1, by omega, by go_num, by rw [HS.out]; rfl, by trivial⟩
        case measure => simp [intOf]; omega
    · obtain rfl : n = k := by omega
      have hta : hotTo bs n = hot bs := by rw [HN.out]; exact hotTo_all bs
      rw [hta]
      clear hta h1 hk
      go_wp2_with fail
      go_at_call 13; refine (Scale_any bs _ _ HR1.out HW.out (by have := HN.out; omega)).mono ?_; rintro e w2 ⟨v2, rfl, hr2, hb2⟩
      obtain ⟨a2, cap2, rfl⟩ := rd_form hr2
      rw [scaled_len, ← HN.out] at hr2 ⊢
      have HR2 := Lib.hid hr2
      have HB2 := Lib.hid (HB1.out.trans (hb2.mono HB1.out.size))
      have HV2 := Lib.hid (HV1.out.on hb2)
      have HO2 := Lib.hid (HR1.out.on hb2)
      obtain ⟨-, hcap2, hmax2⟩ := rd_len hr2
      unfold maxLen at hmax2
      clear hr2 hb2
      go_wp2_with fail
      go_loopw [7] (fun i wx => ∃ k d : Nat, k ≤ n ∧ i = .int .i64 k ∧ Hid (wx = w2.drewN d)) (fun i _ => n - (intOf i).toNat)
      case atStart => exact ⟨0, 0, Nat.zero_le _, rfl, Lib.hid (by simp [World.drewN_zero])⟩
      case round =>
        obtain ⟨k, d, hk, rfl, HD⟩ := hrel
        obtain ⟨wo, rfl⟩ : ∃ wo : World, wo = wr := ⟨_, rfl⟩
        by_cases h1 : k < n
        · have hkl : k < bs.length := by rw [← HN.out]; exact h1
          obtain ⟨b0, off0, e, hbl0, hc0⟩ := rd_cell HV2.out h1
          subst e
          obtain ⟨b1, off1, rfl, hbl1, hc1⟩ := rd_cell HO2.out h1
          obtain ⟨b2, off2, rfl, hbl2, hc2⟩ := rd_cell HR2.out h1
          obtain ⟨y, hy⟩ : ∃ y, y = bs.getD k 0 := ⟨_, rfl⟩
          have HY := Lib.hid hy
          have WY : Hid (W64 y) := Lib.hid (hy ▸ HW.out.at k)
          rw [← hy] at hc0 hc1
          have hd0 : wo.cell? ⟨b0, off0 + k, none⟩ = some (.int .u64 y) := by rw [HD.out]; exact hc0
          have hd1 : wo.cell? ⟨b1, off1 + k, none⟩ = some (.float .f64 y) := by rw [HD.out]; exact hc1
          obtain ⟨z, hz⟩ : ∃ z, z = (scaled bs).getD k 0 := ⟨_, rfl⟩
          rw [← hz] at hc2
          have hd2 : wo.cell? ⟨b2, off2 + k, none⟩ = some (.float .f64 z) := by rw [HD.out]; exact hc2
          have hd := bits_run
          have hki : (k : Int) < (n : Int) := by omega
          clear hc0 hc1 hc2
          cases hh : hot bs
          · rw [scaled_not hh, ← hy] at hz
            subst hz
            clear hh hy hkl
            go_wp2_with fail
            go_at_call 5; refine (Of_nat _ _).mono ?_; rintro e w' ⟨rfl, rfl⟩
            go_wp2_with fail
            go_quiet ((first | (go_at_call 15; exact Calls.quiet_of_same (is_q _ _)) | fail))
            go_wp2
            go_roundw
            case rel => exact ⟨k + 1, d + nq, by omega, by go_num, Lib.hid (by rw [HD.out]; simp [World.drewN, Nat.add_assoc])⟩
            case measure => simp [intOf]; omega

          · rw [scaled_hot hh, shr_at hkl, ← hy] at hz
            clear hh hy hkl
            cases ho : odd y
            · have hq := run_float_arith (P := Try.prog) wo .mul 24 .f64 y 3110860544497550640 (shr y) (mul_fin ho)
              rw [← hz] at hq
              have HO := Lib.hid ho
              clear ho hz
              go_wp2_with fail
              go_at_call 5; refine (Of_nat _ _).mono ?_; rintro e w' ⟨rfl, rfl⟩
              go_wp2_with fail
              go_at_call 14; refine (refOdd_of HO.out _).mono ?_; rintro e w' ⟨rfl, rfl⟩
              go_wp2_with fail
              go_quiet ((first | (go_at_call 15; exact Calls.quiet_of_same (is_q _ _)) | fail))
              go_wp2
              go_roundw
              case rel => exact ⟨k + 1, d + nq, by omega, by go_num, Lib.hid (by rw [HD.out]; simp [World.drewN, Nat.add_assoc])⟩
              case measure => simp [intOf]; omega

            · rw [shr_odd ho] at hz
              subst hz
              cases hn1 : isNan y
              · obtain ⟨r, hr⟩ := mul_inf ho hn1
                have hq := run_float_arith (P := Try.prog) wo .mul 24 .f64 y 3110860544497550640 r hr
                have HO := Lib.hid ho
                clear ho hn1 hr
                go_wp2_with fail
                go_at_call 5; refine (Of_nat _ _).mono ?_; rintro e w' ⟨rfl, rfl⟩
                go_wp2_with fail
                go_at_call 14; refine (refOdd_of HO.out _).mono ?_; rintro e w' ⟨rfl, rfl⟩
                go_wp2_with fail
                go_quiet ((first | (go_at_call 15; exact Calls.quiet_of_same (is_q _ _)) | fail))
                go_wp2
                go_roundw
                case rel => exact ⟨k + 1, d + nq, by omega, by go_num, Lib.hid (by rw [HD.out]; simp [World.drewN, Nat.add_assoc])⟩
                case measure => simp [intOf]; omega

              · obtain ⟨q, -, -, hq⟩ := run_nan (P := Try.prog) .mul (.inr rfl) 24 y 3110860544497550640 wo (mul_nan hn1)
                obtain ⟨wx, hwx⟩ : ∃ wx, wx = wo.drew := ⟨_, rfl⟩
                rw [← hwx] at hq
                have hx0 : wx.cell? ⟨b0, off0 + k, none⟩ = some (.int .u64 y) := by rw [hwx]; exact hd0
                have hx1 : wx.cell? ⟨b1, off1 + k, none⟩ = some (.float .f64 y) := by rw [hwx]; exact hd1
                have hx2 : wx.cell? ⟨b2, off2 + k, none⟩ = some (.float .f64 0) := by rw [hwx]; exact hd2
                have HX := Lib.hid hwx
                have HO := Lib.hid ho
                clear ho hn1 hwx
                go_wp2_with fail
                go_at_call 5; refine (Of_nat _ _).mono ?_; rintro e w' ⟨rfl, rfl⟩
                go_wp2_with fail
                go_at_call 14; refine (refOdd_of HO.out _).mono ?_; rintro e w' ⟨rfl, rfl⟩
                go_wp2_with fail
                go_quiet ((first | (go_at_call 15; exact Calls.quiet_of_same (is_q _ _)) | fail))
                go_wp2
                go_roundw
                case rel => exact ⟨k + 1, d + 1 + nq, by omega, by go_num, Lib.hid (by rw [HX.out, HD.out]; simp [World.drewN, World.drew, Nat.add_assoc])⟩
                case measure => simp [intOf]; omega

        · obtain rfl : n = k := by omega
          go_wp2_with fail
          go_at_call 12; refine (lives_any _).mono ?_; rintro e w' ⟨rfl, rfl⟩
          go_wp2_with fail
          go_ret
          exact ⟨rfl, by rw [HD.out]; exact (below_drewN HB2.out d).drew⟩
set_option maxHeartbeats 3200000 in
set_option maxRecDepth 100000 in
theorem scales_big (ad : Addr) (n0 cap : Nat) (l0 : List Nat) (w : World) (hv0 : Rd U w (.slice (some ad) n0 cap) l0) (hvw0 : AllW l0) (hn0 : 300 < n0) :
    Calls Try.prog 4 #[.slice (some ad) n0 cap] w fun e w' => e = .returned (.bool true) ∧ Below w.heap.size w w' := by
  obtain ⟨-, hcap, hmax⟩ := rd_len hv0
  unfold maxLen at hmax
  obtain ⟨bs, hls⟩ : ∃ bs : List Nat, bs = l0.take 300 := ⟨_, rfl⟩
  have hv := rd_take hv0 (k := 300) (by omega)
  rw [← hls] at hv
  have hvw : AllW bs := hls ▸ hvw0.take 300
  obtain ⟨hlen, -, -⟩ := rd_len hv
  have HN : Hid (300 = bs.length) := Lib.hid hlen.symm
  have HV := Lib.hid hv
  have HW := Lib.hid hvw
  clear hv0 hvw0 hls hlen hv hvw
  go_enter Try.func4, Try.ntmps4
  go_wp2_with fail
  go_at_call 10; refine (of_any bs _ _ HV.out (by have := HN.out; omega)).mono ?_; rintro e w1 ⟨v1, rfl, hr1, hb1⟩
  obtain ⟨a1, cap1, rfl⟩ := rd_form hr1
  rw [← HN.out] at hr1 ⊢
  have HR1 := Lib.hid hr1
  have HB1 := Lib.hid hb1
  have HV1 := Lib.hid (HV.out.on hb1)
  obtain ⟨-, hcap1, hmax1⟩ := rd_len hr1
  unfold maxLen at hmax1
  clear hr1 hb1
  go_wp2_with fail
  go_loopw [4, 5] (fun h i wr => ∃ k : Nat, k ≤ 300 ∧ i = .int .i64 k ∧ h = .bool (hotTo bs k) ∧ wr = w1) (fun _ i _ => 300 - (intOf i).toNat)
  case atStart => exact ⟨0, Nat.zero_le _, rfl, by rw [hotTo_zero], rfl⟩
  case round =>
    obtain ⟨k, hk, rfl, rfl, rfl⟩ := hrel
    by_cases h1 : k < 300
    · have hkl : k < bs.length := by rw [← HN.out]; exact h1
      obtain ⟨b, off, rfl, hbl, hc⟩ := rd_cell HR1.out h1
      obtain ⟨y, hy⟩ : ∃ y, y = bs.getD k 0 := ⟨_, rfl⟩
      rw [← hy] at hc
      have hc2 : wr.cell? ⟨b, off + k, none⟩ = some (.float .f64 y) := hc
      have hf := f_hot (hy ▸ HW.out.at k : W64 y)
      have HS := Lib.hid (hotTo_succ hkl)
      rw [← hy] at HS
      clear hc hy hkl
      cases hh : hotTo bs k
      · rw [hh] at HS
        have HF := Lib.hid hf
        clear hh hf
        go_wp2_with fail
        go_roundw
        case rel => exact ⟨k + 1, by omega, by go_num, by rw [HS.out, HF.out]; rfl, by trivial⟩
        case measure => simp [intOf]; omega
      · rw [hh] at HS
        clear hh hf
        go_wp2_with fail
        go_roundw
        case rel => exact ⟨k + 1, by omega, by go_num, by rw [HS.out]; rfl, by trivial⟩
        case measure => simp [intOf]; omega
    · obtain rfl : 300 = k := by omega
      have hta : hotTo bs 300 = hot bs := by rw [HN.out]; exact hotTo_all bs
      rw [hta]
      clear hta h1 hk
      go_wp2_with fail
      go_at_call 13; refine (Scale_any bs _ _ HR1.out HW.out (by have := HN.out; omega)).mono ?_; rintro e w2 ⟨v2, rfl, hr2, hb2⟩
      obtain ⟨a2, cap2, rfl⟩ := rd_form hr2
      rw [scaled_len, ← HN.out] at hr2 ⊢
      have HR2 := Lib.hid hr2
      have HB2 := Lib.hid (HB1.out.trans (hb2.mono HB1.out.size))
      have HV2 := Lib.hid (HV1.out.on hb2)
      have HO2 := Lib.hid (HR1.out.on hb2)
      obtain ⟨-, hcap2, hmax2⟩ := rd_len hr2
      unfold maxLen at hmax2
      clear hr2 hb2
      go_wp2_with fail
      go_loopw [7] (fun i wx => ∃ k d : Nat, k ≤ 300 ∧ i = .int .i64 k ∧ Hid (wx = w2.drewN d)) (fun i _ => 300 - (intOf i).toNat)
      case atStart => exact ⟨0, 0, Nat.zero_le _, rfl, Lib.hid (by simp [World.drewN_zero])⟩
      case round =>
        obtain ⟨k, d, hk, rfl, HD⟩ := hrel
        obtain ⟨wo, rfl⟩ : ∃ wo : World, wo = wr := ⟨_, rfl⟩
        by_cases h1 : k < 300
        · have hkl : k < bs.length := by rw [← HN.out]; exact h1
          obtain ⟨b0, off0, e, hbl0, hc0⟩ := rd_cell HV2.out h1
          cases e
          obtain ⟨b1, off1, rfl, hbl1, hc1⟩ := rd_cell HO2.out h1
          obtain ⟨b2, off2, rfl, hbl2, hc2⟩ := rd_cell HR2.out h1
          obtain ⟨y, hy⟩ : ∃ y, y = bs.getD k 0 := ⟨_, rfl⟩
          have HY := Lib.hid hy
          have WY : Hid (W64 y) := Lib.hid (hy ▸ HW.out.at k)
          rw [← hy] at hc0 hc1
          have hd0 : wo.cell? ⟨b0, off0 + k, none⟩ = some (.int .u64 y) := by rw [HD.out]; exact hc0
          have hd1 : wo.cell? ⟨b1, off1 + k, none⟩ = some (.float .f64 y) := by rw [HD.out]; exact hc1
          obtain ⟨z, hz⟩ : ∃ z, z = (scaled bs).getD k 0 := ⟨_, rfl⟩
          rw [← hz] at hc2
          have hd2 : wo.cell? ⟨b2, off2 + k, none⟩ = some (.float .f64 z) := by rw [HD.out]; exact hc2
          have hd := bits_run
          have hki : (k : Int) < (300 : Int) := by omega
          clear hc0 hc1 hc2
          cases hh : hot bs
          · rw [scaled_not hh, ← hy] at hz
            subst hz
            clear hh hy hkl
            go_wp2_with fail
            go_at_call 5; refine (Of_nat _ _).mono ?_; rintro e w' ⟨rfl, rfl⟩
            go_wp2_with fail
            go_quiet ((first | (go_at_call 15; exact Calls.quiet_of_same (is_q _ _)) | fail))
            go_wp2
            go_roundw
            case rel => exact ⟨k + 1, d + nq, by omega, by go_num, Lib.hid (by rw [HD.out]; simp [World.drewN, Nat.add_assoc])⟩
            case measure => simp [intOf]; omega

          · rw [scaled_hot hh, shr_at hkl, ← hy] at hz
            clear hh hy hkl
            cases ho : odd y
            · have hq := run_float_arith (P := Try.prog) wo .mul 24 .f64 y 3110860544497550640 (shr y) (mul_fin ho)
              rw [← hz] at hq
              have HO := Lib.hid ho
              clear ho hz
              go_wp2_with fail
              go_at_call 5; refine (Of_nat _ _).mono ?_; rintro e w' ⟨rfl, rfl⟩
              go_wp2_with fail
              go_at_call 14; refine (refOdd_of HO.out _).mono ?_; rintro e w' ⟨rfl, rfl⟩
              go_wp2_with fail
              go_quiet ((first | (go_at_call 15; exact Calls.quiet_of_same (is_q _ _)) | fail))
              go_wp2
              go_roundw
              case rel => exact ⟨k + 1, d + nq, by omega, by go_num, Lib.hid (by rw [HD.out]; simp [World.drewN, Nat.add_assoc])⟩
              case measure => simp [intOf]; omega

            · rw [shr_odd ho] at hz
              subst hz
              cases hn1 : isNan y
              · obtain ⟨r, hr⟩ := mul_inf ho hn1
                have hq := run_float_arith (P := Try.prog) wo .mul 24 .f64 y 3110860544497550640 r hr
                have HO := Lib.hid ho
                clear ho hn1 hr
                go_wp2_with fail
                go_at_call 5; refine (Of_nat _ _).mono ?_; rintro e w' ⟨rfl, rfl⟩
                go_wp2_with fail
                go_at_call 14; refine (refOdd_of HO.out _).mono ?_; rintro e w' ⟨rfl, rfl⟩
                go_wp2_with fail
                go_quiet ((first | (go_at_call 15; exact Calls.quiet_of_same (is_q _ _)) | fail))
                go_wp2
                go_roundw
                case rel => exact ⟨k + 1, d + nq, by omega, by go_num, Lib.hid (by rw [HD.out]; simp [World.drewN, Nat.add_assoc])⟩
                case measure => simp [intOf]; omega

              · obtain ⟨q, -, -, hq⟩ := run_nan (P := Try.prog) .mul (.inr rfl) 24 y 3110860544497550640 wo (mul_nan hn1)
                obtain ⟨wx, hwx⟩ : ∃ wx, wx = wo.drew := ⟨_, rfl⟩
                rw [← hwx] at hq
                have hx0 : wx.cell? ⟨b0, off0 + k, none⟩ = some (.int .u64 y) := by rw [hwx]; exact hd0
                have hx1 : wx.cell? ⟨b1, off1 + k, none⟩ = some (.float .f64 y) := by rw [hwx]; exact hd1
                have hx2 : wx.cell? ⟨b2, off2 + k, none⟩ = some (.float .f64 0) := by rw [hwx]; exact hd2
                have HX := Lib.hid hwx
                have HO := Lib.hid ho
                clear ho hn1 hwx
                go_wp2_with fail
                go_at_call 5; refine (Of_nat _ _).mono ?_; rintro e w' ⟨rfl, rfl⟩
                go_wp2_with fail
                go_at_call 14; refine (refOdd_of HO.out _).mono ?_; rintro e w' ⟨rfl, rfl⟩
                go_wp2_with fail
                go_quiet ((first | (go_at_call 15; exact Calls.quiet_of_same (is_q _ _)) | fail))
                go_wp2
                go_roundw
                case rel => exact ⟨k + 1, d + 1 + nq, by omega, by go_num, Lib.hid (by rw [HX.out, HD.out]; simp [World.drewN, World.drew, Nat.add_assoc])⟩
                case measure => simp [intOf]; omega

        · obtain rfl : 300 = k := by omega
          go_wp2_with fail
          go_at_call 12; refine (lives_any _).mono ?_; rintro e w' ⟨rfl, rfl⟩
          go_wp2_with fail
          go_ret
          exact ⟨rfl, by rw [HD.out]; exact (below_drewN HB2.out d).drew⟩

theorem scales_walk (a : Option Addr) (n cap : Nat) (bs : List Nat) (w : World) (hv : Rd U w (.slice a n cap) bs) (hvw : AllW bs) (hnil : a = none → n = 0 ∧ cap = 0) :
    Calls Try.prog 4 #[.slice a n cap] w fun e w' => e = .returned (.bool true) ∧ Below w.heap.size w w' := by
  by_cases h : 300 < n
  · cases a with
    | none => obtain ⟨rfl, -⟩ := hnil rfl; omega
    | some ad => exact scales_big ad n cap bs w hv hvw h
  · exact scales_small a n cap bs w hv hvw (by omega)
end Go.Proofs.Ytchokhfcemeagaa.score
