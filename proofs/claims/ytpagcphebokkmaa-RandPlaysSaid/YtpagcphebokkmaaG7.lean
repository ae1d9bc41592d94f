/- The walk of the statement on what a generator tells. -/
import Derived.Test.YtpagcphebokkmaaG6
namespace Go.Proofs.Ytpagcphebokkmaa.rnd
open Go.RowKit
open Go.Proofs.Ytpagcphebokkmaa.fns Go.Proofs.Ytpagcphebokkmaa.ints

theorem pr_start (w : World) (s : Int) (t t' : TypeId) : Pr w ((w.alloc (.cells #[.int .u64 s] t)).alloc (.cells #[.int .u64 s] t')) w.heap.size (w.heap.size + 1) s s :=
  ⟨(one_new w _ t).alloc _, one_at _ _ _ _ (by simp), by omega, Nat.le_refl _, by omega, Joins.below_alloc2 w _ _⟩
theorem Bit_raw (g : Nat) (s : Int) (w : World) (h : One w g (.int .u64 s)) :
    Calls Try.prog 12 #[.pointer (some ⟨g, 0, none⟩)] w fun e w' => e = .returned (.bool ((out (nxt s)).tmod 2 == 1)) ∧ w' = w.setCell ⟨g, 0, none⟩ (.int .u64 (nxt s)) := Bit_any g s w h
theorem valN {k : IntKind} {a b : Int} (h : a = b) : Value.int k a = Value.int k b := by rw [h]
set_option maxRecDepth 100000 in
set_option maxHeartbeats 3200000 in
theorem plays_walk (s : Int) (a : Option Addr) (n cap : Nat) (K N : Nat → Int) (w : World) (hA : Asks w a n cap K N) (hnil : a = none → n = 0 ∧ cap = 0) :
    Calls Try.prog 3 #[.int .u64 s, .slice a n cap] w fun e w' => e = .returned (.bool true) ∧ Below w.heap.size w w' := by
  obtain ⟨m, hm⟩ : ∃ m, m = min n 60 := ⟨_, rfl⟩
  have hm60 : m ≤ 60 := by omega
  have hA2 := hA.less (m := m) (by omega)
  obtain ⟨hn1, hn2, -⟩ := hA
  unfold maxLen at hn2
  obtain ⟨-, -, hcell⟩ := hA2
  have HC := Lib.hid hcell
  have HM := Lib.hid hm
  have HN := Lib.hid hnil
  clear hcell hm hnil
  go_enter Try.func3, Try.ntmps3
  go_upto_region 1 with fail
  go_cut [22] (fun s22 wx => s22 = .bool (decide (60 < (n : Int))) ∧ wx = w)
  case first =>
    go_wp2_with fail
    go_meet
    exact ⟨rfl, rfl⟩
  case rest =>
    obtain ⟨rfl, rfl⟩ := hcut
    go_upto_if 22 with fail
    go_cut [1] (fun s1 wx => s1 = .slice a m cap ∧ wx = wc)
    case first =>
      by_cases hn : n ≤ 60
      · have c1 : decide (60 < (n : Int)) = false := by simp; omega
        have HE : Hid (n = m) := Lib.hid (by have := HM.out; omega)
        go_wp2_with fail
        go_meet
        exact ⟨by rw [HE.out], rfl⟩
      · have c1 : decide (60 < (n : Int)) = true := by simp; omega
        have HE : Hid (m = 60) := Lib.hid (by have := HM.out; omega)
        have h60 : 60 ≤ cap := by omega
        cases a with
        | none => exact absurd (HN.out rfl).1 (by omega)
        | some ad =>
          go_wp2_with fail
          go_meet
          exact ⟨by rw [HE.out], rfl⟩
    case rest =>
      obtain ⟨rfl, rfl⟩ := hcut
      obtain ⟨W, rfl⟩ : ∃ W : World, W = wc := ⟨_, rfl⟩
      have hmc : m ≤ cap := by have := HM.out; omega
      go_wp2_with fail
      go_at_call 6; refine (New_any _ _).mono ?_; rintro e w1 ⟨rfl, rfl⟩
      go_wp2_with fail
      go_at_call 7; refine (lives_any _).mono ?_; rintro e w2 ⟨rfl, hb2⟩
      have hp0 := (pr_start W s 48 27).on hb2
      have HP := Lib.hid hp0
      clear hb2 hp0
      go_wp2
      go_loopw [5, 7] (fun r i wr => ∃ (k g : Nat) (z : Int), k ≤ m ∧ i = .int .i64 k ∧ r = .pointer (some ⟨g, 0, none⟩) ∧ Hid (Pr W wr g (W.heap.size + 1) z z)) (fun _ i _ => m - (intOf i).toNat)
      case atStart => exact ⟨0, W.heap.size, s, Nat.zero_le _, rfl, rfl, HP⟩
      case round =>
        clear HP
        obtain ⟨k, g, z, hk, rfl, rfl, HP⟩ := hrel
        obtain ⟨wo, rfl⟩ : ∃ wo : World, wo = wr := ⟨_, rfl⟩
        by_cases h1 : k < m
        · obtain ⟨b, off, rfl, hlt, hcs⟩ := HC.out (by omega)
          obtain ⟨e1, e2, e3, e4⟩ := hcs k h1
          have hck := (HP.out.bel.cell (p := ⟨b, off + k * 2, none⟩) hlt).trans e1
          have hcn := (HP.out.bel.cell (p := ⟨b, off + k * 2 + 1, none⟩) hlt).trans e2
          obtain ⟨kd, hkd⟩ : ∃ kd, kd = K k := ⟨_, rfl⟩
          obtain ⟨n0, hn0⟩ : ∃ n0, n0 = N k := ⟨_, rfl⟩
          rw [← hkd] at hck
          rw [← hn0] at hcn e3 e4
          obtain ⟨q, hq⟩ : ∃ q, q = cutN n0 := ⟨_, rfl⟩
          have hqb := cutN_bd ⟨e3, e4⟩
          rw [← hq] at hqb
          have HQ := Lib.hid hq
          have H1 := Lib.hid h1
          clear hcs e1 e2 hkd hn0 hq
          go_upto_region 10 with fail
          go_cut [51] (fun s51 wx => s51 = .bool (decide (300 < n0) && decide (n0 ≤ 100000)) ∧ wx = wo)
          case first =>
            by_cases h3 : 300 < n0
            · have c1 : decide (300 < n0) = true := by simp; omega
              go_wp2_with fail
              go_meet
              exact ⟨by rw [c1]; simp, rfl⟩
            · have c1 : decide (300 < n0) = false := by simp; omega
              go_wp2_with fail
              go_meet
              exact ⟨by rw [c1]; simp, rfl⟩
          case rest =>
            obtain ⟨rfl, hwc⟩ := hcut
            obtain rfl := hwc
            obtain ⟨wo, rfl⟩ : ∃ wo : World, wo = wc := ⟨_, rfl⟩
            go_upto_if 51 with fail
            go_cut [8] (fun s8 wx => s8 = .int .i64 q ∧ wx = wo)
            case first =>
              by_cases h3 : 300 < n0 ∧ n0 ≤ 100000
              · have c1 : decide (300 < n0) = true := by simp; omega
                have c2 : decide (n0 ≤ 100000) = true := by simp; omega
                have HE := Lib.hid (HQ.out.trans (cutN_yes h3.1 h3.2))
                go_wp2_with fail
                go_meet
                exact ⟨by rw [HE.out], rfl⟩
              · have c1 : (decide (300 < n0) && decide (n0 ≤ 100000)) = false := by simpa using h3
                have HE := Lib.hid (HQ.out.trans (cutN_no h3))
                go_wp2_with fail
                go_meet
                exact ⟨by rw [HE.out], rfl⟩
            case rest =>
              obtain ⟨rfl, hwc⟩ := hcut
              obtain rfl := hwc
              obtain ⟨wo, rfl⟩ : ∃ wo : World, wo = wc := ⟨_, rfl⟩
              obtain ⟨x0, -⟩ := HP.out.st.cells
              have hkk : kd = 0 ∨ kd = 1 ∨ kd = 2 ∨ kd = 3 ∨ kd = 4 ∨ (kd ≠ 0 ∧ kd ≠ 1 ∧ kd ≠ 2 ∧ kd ≠ 3 ∧ kd ≠ 4) := by omega
              rcases hkk with rfl | rfl | rfl | rfl | rfl | ho
              · skip
                go_wp2_with fail
                go_at_call 8; refine (refNext_any _ _).mono ?_; rintro e w3 ⟨rfl, hb3⟩
                have hp := (HP.out.on hb3).alloc (.cells #[.int .u64 (nxt z)] 27)
                obtain ⟨y0, y1⟩ := hp.st.cells
                have HP3 := Lib.hid (hp.setH (nxt z))
                clear hb3 x0 HP hp
                go_wp2_with fail
                go_at_call 9; refine (Next_any _ _ _ HP3.out.gen).mono ?_; rintro e w4 ⟨rfl, hw4⟩
                have HP4 := Lib.hid (show Pr W w4 g (W.heap.size + 1) (nxt z) (nxt z) by rw [hw4]; exact HP3.out.setG (nxt z))
                clear hw4 HP3
                go_wp2_with fail
                go_roundw
                case rel => exact ⟨k + 1, g, nxt z, by have := H1.out; omega, by go_num, rfl, HP4⟩
                case measure => simp [intOf]; have := H1.out; omega
              · by_cases hq1 : q < 1
                · go_wp2_with fail
                  go_at_call 10; refine (refBelow_no _ _ _ hq1).mono ?_; rintro e w3 ⟨rfl, hb3⟩
                  have hp := (HP.out.on hb3).alloc (.cells #[.int .u64 z] 27)
                  obtain ⟨y0, y1⟩ := hp.st.cells
                  have HP3 := Lib.hid (hp.setH z)
                  clear hb3 x0 HP hp
                  go_wp2_with fail
                  go_at_call 11; refine (Below_no _ _ _ hq1).mono ?_; rintro e w4 ⟨rfl, hw4⟩
                  have HP4 := Lib.hid (show Pr W w4 g (W.heap.size + 1) z z by rw [← hw4]; exact HP3.out)
                  clear hw4 HP3
                  go_wp2_with fail
                  go_roundw
                  case rel => exact ⟨k + 1, g, z, by have := H1.out; omega, by go_num, rfl, HP4⟩
                  case measure => simp [intOf]; have := H1.out; omega
                · have h11 : 1 ≤ q := by omega
                  have h12 : q ≤ 9223372036854775807 := hqb.2
                  go_wp2_with fail
                  go_at_call 10; refine (refBelow_any _ _ _ h11 h12).mono ?_; rintro e w3 ⟨rfl, hb3⟩
                  have hp := (HP.out.on hb3).alloc (.cells #[.int .u64 (nxt z)] 27)
                  obtain ⟨y0, y1⟩ := hp.st.cells
                  have HP3 := Lib.hid (hp.setH (nxt z))
                  clear hb3 x0 HP hp
                  go_wp2_with fail
                  go_at_call 11; refine (Below_any _ _ _ _ HP3.out.gen h11 h12).mono ?_; rintro e w4 ⟨rfl, hw4⟩
                  have HP4 := Lib.hid (show Pr W w4 g (W.heap.size + 1) (nxt z) (nxt z) by rw [hw4]; exact HP3.out.setG (nxt z))
                  clear hw4 HP3
                  go_wp2_with fail
                  go_roundw
                  case rel => exact ⟨k + 1, g, nxt z, by have := H1.out; omega, by go_num, rfl, HP4⟩
                  case measure => simp [intOf]; have := H1.out; omega
              · skip
                go_wp2_with fail
                go_at_call 8; refine (refNext_any _ _).mono ?_; rintro e w3 ⟨rfl, hb3⟩
                have hp := (HP.out.on hb3).alloc (.cells #[.int .u64 (nxt z)] 27)
                obtain ⟨y0, y1⟩ := hp.st.cells
                have HP3 := Lib.hid (hp.setH (nxt z))
                clear hb3 x0 HP hp
                go_wp2_with fail
                go_at_call 12; refine (Bit_raw _ _ _ HP3.out.gen).mono ?_; rintro e w4 ⟨rfl, hw4⟩
                have HP4 := Lib.hid (show Pr W w4 g (W.heap.size + 1) (nxt z) (nxt z) by rw [hw4]; exact HP3.out.setG (nxt z))
                clear hw4 HP3
                go_wp2_with fail
                go_roundw
                case rel => exact ⟨k + 1, g, nxt z, by have := H1.out; omega, by go_num, rfl, HP4⟩
                case measure => simp [intOf]; have := H1.out; omega
              · by_cases hq1 : q < 0 ∨ 100000 < q
                · go_wp2_with fail
                  go_at_call 13; refine (refPerm_no _ _ _ hq1).mono ?_; rintro e w3 ⟨v3, rfl, hI3, hb3⟩
                  have hp := (HP.out.on hb3).alloc (.cells #[.int .u64 z] 27)
                  obtain ⟨y0, y1⟩ := hp.st.cells
                  have HP3 := Lib.hid (hp.setH z)
                  have HI3 := Lib.hid hI3
                  clear hb3 x0 HP hp hI3
                  go_wp2_with fail
                  go_at_call 15; refine (Perm_none _ _ _ hq1).mono ?_; rintro e w4 ⟨rfl, hw4⟩
                  have HP4 := Lib.hid (show Pr W w4 g (W.heap.size + 1) z z by rw [← hw4]; exact HP3.out)
                  obtain ⟨a3, cap3, rfl, -, hm3, -⟩ := HI3.out
                  clear hw4 HP3 HI3
                  go_wp2_with fail
                  go_at_call 14; refine (refInts_same rfl (ints_empty _ _ _ (by unfold maxLen; omega)) (ints_empty _ _ _ hm3)).mono ?_; rintro e w5 ⟨rfl, hb5⟩
                  have HP5 := Lib.hid (HP4.out.on hb5)
                  clear HP4 hb5
                  go_wp2_with fail
                  go_roundw
                  case rel => exact ⟨k + 1, g, z, by have := H1.out; omega, by go_num, rfl, HP5⟩
                  case measure => simp [intOf]; have := H1.out; omega
                · obtain ⟨qn, hqn⟩ := Int.eq_ofNat_of_zero_le (show 0 ≤ q by omega)
                  have hq2 : qn ≤ 100000 := by omega
                  obtain rfl := hqn
                  obtain ⟨l, hl⟩ : ∃ l, l = (permN z qn).1 := ⟨_, rfl⟩
                  obtain ⟨z', hz'⟩ : ∃ z', z' = (permN z qn).2 := ⟨_, rfl⟩
                  have HR := refPerm_any z qn wo hq2
                  rw [← hl, ← hz'] at HR
                  have HR := Lib.hid HR
                  have HG := fun (wx : World) (h : One wx g (.int .u64 z)) => Perm_any g z qn wx h hq2
                  rw [← hl, ← hz'] at HG
                  have HG := Lib.hid HG
                  clear hl hz' hq1
                  go_wp2_with fail
                  go_at_call 13; refine HR.out.mono ?_; rintro e w3 ⟨v3, rfl, hI3, hb3⟩
                  have hp := (HP.out.on hb3).alloc (.cells #[.int .u64 z'] 27)
                  obtain ⟨y0, y1⟩ := hp.st.cells
                  have HP3 := Lib.hid (hp.setH z')
                  have HI3 := Lib.hid (ints_but (hI3.on ((Below.refl _ _).alloc (Nat.le_refl _) (.cells #[.int .u64 z'] 27))) hp.st (but_set _ (.int .u64 z')))
                  clear hb3 x0 HP hp hI3
                  go_wp2_with fail
                  go_at_call 15; refine (HG.out _ HP3.out.gen).mono ?_; rintro e w4 ⟨v4, rfl, hI4, hO4, hB4⟩
                  have HP4 := Lib.hid (HP3.out.but hB4 hO4)
                  have HI4 := Lib.hid (ints_but HI3.out HP3.out.gen hB4)
                  have HJ4 := Lib.hid hI4
                  clear HP3 HI3 hI4 hO4 hB4
                  go_wp2_with fail
                  go_at_call 14; refine (refInts_same rfl HJ4.out HI4.out).mono ?_; rintro e w5 ⟨rfl, hb5⟩
                  have HP5 := Lib.hid (HP4.out.on hb5)
                  clear HP4 HI4 HJ4 hb5
                  go_wp2_with fail
                  go_roundw
                  case rel => exact ⟨k + 1, g, z', by have := H1.out; omega, by go_num, rfl, HP5⟩
                  case measure => simp [intOf]; have := H1.out; omega
              · clear x0
                go_wp2_with fail
                go_at_call 16; refine (Clone_any _ _ _ HP.out.gen).mono ?_; rintro e w3 ⟨rfl, rfl⟩
                go_wp2_with fail
                go_at_call 9; refine (Next_any _ _ _ (HP.out.alloc _).gen).mono ?_; rintro e w4 ⟨rfl, hw4⟩
                have HP4 := Lib.hid (show Pr W w4 wo.heap.size (W.heap.size + 1) z z by rw [hw4]; exact HP.out.clone (nxt z) z _)
                clear hw4 HP
                go_wp2_with fail
                go_roundw
                case rel => exact ⟨k + 1, wo.heap.size, z, by have := H1.out; omega, by go_num, rfl, HP4⟩
                case measure => simp [intOf]; have := H1.out; omega
              · obtain ⟨o0, o1, o2, o3, o4⟩ := ho
                have d0 : (kd == 0) = false := by simp [o0]
                have d1 : (kd == 1) = false := by simp [o1]
                have d2 : (kd == 2) = false := by simp [o2]
                have d3 : (kd == 3) = false := by simp [o3]
                have d4 : (kd == 4) = false := by simp [o4]
                clear x0 o0 o1 o2 o3 o4
                go_wp2_with fail
                go_roundw
                case rel => exact ⟨k + 1, g, z, by have := H1.out; omega, by go_num, rfl, HP⟩
                case measure => simp [intOf]; have := H1.out; omega
        · obtain rfl : k = m := by omega
          have c1 : decide ((k : Int) < (k : Int)) = false := by simp
          obtain ⟨x0, -⟩ := HP.out.st.cells
          clear h1 hk
          go_wp2_with fail
          go_at_call 8; refine (refNext_any _ _).mono ?_; rintro e w3 ⟨rfl, hb3⟩
          have HP3 := Lib.hid ((HP.out.on hb3).alloc (.cells #[.int .u64 (nxt z)] 27))
          clear hb3 x0 HP
          go_wp2_with fail
          go_at_call 9; refine (Next_any _ _ _ HP3.out.gen).mono ?_; rintro e w4 ⟨rfl, hw4⟩
          have HB := Lib.hid (show Below _ _ w4 by rw [hw4]; exact (HP3.out.setG (nxt z)).bel)
          clear hw4 HP3
          go_wp2_with fail
          go_ret
          exact ⟨by simp, HB.out⟩
end Go.Proofs.Ytpagcphebokkmaa.rnd
