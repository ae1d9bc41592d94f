/- The walks of octet's calls that read a text. -/
import Derived.Test.YtfjllaemmmhjnaaDoorProg
import Derived.Test.YtfjllaemmmhjnaaDoorFn
import Derived.WalkKit
import Derived.Handy
import Derived.Outline
namespace Go.Proofs.YtfjllaemmmhjnaaDoor.oct
open Go.RowKit Go.PlainAid
open Go.Proofs.YtfjllaemmmhjnaaDoor.fns

theorem isPlace_yes (s : ByteArray) (a : Int) (w : World) (h0 : 0 ≤ a) (h1 : a ≤ s.size) :
    Calls Tryd.prog 26 #[.string s, .int .i64 a] w fun e w' => e = .returned (.bool true) ∧ w = w' := by
  go_enter Tryd.func26, Tryd.ntmps26
  go_wp2
  go_ret
  exact ⟨rfl, rfl⟩
theorem isPlace_no (s : ByteArray) (a : Int) (w : World) (h : a < 0 ∨ (s.size : Int) < a) :
    Calls Tryd.prog 26 #[.string s, .int .i64 a] w fun e w' => e = .returned (.bool false) ∧ w = w' := by
  by_cases h0 : 0 ≤ a
  · have h1 : decide (a ≤ (s.size : Int)) = false := by simp; omega
    clear h
    go_enter Tryd.func26, Tryd.ntmps26
    go_wp2
    go_ret
    exact ⟨rfl, rfl⟩
  · clear h
    go_enter Tryd.func26, Tryd.ntmps26
    go_wp2
    go_ret
    exact ⟨rfl, rfl⟩


set_option maxHeartbeats 400000 in
theorem get_any (s : ByteArray) (a : Int) (w : World) (hs : s.size ≤ maxLen) :
    Calls Tryd.prog 8 #[.string s, .int .i64 a] w fun e w' => e = .returned (three .u32 (getAt s a)) ∧ w = w' := by
  unfold maxLen at hs
  by_cases ha : a < 0 ∨ (s.size : Int) < a
  · have e : getAt s a = (0, 0, 1) := by unfold getAt; rw [if_pos ha]
    rw [e]
    go_enter Tryd.func8, Tryd.ntmps8
    go_wp2_with (go_at_call 26; refine (isPlace_no _ _ _ ha).mono ?_; rintro e w' ⟨rfl, rfl⟩)
    go_ret3
    exact ⟨rfl, rfl⟩
  · obtain ⟨n, rfl⟩ : ∃ n : Nat, a = n := ⟨a.toNat, by omega⟩
    have e : getAt s n = getFrom s n 5 0 0 := by unfold getAt; rw [if_neg ha]; rfl
    rw [e]
    have hn : n ≤ s.size := by omega
    clear ha e
    have hb := get_bt s
    go_enter Tryd.func8, Tryd.ntmps8
    go_wp2_with (go_at_call 26; refine (isPlace_yes _ _ _ (by omega) (by omega)).mono ?_; rintro e w' ⟨rfl, rfl⟩)
    go_loop [7, 14] (fun v i => ∃ (k f : Nat) (m : Int), f + k = 4 ∧ n + k ≤ s.size ∧ i = .int .i64 k ∧ v = .int .u32 m ∧ 0 ≤ m ∧ m < 128 ^ k ∧ getFrom s n (f + 1) k m = getFrom s n 5 0 0) (fun _ i => 5 - (intOf i).toNat)
    case atStart => exact ⟨0, 4, 0, rfl, by omega, rfl, rfl, by omega, by omega, rfl⟩
    case round =>
      obtain ⟨k, f, m, hk, hnk, rfl, rfl, hm0, hm1, hR⟩ := hrel
      have hq0 := bt_nonneg s (n + k)
      have hq1 := bt_le s (n + k)
      have HR := Lib.hid hR
      clear hR
      rcases (by omega : (k = 0 ∧ f = 4) ∨ (k = 1 ∧ f = 3) ∨ (k = 2 ∧ f = 2) ∨ (k = 3 ∧ f = 1) ∨ (k = 4 ∧ f = 0)) with ⟨rfl, rfl⟩ | ⟨rfl, rfl⟩ | ⟨rfl, rfl⟩ | ⟨rfl, rfl⟩ | ⟨rfl, rfl⟩
      all_goals
        simp only [Int.reducePow, Nat.add_zero] at hm1 hq0 hq1
        clear hk
      · by_cases h1 : n = s.size
        · have h1a : n ≤ s.size := by omega
          have h1b : s.size ≤ n := by omega
          have HR' := Lib.hid (HR.out.symm.trans (gf_end (k := 0) h1))
          clear h1 HR hq0 hq1 hm1
          go_wp2
          go_ret3
          exact ⟨three_ret HR'.out, rfl⟩
        · have h1a : n < s.size := by omega
          clear h1
          by_cases h5 : bt s n < 128
          · have HR' := Lib.hid (HR.out.symm.trans (gf_last (k := 0) h1a (fun e => by omega) (fun e => by omega) h5))
            clear HR
            go_wp2
            go_ret3
            exact ⟨three_ret (HR'.out.trans (Prod.ext (by simp; try omega) (Prod.ext (by simp; try omega) rfl))), rfl⟩
          · have h6 : 128 ≤ bt s n := by omega
            have HR' := Lib.hid ((gf_more (k := 0) h1a (by omega) h6).symm.trans HR.out)
            clear HR h5
            go_wp2
            go_round
            case rel => exact ⟨1, 3, _, rfl, by omega, rfl, rfl, by omega, by simp; omega, by simpa using HR'.out⟩
            case measure => simp [intOf]
      · by_cases h1 : n + 1 = s.size
        · have h1a : n + 1 ≤ s.size := by omega
          have h1b : s.size ≤ n + 1 := by omega
          have HR' := Lib.hid (HR.out.symm.trans (gf_end (k := 1) h1))
          clear h1 HR hq0 hq1 hm1
          go_wp2
          go_ret3
          exact ⟨three_ret HR'.out, rfl⟩
        · have h1a : n + 1 < s.size := by omega
          clear h1
          by_cases h3 : bt s (n + 1) = 0
          · have HR' := Lib.hid (HR.out.symm.trans (gf_form (k := 1) h1a (by decide) h3))
            have c2 : (bt s (n + 1) == 0) = true := by simp [h3]
            clear HR hm1 h3
            go_wp2
            go_ret3
            exact ⟨three_ret HR'.out, rfl⟩
          · have c2 : (bt s (n + 1) == 0) = false := by simp; omega
            by_cases h5 : bt s (n + 1) < 128
            · have HR' := Lib.hid (HR.out.symm.trans (gf_last (k := 1) h1a (fun e => by omega) (fun e => by omega) h5))
              clear HR
              go_wp2
              go_ret3
              exact ⟨three_ret (HR'.out.trans (Prod.ext (by simp; try omega) (Prod.ext (by simp; try omega) rfl))), rfl⟩
            · have h6 : 128 ≤ bt s (n + 1) := by omega
              have HR' := Lib.hid ((gf_more (k := 1) h1a (by omega) h6).symm.trans HR.out)
              clear HR h5
              go_wp2
              go_round
              case rel => exact ⟨2, 2, _, rfl, by omega, rfl, rfl, by omega, by simp; omega, by simpa using HR'.out⟩
              case measure => simp [intOf]
      · by_cases h1 : n + 2 = s.size
        · have h1a : n + 2 ≤ s.size := by omega
          have h1b : s.size ≤ n + 2 := by omega
          have HR' := Lib.hid (HR.out.symm.trans (gf_end (k := 2) h1))
          clear h1 HR hq0 hq1 hm1
          go_wp2
          go_ret3
          exact ⟨three_ret HR'.out, rfl⟩
        · have h1a : n + 2 < s.size := by omega
          clear h1
          by_cases h3 : bt s (n + 2) = 0
          · have HR' := Lib.hid (HR.out.symm.trans (gf_form (k := 2) h1a (by decide) h3))
            have c2 : (bt s (n + 2) == 0) = true := by simp [h3]
            clear HR hm1 h3
            go_wp2
            go_ret3
            exact ⟨three_ret HR'.out, rfl⟩
          · have c2 : (bt s (n + 2) == 0) = false := by simp; omega
            by_cases h5 : bt s (n + 2) < 128
            · have HR' := Lib.hid (HR.out.symm.trans (gf_last (k := 2) h1a (fun e => by omega) (fun e => by omega) h5))
              clear HR
              go_wp2
              go_ret3
              exact ⟨three_ret (HR'.out.trans (Prod.ext (by simp; try omega) (Prod.ext (by simp; try omega) rfl))), rfl⟩
            · have h6 : 128 ≤ bt s (n + 2) := by omega
              have HR' := Lib.hid ((gf_more (k := 2) h1a (by omega) h6).symm.trans HR.out)
              clear HR h5
              go_wp2
              go_round
              case rel => exact ⟨3, 1, _, rfl, by omega, rfl, rfl, by omega, by simp; omega, by simpa using HR'.out⟩
              case measure => simp [intOf]
      · by_cases h1 : n + 3 = s.size
        · have h1a : n + 3 ≤ s.size := by omega
          have h1b : s.size ≤ n + 3 := by omega
          have HR' := Lib.hid (HR.out.symm.trans (gf_end (k := 3) h1))
          clear h1 HR hq0 hq1 hm1
          go_wp2
          go_ret3
          exact ⟨three_ret HR'.out, rfl⟩
        · have h1a : n + 3 < s.size := by omega
          clear h1
          by_cases h3 : bt s (n + 3) = 0
          · have HR' := Lib.hid (HR.out.symm.trans (gf_form (k := 3) h1a (by decide) h3))
            have c2 : (bt s (n + 3) == 0) = true := by simp [h3]
            clear HR hm1 h3
            go_wp2
            go_ret3
            exact ⟨three_ret HR'.out, rfl⟩
          · have c2 : (bt s (n + 3) == 0) = false := by simp; omega
            by_cases h5 : bt s (n + 3) < 128
            · have HR' := Lib.hid (HR.out.symm.trans (gf_last (k := 3) h1a (fun e => by omega) (fun e => by omega) h5))
              clear HR
              go_wp2
              go_ret3
              exact ⟨three_ret (HR'.out.trans (Prod.ext (by simp; try omega) (Prod.ext (by simp; try omega) rfl))), rfl⟩
            · have h6 : 128 ≤ bt s (n + 3) := by omega
              have HR' := Lib.hid ((gf_more (k := 3) h1a (by omega) h6).symm.trans HR.out)
              clear HR h5
              go_wp2
              go_round
              case rel => exact ⟨4, 0, _, rfl, by omega, rfl, rfl, by omega, by simp; omega, by simpa using HR'.out⟩
              case measure => simp [intOf]
      · by_cases h1 : n + 4 = s.size
        · have h1a : n + 4 ≤ s.size := by omega
          have h1b : s.size ≤ n + 4 := by omega
          have HR' := Lib.hid (HR.out.symm.trans (gf_end (k := 4) h1))
          clear h1 HR hq0 hq1 hm1
          go_wp2
          go_ret3
          exact ⟨three_ret HR'.out, rfl⟩
        · have h1a : n + 4 < s.size := by omega
          clear h1
          by_cases h2 : 16 ≤ bt s (n + 4)
          · have HR' := Lib.hid (HR.out.symm.trans (gf_range h1a h2))
            clear HR hm1
            go_wp2
            go_ret3
            exact ⟨three_ret HR'.out, rfl⟩
          · have h2' : bt s (n + 4) < 16 := by omega
            clear h2
            by_cases h3 : bt s (n + 4) = 0
            · have HR' := Lib.hid (HR.out.symm.trans (gf_form (k := 4) h1a (by decide) h3))
              have c2 : (bt s (n + 4) == 0) = true := by simp [h3]
              clear HR hm1 h3
              go_wp2
              go_ret3
              exact ⟨three_ret HR'.out, rfl⟩
            · have c2 : (bt s (n + 4) == 0) = false := by simp; omega
              have h5 : bt s (n + 4) < 128 := by omega
              have HR' := Lib.hid (HR.out.symm.trans (gf_last (k := 4) h1a (fun e => by omega) (fun e => by omega) h5))
              clear HR
              go_wp2
              go_ret3
              exact ⟨three_ret (HR'.out.trans (Prod.ext (by simp; try omega) (Prod.ext (by simp; try omega) rfl))), rfl⟩
end Go.Proofs.YtfjllaemmmhjnaaDoor.oct
