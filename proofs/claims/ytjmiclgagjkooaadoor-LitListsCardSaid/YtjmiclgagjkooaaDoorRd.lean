/- The walks of octet's reader of digits, and of the document's. -/
import Derived.Test.YtjmiclgagjkooaaDoorPl
namespace Go.Proofs.YtjmiclgagjkooaaDoor.oct
open Go.RowKit Go.PlainAid
open Go.Proofs.YtjmiclgagjkooaaDoor.fns

theorem ret_int {k : IntKind} {a b : Int} (h : a = b) : Ending.returned (.int k a) = .returned (.int k b) := by rw [h]

theorem digitsEnd_any (s : ByteArray) (n : Nat) (w : World) (hs : s.size ≤ maxLen) (hn : n ≤ s.size) :
    Calls Tryd.prog 41 #[.string s, .int .i64 n] w fun e w' => e = .returned (.int .i64 (dEnd s n)) ∧ w = w' := by
  unfold maxLen at hs
  have hb := get_bt s
  go_enter Tryd.func41, Tryd.ntmps41
  go_wp2
  go_loop [1] (fun v => ∃ c : Nat, c ≤ s.size ∧ v = .int .i64 c ∧ dEnd s c = dEnd s n) (fun v => s.size - (intOf v).toNat)
  case atStart => exact ⟨n, hn, rfl, rfl⟩
  case round =>
    obtain ⟨c, hc, rfl, hR⟩ := hrel
    have HR := Lib.hid hR
    clear hR
    by_cases h1 : c < s.size
    · by_cases h2 : 48 ≤ bt s c
      · by_cases h3 : bt s c ≤ 57
        · have HR' := Lib.hid ((dEnd_step h1 h2 h3).symm.trans HR.out)
          clear HR
          go_wp2
          go_round
          case rel => exact ⟨c + 1, by omega, by go_num, HR'.out⟩
          case measure => simp [intOf]; omega
        · have HR' := Lib.hid (HR.out.symm.trans (dEnd_stop (fun h => h3 h.2.2)))
          clear HR
          go_wp2
          go_ret
          exact ⟨ret_int (by rw [HR'.out]), rfl⟩
      · have HR' := Lib.hid (HR.out.symm.trans (dEnd_stop (fun h => h2 h.2.1)))
        clear HR
        go_wp2
        go_ret
        exact ⟨ret_int (by rw [HR'.out]), rfl⟩
    · have HR' := Lib.hid (HR.out.symm.trans (dEnd_stop (fun h => h1 h.1)))
      have h4 : decide ((c : Int) < (s.size : Int)) = false := by simp; omega
      clear HR
      go_wp2
      go_ret
      exact ⟨ret_int (by rw [HR'.out]), rfl⟩

set_option maxHeartbeats 400000 in
theorem nat_any (s : ByteArray) (a : Int) (w : World) (hs : s.size ≤ maxLen) :
    Calls Tryd.prog 32 #[.string s, .int .i64 a] w fun e w' => e = .returned (three .i64 (natAt s a)) ∧ w = w' := by
  have hs' := hs
  unfold maxLen at hs
  by_cases ha : a < 0 ∨ (s.size : Int) < a
  · have HR := Lib.hid (natAt_arg ha)
    go_enter Tryd.func32, Tryd.ntmps32
    go_wp2_with (go_at_call 40; refine (isPlace_no _ _ _ ha).mono ?_; rintro e w' ⟨rfl, rfl⟩)
    go_ret3
    exact ⟨three_ret HR.out, rfl⟩
  · obtain ⟨n, rfl⟩ : ∃ n : Nat, a = n := ⟨a.toNat, by omega⟩
    have hn : n ≤ s.size := by omega
    clear ha
    have hb := get_bt s
    by_cases h1 : n = s.size
    · have HR := Lib.hid (natAt_end h1)
      have h1a : s.size ≤ n := by omega
      clear h1
      go_enter Tryd.func32, Tryd.ntmps32
      go_wp2_with (go_at_call 40; refine (isPlace_yes _ _ _ (by omega) (by omega)).mono ?_; rintro e w' ⟨rfl, rfl⟩)
      go_ret3
      exact ⟨three_ret HR.out, rfl⟩
    · have h1a : n < s.size := by omega
      clear h1
      have e1 := dEnd_ge s n
      have e2 := dEnd_le s n hn
      have q0 := bt_nonneg s n
      have q1 := bt_le s n
      by_cases h2 : dEnd s n = n
      · have HR := Lib.hid (natAt_form h1a (.inl h2))
        have h2a : dEnd s n ≤ n := by omega
        clear h2
        go_enter Tryd.func32, Tryd.ntmps32
        go_wp2_with (first | (go_at_call 40; refine (isPlace_yes _ _ _ (by omega) (by omega)).mono ?_; rintro e w' ⟨rfl, rfl⟩) | (go_at_call 41; refine (digitsEnd_any _ _ _ hs' hn).mono ?_; rintro e w' ⟨rfl, rfl⟩))
        go_ret3
        exact ⟨three_ret HR.out, rfl⟩
      · by_cases h3 : bt s n = 48 ∧ n + 1 < dEnd s n
        · have HR := Lib.hid (natAt_form h1a (.inr h3))
          obtain ⟨h3, h4⟩ := h3
          have c1 : (bt s n == 48) = true := by simp [h3]
          clear h2 h3
          go_enter Tryd.func32, Tryd.ntmps32
          go_wp2_with (first | (go_at_call 40; refine (isPlace_yes _ _ _ (by omega) (by omega)).mono ?_; rintro e w' ⟨rfl, rfl⟩) | (go_at_call 41; refine (digitsEnd_any _ _ _ hs' hn).mono ?_; rintro e w' ⟨rfl, rfl⟩))
          go_ret3
          exact ⟨three_ret HR.out, rfl⟩
        · have h3' : ¬ (dEnd s n = n ∨ (bt s n = 48 ∧ n + 1 < dEnd s n)) := fun h => h.elim h2 h3
          by_cases h4 : n + 9 < dEnd s n
          · have HR := Lib.hid (natAt_range h1a h3' h4)
            have c1 : (bt s n == 48) = false := by simp; omega
            clear h2 h3 h3'
            go_enter Tryd.func32, Tryd.ntmps32
            go_wp2_with (first | (go_at_call 40; refine (isPlace_yes _ _ _ (by omega) (by omega)).mono ?_; rintro e w' ⟨rfl, rfl⟩) | (go_at_call 41; refine (digitsEnd_any _ _ _ hs' hn).mono ?_; rintro e w' ⟨rfl, rfl⟩))
            go_ret3
            exact ⟨three_ret HR.out, rfl⟩
          · have HR := Lib.hid (natAt_ok h1a h3' h4)
            by_cases h5 : n + 1 < dEnd s n
            · have c1 : (bt s n == 48) = false := by simp; omega
              clear h2 h3 h3'
              go_enter Tryd.func32, Tryd.ntmps32
              go_wp2_with (first | (go_at_call 40; refine (isPlace_yes _ _ _ (by omega) (by omega)).mono ?_; rintro e w' ⟨rfl, rfl⟩) | (go_at_call 41; refine (digitsEnd_any _ _ _ hs' hn).mono ?_; rintro e w' ⟨rfl, rfl⟩))
              go_loop [9, 40] (fun v i => ∃ k : Nat, n + k ≤ dEnd s n ∧ i = .int .i64 k ∧ v = .int .i64 (numTo s n k)) (fun _ i => (dEnd s n - n) - (intOf i).toNat)
              case atStart => exact ⟨0, by omega, rfl, rfl⟩
              case round =>
                obtain ⟨k, hk, rfl, rfl⟩ := hrel
                have hv := numTo_bd9 s n k hk (by omega)
                by_cases h6 : n + k < dEnd s n
                · have hd := dEnd_dig s n (n + k) (by omega) h6
                  go_wp2
                  go_round
                  case rel => exact ⟨k + 1, by omega, by go_num, by simp [numTo]⟩
                  case measure => simp [intOf]; omega
                · have HK := Lib.hid (show dEnd s n - n = k by omega)
                  go_wp2
                  go_ret3
                  exact ⟨three_ret (HR.out.trans (by rw [HK.out])), rfl⟩
            · have h5a : dEnd s n ≤ n + 1 := by omega
              have h5b : n + 1 ≤ dEnd s n := by omega
              clear h2 h3 h3' h5
              go_enter Tryd.func32, Tryd.ntmps32
              go_wp2_with (first | (go_at_call 40; refine (isPlace_yes _ _ _ (by omega) (by omega)).mono ?_; rintro e w' ⟨rfl, rfl⟩) | (go_at_call 41; refine (digitsEnd_any _ _ _ hs' hn).mono ?_; rintro e w' ⟨rfl, rfl⟩))
              go_loop [9, 40] (fun v i => ∃ k : Nat, n + k ≤ dEnd s n ∧ i = .int .i64 k ∧ v = .int .i64 (numTo s n k)) (fun _ i => (dEnd s n - n) - (intOf i).toNat)
              case atStart => exact ⟨0, by omega, rfl, rfl⟩
              case round =>
                obtain ⟨k, hk, rfl, rfl⟩ := hrel
                have hv := numTo_bd9 s n k hk (by omega)
                by_cases h6 : n + k < dEnd s n
                · have hd := dEnd_dig s n (n + k) (by omega) h6
                  go_wp2
                  go_round
                  case rel => exact ⟨k + 1, by omega, by go_num, by simp [numTo]⟩
                  case measure => simp [intOf]; omega
                · have HK := Lib.hid (show dEnd s n - n = k by omega)
                  go_wp2
                  go_ret3
                  exact ⟨three_ret (HR.out.trans (by rw [HK.out])), rfl⟩

theorem min9 (k : Nat) (h : k < 9) : min (k + 1) 9 = k + 1 := by omega
theorem min9' (k : Nat) (h : k < 9) : min k 9 = k := by omega

set_option maxHeartbeats 800000 in
theorem refNat_any (s : ByteArray) (a : Int) (w : World) (hs : s.size ≤ maxLen) :
    Calls Tryd.prog 33 #[.string s, .int .i64 a] w fun e w' => e = .returned (three .i64 (natAt s a)) ∧ w = w' := by
  unfold maxLen at hs
  by_cases ha : a < 0 ∨ (s.size : Int) < a
  · have HR := Lib.hid (natAt_arg ha)
    by_cases h0 : a < 0
    · clear ha
      go_enter Tryd.func33, Tryd.ntmps33
      go_wp2
      go_ret3
      exact ⟨three_ret HR.out, rfl⟩
    · have h1 : (s.size : Int) < a := by omega
      clear ha
      go_enter Tryd.func33, Tryd.ntmps33
      go_wp2
      go_ret3
      exact ⟨three_ret HR.out, rfl⟩
  · obtain ⟨n, rfl⟩ : ∃ n : Nat, a = n := ⟨a.toNat, by omega⟩
    have hn : n ≤ s.size := by omega
    clear ha
    have hb := get_bt s
    by_cases h1 : n = s.size
    · have HR := Lib.hid (natAt_end h1)
      have h1a : s.size ≤ n := by omega
      clear h1
      go_enter Tryd.func33, Tryd.ntmps33
      go_wp2
      go_ret3
      exact ⟨three_ret HR.out, rfl⟩
    · have h1a : n < s.size := by omega
      clear h1
      have e1 := dEnd_ge s n
      have e2 := dEnd_le s n hn
      have q0 := bt_nonneg s n
      have q1 := bt_le s n
      go_enter Tryd.func33, Tryd.ntmps33
      go_wp2
      go_loop [7, 1] (fun v a => ∃ c k : Nat, n + k = c ∧ c ≤ dEnd s n ∧ a = .int .i64 c ∧ v = .int .i64 (numTo s n (min k 9)) ∧ dEnd s c = dEnd s n) (fun _ a => s.size - (intOf a).toNat)
      case atStart => exact ⟨n, 0, by omega, by omega, rfl, rfl, rfl⟩
      case round =>
        obtain ⟨c, k, hk, hc, rfl, rfl, hR⟩ := hrel
        have HR := Lib.hid hR
        have HK := Lib.hid hk
        have hv := numTo_bd9 s n (min k 9) (by omega) (by omega)
        have hkc : k ≤ c := by omega
        have hck : n + k ≤ c := by omega
        have hck' : c ≤ n + k := by omega
        clear hR hk
        by_cases h2 : c < s.size ∧ 48 ≤ bt s c ∧ bt s c ≤ 57
        · obtain ⟨h2, h3, h4⟩ := h2
          have h5 := dEnd_step h2 h3 h4
          have h6 : c + 1 ≤ dEnd s n := by have := dEnd_ge s (c + 1); rw [← HR.out, h5]; exact this
          have HR' := Lib.hid (h5.symm.trans HR.out)
          clear h5
          by_cases h7 : k < 9
          · have HM := Lib.hid (min9 k h7)
            have HM' := Lib.hid (min9' k h7)
            go_wp2
            go_round
            case rel => exact ⟨c + 1, k + 1, by omega, h6, by go_num, by rw [HM.out, HM'.out]; simp only [numTo]; rw [HK.out], HR'.out⟩
            case measure => simp [intOf]; omega
          · have HM := Lib.hid (show min (k + 1) 9 = min k 9 by omega)
            go_wp2
            go_round
            case rel => exact ⟨c + 1, k + 1, by omega, h6, by go_num, by rw [HM.out], HR'.out⟩
            case measure => simp [intOf]; omega
        · have HS := Lib.hid (HR.out.symm.trans (dEnd_stop h2))
          have hS := HS.out
          have hx : (s.size ≤ c) ∨ (c < s.size ∧ bt s c < 48) ∨ (c < s.size ∧ 57 < bt s c) := by omega
          clear h2
          by_cases h3 : k = 0
          · have HN := Lib.hid (natAt_form h1a (.inl (by omega)))
            have h3a : c ≤ n := by omega
            have h3b : n ≤ c := by omega
            clear h3 hS
            rcases hx with hx | ⟨hx, hx'⟩ | ⟨hx, hx'⟩
            · omega
            all_goals
              go_wp2
              go_ret3
              exact ⟨three_ret HN.out, rfl⟩
          · by_cases h4 : bt s n = 48 ∧ 1 < k
            · have HN := Lib.hid (natAt_form h1a (.inr ⟨h4.1, by omega⟩))
              have c1 : (bt s n == 48) = true := by simp [h4.1]
              have h4b : n + 1 < c := by omega
              clear h3 h4 hS
              rcases hx with hx | ⟨hx, hx'⟩ | ⟨hx, hx'⟩
              all_goals
                go_wp2
                go_ret3
                exact ⟨three_ret HN.out, rfl⟩
            · have h4' : ¬ (dEnd s n = n ∨ (bt s n = 48 ∧ n + 1 < dEnd s n)) := by omega
              by_cases h5 : 9 < k
              · have HN := Lib.hid (natAt_range h1a h4' (by omega))
                have c1 : (bt s n == 48) = false := by simp; omega
                have h5b : n + 9 < c := by omega
                clear h3 h4 h4' hS
                rcases hx with hx | ⟨hx, hx'⟩ | ⟨hx, hx'⟩
                all_goals
                  go_wp2
                  go_ret3
                  exact ⟨three_ret HN.out, rfl⟩
              · have HN := Lib.hid (natAt_ok h1a h4' (by omega))
                have HC := Lib.hid hS
                have HQ := Lib.hid (show c - n = min k 9 by omega)
                by_cases h6 : bt s n = 48
                · have c1 : (bt s n == 48) = true := by simp [h6]
                  have h5b : c ≤ n + 1 := by omega
                  have c2 : decide ((n : Int) + 1 < (c : Int)) = false := by simp; omega
                  have c3 : decide (n + 1 < c) = false := by simp; omega
                  have h5c : n < c := by omega
                  clear h3 h4 h4' hS h6
                  rcases hx with hx | ⟨hx, hx'⟩ | ⟨hx, hx'⟩
                  all_goals
                    go_wp2
                    go_ret3
                    exact ⟨three_ret (HN.out.trans (by rw [HC.out, HQ.out])), rfl⟩
                · have c1 : (bt s n == 48) = false := by simp [h6]
                  have h5b : c ≤ n + 9 := by omega
                  have h5c : n < c := by omega
                  clear h3 h4 h4' hS h6
                  rcases hx with hx | ⟨hx, hx'⟩ | ⟨hx, hx'⟩
                  all_goals
                    go_wp2
                    go_ret3
                    exact ⟨three_ret (HN.out.trans (by rw [HC.out, HQ.out])), rfl⟩
end Go.Proofs.YtjmiclgagjkooaaDoor.oct
