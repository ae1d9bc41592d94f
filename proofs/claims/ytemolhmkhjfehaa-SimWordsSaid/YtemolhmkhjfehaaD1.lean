/- The walks of the document's words on truths, bits and lanes: Same, Lit, Bit, Lane. -/
import Derived.Test.YtemolhmkhjfehaaA9
import Derived.Test.YtemolhmkhjfehaaFnY
import Derived.Test.YtemolhmkhjfehaaVr
import Derived.Deep.QuietTactic
import Derived.BigQuiet
namespace Go.Proofs.Ytemolhmkhjfehaa.aig
open Go.RowKit
open Go.Proofs.Ytemolhmkhjfehaa.mem Go.Proofs.Ytemolhmkhjfehaa.agf
open Go.Proofs.Ytemolhmkhjfehaa.nats (Rd U rd_len rd_cell rd_form Rd.on rd_of_owned)

theorem KB.form9 {w : World} {v : Value} {bs : List Bool} (h : KB w v bs) : ∃ a cap, v = .slice a bs.length cap ∧ bs.length ≤ cap ∧ cap ≤ maxLen := by
  obtain ⟨a, cap, hv, h1, h2, -⟩ := h; exact ⟨a, cap, hv, h1, h2⟩
theorem same9_drew (bs : List Bool) (v u : Value) (w : World) (hv : KB w v bs) (hu : KB w u bs) (hn : bs.length ≤ 5000) :
    Calls Try.prog 8 #[v, u] w fun e w' => e = .returned (.bool true) ∧ ∃ q, w' = w.drewN q := by
  have HV := Lib.hid hv
  have HU := Lib.hid hu
  obtain ⟨a, cap, rfl, l1, l2⟩ := hv.form9
  obtain ⟨a2, cap2, rfl, l3, l4⟩ := hu.form9
  unfold maxLen at l2 l4
  obtain ⟨m, hm⟩ : ∃ m, m = bs.length := ⟨_, rfl⟩
  rw [← hm] at l1 l3 hn HV HU ⊢
  have t0 : ((m : Int) != (m : Int)) = false := by simp
  clear hv hu hm
  go_enter Try.func8, Try.ntmps8
  go_wp2_with fail
  go_loopw [5] (fun i wr => ∃ k : Nat, k ≤ m ∧ i = .int .i64 k ∧ Hid (∃ q, wr = w.drewN q)) (fun i _ => m - (intOf i).toNat)
  case atStart => exact ⟨0, Nat.zero_le _, rfl, Lib.hid ⟨0, rfl⟩⟩
  case round =>
    obtain ⟨k, hk, rfl, HQ⟩ := hrel
    obtain ⟨wo, rfl⟩ : ∃ wo : World, wo = wr := ⟨_, rfl⟩
    have hb : Below w.heap.size w wo := by obtain ⟨q, e⟩ := HQ.out; rw [e]; exact below_drewN (Below.refl _ _) q
    by_cases hlt : k < m
    · obtain ⟨b, off, rfl, -, e1⟩ := (HV.out.on hb).at_ hlt
      obtain ⟨b', off', rfl, -, e2⟩ := (HU.out.on hb).at_ hlt
      obtain ⟨x, hx⟩ : ∃ x, x = bs.getD k false := ⟨_, rfl⟩
      rw [← hx] at e1 e2
      have d1 : (k : Int) < (m : Int) := by omega
      have d2 : 0 ≤ (k : Int) := by omega
      clear hx hb
      go_wp2_with fail
      go_quiet (fail)
      go_wp2_with fail
      go_roundw
      case rel => exact ⟨k + 1, by omega, by go_num, Lib.hid (by obtain ⟨q, e⟩ := HQ.out; exact ⟨q + nq, by rw [e, World.drewN_drewN]⟩)⟩
      case measure => simp [intOf]; omega
    · obtain rfl : m = k := by omega
      clear hlt hk hb
      go_wp2_with fail
      go_ret
      exact ⟨rfl, HQ.out⟩
theorem same9_yes (bs : List Bool) (v u : Value) (w : World) (hv : KB w v bs) (hu : KB w u bs) (hn : bs.length ≤ 5000) :
    Calls Try.prog 8 #[v, u] w fun e w' => e = .returned (.bool true) ∧ Below w.heap.size w w' :=
  (same9_drew bs v u w hv hu hn).mono fun e w' h => ⟨h.1, by obtain ⟨q, e⟩ := h.2; rw [e]; exact below_drewN (Below.refl _ _) q⟩
theorem same9_quiet (bs : List Bool) (v u : Value) (w : World) (n : Nat) (hv : KB w v bs) (hu : KB w u bs) (hn : bs.length ≤ 5000) :
    Calls Try.prog 8 #[v, u] (w.drewN n) fun e w' => e = .returned (.bool true) ∧ ∃ q, w' = w.drewN q :=
  (same9_drew bs v u (w.drewN n) (hv.on (below_drewN (Below.refl _ _) n)) (hu.on (below_drewN (Below.refl _ _) n)) hn).mono fun e w' h => ⟨h.1, by obtain ⟨q, e⟩ := h.2; exact ⟨n + q, by rw [e, World.drewN_drewN]⟩⟩
theorem same9 {bs cs : List Bool} (h : bs = cs) (v u : Value) (w : World) (hv : KB w v bs) (hu : KB w u cs) (hn : bs.length ≤ 5000) :
    Calls Try.prog 8 #[v, u] w fun e w' => e = .returned (.bool true) ∧ Below w.heap.size w w' := by
  subst h; exact same9_yes bs v u w hv hu hn
theorem refLit9_any (v : Value) (bs : List Bool) (l : Int) (w : World) (hv : KB w v bs) (hl : In64 l) :
    Calls Try.prog 12 #[v, .int .i64 l] w fun e w' => e = .returned (.bool (litB bs l)) ∧ w = w' := by
  have HV := Lib.hid hv
  obtain ⟨a, cap, rfl, l1, l2⟩ := hv.form9
  unfold maxLen at l2
  unfold In64 at hl
  obtain ⟨hl0, hl9⟩ := hl
  obtain ⟨m, hm⟩ : ∃ m, m = bs.length := ⟨_, rfl⟩
  rw [← hm] at l1 HV ⊢
  have HM := Lib.hid hm
  clear hv hm
  by_cases h0 : l = 0
  · subst h0
    have HR := Lib.hid (lit_0 bs)
    go_enter Try.func12, Try.ntmps12
    go_wp2_with fail
    go_ret
    exact ⟨mem.retB HR.out.symm, rfl⟩
  · by_cases h1 : l = 1
    · subst h1
      have HR := Lib.hid (lit_1 bs)
      clear h0
      go_enter Try.func12, Try.ntmps12
      go_wp2_with fail
      go_ret
      exact ⟨mem.retB HR.out.symm, rfl⟩
    · have c1 : (l == 0) = false := by simpa using h0
      have c2 : (l == 1) = false := by simpa using h1
      by_cases h2 : l < 0
      · have HR := Lib.hid (lit_out (vals := bs) h0 h1 (.inl h2))
        clear h0 h1
        go_enter Try.func12, Try.ntmps12
        go_wp2_with fail
        go_ret
        exact ⟨mem.retB HR.out.symm, rfl⟩
      · have c3 : decide (l < 0) = false := decide_eq_false h2
        obtain ⟨q, rfl⟩ := Int.eq_ofNat_of_zero_le (show 0 ≤ l by omega)
        by_cases h3 : (m : Int) ≤ (q : Int) / 2
        · have HR := Lib.hid (lit_out (vals := bs) h0 h1 (.inr (by rw [← HM.out]; exact h3)))
          have c4 : decide ((m : Int) ≤ (q : Int) / 2) = true := decide_eq_true h3
          clear h0 h1 h2 h3
          go_enter Try.func12, Try.ntmps12
          go_wp2_with fail
          go_ret
          exact ⟨mem.retB HR.out.symm, rfl⟩
        · have c4 : decide ((m : Int) ≤ (q : Int) / 2) = false := decide_eq_false h3
          have HR := Lib.hid (lit_in (vals := bs) h0 h1 (by rw [← HM.out]; omega))
          rw [show ((q : Int) / 2).toNat = q / 2 by omega] at HR
          have hq : q / 2 < m := by omega
          obtain ⟨b, off, rfl, -, e1⟩ := HV.out.at_ hq
          obtain ⟨x, hx⟩ : ∃ x, x = bs.getD (q / 2) false := ⟨_, rfl⟩
          rw [← hx] at e1 HR
          have d1 : (q : Int) / 2 < (m : Int) := by omega
          have d2 : 0 ≤ (q : Int) / 2 := by omega
          clear h0 h1 h2 h3 hx
          by_cases ho : (q : Int) % 2 = 1
          · have c5 : ((q : Int) % 2 == 1) = true := by simpa using ho
            have HR2 : Hid ((x != true) = litB bs (q : Int)) := Lib.hid (by rw [HR.out, decide_eq_true ho])
            clear ho
            go_enter Try.func12, Try.ntmps12
            go_wp2_with fail
            go_ret
            exact ⟨mem.retB (by rw [← HR2.out]; simp), rfl⟩
          · have c5 : ((q : Int) % 2 == 1) = false := by simpa using ho
            have HR2 : Hid ((x != false) = litB bs (q : Int)) := Lib.hid (by rw [HR.out, decide_eq_false ho])
            clear ho
            go_enter Try.func12, Try.ntmps12
            go_wp2_with fail
            go_ret
            exact ⟨mem.retB (by rw [← HR2.out]; simp), rfl⟩
theorem refLit9_of {v : Value} {bs : List Bool} {l : Int} {b : Bool} (h : litB bs l = b) (w : World) (hv : KB w v bs) (hl : In64 l) :
    Calls Try.prog 12 #[v, .int .i64 l] w fun e w' => e = .returned (.bool b) ∧ w = w' := by
  have := refLit9_any v bs l w hv hl; rw [h] at this; exact this
theorem refBit9_any (n i : Nat) (w : World) (hn : n < 18446744073709551616) (hi : i < 64) :
    Calls Try.prog 16 #[.int .u64 (n : Int), .int .i64 (i : Int)] w fun e w' => e = .returned (.bool (n.testBit i)) ∧ w = w' := by
  have HB := Lib.hid (bit_div n i)
  go_enter Try.func16, Try.ntmps16
  go_wp2_with fail
  go_loop [0, 5] (fun a k => ∃ j : Nat, j ≤ i ∧ k = .int .i64 j ∧ a = .int .u64 ((n / 2 ^ j : Nat) : Int)) (fun _ k => i - (intOf k).toNat)
  case atStart => exact ⟨0, Nat.zero_le _, rfl, by rw [Nat.pow_zero, Nat.div_one]⟩
  case round =>
    obtain ⟨j, hj, rfl, rfl⟩ := hrel
    have HD : Hid (n / 2 ^ (j + 1) = n / 2 ^ j / 2) := Lib.hid (by rw [Nat.pow_succ, Nat.div_div_eq_div_mul])
    have hle : n / 2 ^ j ≤ n := Nat.div_le_self _ _
    have HI2 := HB
    by_cases hlt : j < i
    · obtain ⟨x, hx⟩ : ∃ x, x = n / 2 ^ j := ⟨_, rfl⟩
      rw [← hx] at HD hle ⊢
      have d1 : (j : Int) < (i : Int) := by omega
      have hx2 : (x : Int) < 18446744073709551616 := by omega
      have hx0 : 0 ≤ (x : Int) := by omega
      clear hx
      go_wp2_with fail
      go_round
      case rel => exact ⟨j + 1, by omega, by go_num, by rw [HD.out]; go_num⟩
      case measure => simp [intOf]; omega
    · obtain rfl : i = j := by omega
      obtain ⟨x, hx⟩ : ∃ x, x = n / 2 ^ i := ⟨_, rfl⟩
      rw [← hx] at hle HI2 ⊢
      have hx2 : (x : Int) < 18446744073709551616 := by omega
      have hx0 : 0 ≤ (x : Int) := by omega
      clear hx hlt hj
      by_cases ho : x % 2 = 1
      · have c1 : ((x : Int) % 2 == 1) = true := by simp; omega
        have HR : Hid (n.testBit i = true) := Lib.hid (HI2.out.1 ho)
        clear ho
        go_wp2_with fail
        go_ret
        exact ⟨mem.retB (by rw [HR.out]), rfl⟩
      · have c1 : ((x : Int) % 2 == 1) = false := by simp; omega
        have HR : Hid (n.testBit i = false) := Lib.hid (by
          cases h : n.testBit i with
          | false => rfl
          | true => exact absurd (HI2.out.2 h) ho)
        clear ho
        go_wp2_with fail
        go_ret
        exact ⟨mem.retB (by rw [HR.out]), rfl⟩
end Go.Proofs.Ytemolhmkhjfehaa.aig
