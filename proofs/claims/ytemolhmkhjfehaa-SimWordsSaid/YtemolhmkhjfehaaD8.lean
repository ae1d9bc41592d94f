/- The walks of the project's simulation: Word. -/
import Derived.Test.YtemolhmkhjfehaaD7
import Derived.Laws.BitsAllLaws
namespace Go.Proofs.Ytemolhmkhjfehaa.aig
open Go.RowKit
open Go.Proofs.Ytemolhmkhjfehaa.mem Go.Proofs.Ytemolhmkhjfehaa.agf
open Go.Proofs.Ytemolhmkhjfehaa.fns (goodB litVar litNeg good_yes good_no good_iff var_yes var_no neg_no neg_odd neg_even)
open Go.Proofs.Ytemolhmkhjfehaa.nats (Rd U rd_len rd_cell rd_form Rd.on rd_of_owned)

theorem ones_xor {x : Nat} (hx : x < 18446744073709551616) : allOnes ^^^ x = allOnes - x := by
  apply Nat.eq_of_testBit_eq
  intro i
  by_cases h : i < 64
  · rw [Nat.testBit_xor, ones_bit h, compl_bit hx h, Bool.true_xor]
  · have e : (2 : Nat) ^ 64 ≤ 2 ^ i := Nat.pow_le_pow_right (by omega) (by omega)
    have e64 : (2 : Nat) ^ 64 = 18446744073709551616 := by decide
    rw [Nat.testBit_xor, Nat.testBit_lt_two_pow (x := x) (by omega), Nat.testBit_lt_two_pow (x := allOnes) (by unfold allOnes; omega), Nat.testBit_lt_two_pow (x := allOnes - x) (by unfold allOnes; omega)]; rfl
theorem xor_max {x : Nat} (hx : x < 18446744073709551616) : bits .xor .u64 IntKind.u64.max (x : Int) = ((allOnes - x : Nat) : Int) := by
  rw [show IntKind.u64.max = ((allOnes : Nat) : Int) by decide, u64_xor_nat _ _ (by unfold allOnes; omega) hx, ones_xor hx]
set_option maxHeartbeats 1600000 in
theorem sWord_any (v : Value) (ws : List Nat) (l : Int) (w : World) (hv : Rd U w v ws) (hw : ∀ z ∈ ws, z < 18446744073709551616) :
    Calls Try.prog 14 #[v, .int .i64 l] w fun e w' => e = .returned (U (litW ws l)) ∧ w = w' := by
  have HV := Lib.hid hv
  obtain ⟨a, cap, rfl⟩ := rd_form hv
  obtain ⟨-, l1, l2⟩ := rd_len hv
  unfold maxLen at l2
  have HLT := Lib.hid (rd_lt hw)
  obtain ⟨m, hm⟩ : ∃ m, m = ws.length := ⟨_, rfl⟩
  rw [← hm] at l1 HV ⊢
  have HM := Lib.hid hm
  obtain ⟨b1, b2⟩ := fns.var_bd l
  obtain ⟨y, hy⟩ : ∃ y, y = litNeg l := ⟨_, rfl⟩
  have HN := Lib.hid hy.symm
  obtain ⟨u, hu⟩ : ∃ u, u = litVar l := ⟨_, rfl⟩
  have HX := Lib.hid hu.symm
  rw [← hu] at b1 b2
  have HR : Hid (litW ws l = if u < 0 ∨ (u ≠ 0 ∧ (m : Int) ≤ u) then 0 else if y then allOnes - varW ws u else varW ws u) := Lib.hid (by rw [hu, hy, HM.out]; rfl)
  clear hv hw hm hu hy
  by_cases hneg : u < 0
  · have HE : Hid (litW ws l = 0) := Lib.hid (by rw [HR.out, if_pos (.inl hneg)])
    rw [HE.out]
    have c1 : (u == 0) = false := by simp; omega
    clear HR HE
    go_enter Try.func14, Try.ntmps14
    go_wp2_with fail
    go_at_call 22; refine (Var_is HX.out _).mono ?_; rintro e w' ⟨rfl, rfl⟩
    go_wp2_with fail
    go_ret
    exact ⟨rfl, rfl⟩
  · obtain ⟨k, rfl⟩ := Int.eq_ofNat_of_zero_le (show 0 ≤ u by omega)
    by_cases hz : k = 0
    · subst hz
      have HE : Hid (litW ws l = if y then allOnes else 0) := Lib.hid (by
        have e : varW ws ((0 : Nat) : Int) = 0 := by unfold varW; rw [if_pos (.inl (by omega))]
        rw [HR.out, if_neg (by omega), e]; rfl)
      rw [HE.out]
      clear HR HE hneg b1 b2
      cases y with
      | true =>
        go_enter Try.func14, Try.ntmps14
        go_wp2_with fail
        go_at_call 22; refine (Var_is HX.out _).mono ?_; rintro e w' ⟨rfl, rfl⟩
        go_wp2_with fail
        go_at_call 23; refine (Neg_is HN.out _).mono ?_; rintro e w' ⟨rfl, rfl⟩
        go_wp2_with fail
        go_ret
        exact ⟨rfl, rfl⟩
      | false =>
        go_enter Try.func14, Try.ntmps14
        go_wp2_with fail
        go_at_call 22; refine (Var_is HX.out _).mono ?_; rintro e w' ⟨rfl, rfl⟩
        go_wp2_with fail
        go_at_call 23; refine (Neg_is HN.out _).mono ?_; rintro e w' ⟨rfl, rfl⟩
        go_wp2_with fail
        go_ret
        exact ⟨rfl, rfl⟩
    · have c1 : ((k : Int) == 0) = false := by simp; omega
      have c2 : decide ((k : Int) < 0) = false := by simp
      by_cases hl : m ≤ k
      · have HE : Hid (litW ws l = 0) := Lib.hid (by rw [HR.out, if_pos (.inr ⟨by omega, by omega⟩)])
        rw [HE.out]
        have c3 : decide ((m : Int) ≤ (k : Int)) = true := by simp; omega
        have c4 : decide (m ≤ k) = true := by simp; omega
        clear HR HE hneg hz hl
        go_enter Try.func14, Try.ntmps14
        go_wp2_with fail
        go_at_call 22; refine (Var_is HX.out _).mono ?_; rintro e w' ⟨rfl, rfl⟩
        go_wp2_with fail
        go_ret
        exact ⟨rfl, rfl⟩
      · have c3 : decide ((m : Int) ≤ (k : Int)) = false := by simp; omega
        have c4 : decide (m ≤ k) = false := by simp; omega
        obtain ⟨b, off, rfl, -, e1⟩ := rd_cell HV.out (show k < m by omega)
        have hx9 := HLT.out k
        have HE : Hid (litW ws l = if y then allOnes - ws.getD k 0 else ws.getD k 0) := Lib.hid (by
          have e : varW ws (k : Int) = ws.getD k 0 := by unfold varW; rw [if_neg (by rw [← HM.out]; omega)]; rfl
          rw [HR.out, if_neg (by omega), e])
        rw [HE.out]
        obtain ⟨x, hx⟩ : ∃ x, x = ws.getD k 0 := ⟨_, rfl⟩
        rw [← hx] at e1 hx9 ⊢
        have d1 : (k : Int) < (m : Int) := by omega
        have d2 : 0 ≤ (k : Int) := by omega
        clear HR HE hneg hz hl hx
        cases y with
        | true =>
          have HC := Lib.hid (xor_max hx9)
          simp only [if_true]
          go_enter Try.func14, Try.ntmps14
          go_wp2_with fail
          go_at_call 22; refine (Var_is HX.out _).mono ?_; rintro e w' ⟨rfl, rfl⟩
          go_wp2_with fail
          go_at_call 23; refine (Neg_is HN.out _).mono ?_; rintro e w' ⟨rfl, rfl⟩
          go_wp2_with fail
          go_ret
          exact ⟨congrArg (fun z => Ending.returned (.int .u64 z)) HC.out, rfl⟩
        | false =>
          go_enter Try.func14, Try.ntmps14
          go_wp2_with fail
          go_at_call 22; refine (Var_is HX.out _).mono ?_; rintro e w' ⟨rfl, rfl⟩
          go_wp2_with fail
          go_at_call 23; refine (Neg_is HN.out _).mono ?_; rintro e w' ⟨rfl, rfl⟩
          go_wp2_with fail
          go_ret
          exact ⟨rfl, rfl⟩
end Go.Proofs.Ytemolhmkhjfehaa.aig
