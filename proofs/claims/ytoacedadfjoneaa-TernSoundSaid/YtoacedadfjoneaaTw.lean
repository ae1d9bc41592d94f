/- The walks of tri's calls on words, and of the document's. -/
import Derived.Test.YtoacedadfjoneaaTv
import Derived.Test.YtoacedadfjoneaaFnW
import Derived.Below
import Derived.OwnWalk
import Derived.WalkSmall
import Derived.Deep.QuietTactic
import Derived.BigQuiet
import Derived.Deep.RegionWith
import Derived.Lib.SmallJoins
namespace Go.Proofs.Ytoacedadfjoneaa.tri
open Go.RowKit
open Go.Proofs.Ytoacedadfjoneaa.fns

theorem below_drewN {B : Nat} {w w' : World} (h : Below B w w') (n : Nat) : Below B w (w'.drewN n) :=
  ⟨h.os, h.tape, h.output, h.size, h.block⟩
theorem clean_any (o z : Int) (w : World) :
    Calls Try.prog 38 #[.agg #[.int .u64 o, .int .u64 z]] w fun e w' => e = .returned (.agg #[.int .u64 (cO o z), .int .u64 (cO z o)]) ∧ Below w.heap.size w w' := by
  obtain ⟨p, hp⟩ : ∃ p, bits .andNot .u64 o z = p := ⟨_, rfl⟩
  obtain ⟨q, hq⟩ : ∃ q, bits .andNot .u64 z o = q := ⟨_, rfl⟩
  have HP : Hid (cO o z = p) := Lib.hid hp
  have HQ : Hid (cO z o = q) := Lib.hid hq
  rw [HP.out, HQ.out]
  go_enter Try.func38, Try.ntmps38
  go_wp2
  exact bodyPost_ret (v := .agg #[.int .u64 p, .int .u64 q]) (by simp [results, Try.results38, go_sem]) rfl ⟨rfl, by repeat (first | exact Below.refl _ _ | refine Below.setCell ?_ (by simp) _ | refine Below.alloc ?_ (by simp) _)⟩

theorem bit_any (x : Int) (k : Nat) (w : World) (hx : In64 x) (hk : k < 64) :
    Calls Try.prog 27 #[.int .u64 x, .int .i64 k] w fun e w' => e = .returned (.bool (bitB x k)) ∧ w = w' := by
  obtain ⟨hx0, hx1⟩ := hx
  have HB := Lib.hid (bit_div x k hx0)
  go_enter Try.func27, Try.ntmps27
  go_wp2
  go_loop [0, 5] (fun n i => ∃ j : Nat, j ≤ k ∧ i = .int .i64 j ∧ ∃ y, n = .int .u64 y ∧ Hid (y = x / 2 ^ j) ∧ 0 ≤ y ∧ y < 18446744073709551616) (fun _ i => k - (intOf i).toNat)
  case atStart => exact ⟨0, Nat.zero_le _, rfl, x, rfl, Lib.hid (by simp), hx0, hx1⟩
  case round =>
    obtain ⟨j, hj, rfl, y, rfl, HY, hy0, hy1⟩ := hrel
    by_cases h : j < k
    · go_wp2
      go_round
      case rel => exact ⟨j + 1, by omega, by go_num, y / 2, rfl, Lib.hid (by rw [HY.out, Int.pow_succ]; exact Int.ediv_ediv_of_nonneg (Int.pow_nonneg (by decide))), by omega, by omega⟩
      case measure => simp [intOf]; omega
    · have HJ : Hid (j = k) := Lib.hid (by omega)
      have c1 : decide ((j : Int) < (k : Int)) = false := by simp; omega
      go_wp2
      go_ret
      exact ⟨retB (by rw [HB.out, HY.out, HJ.out]; rfl), rfl⟩
theorem bit_of {x : Int} {k : Nat} {b : Bool} (h : bitB x k = b) (w : World) (hx : In64 x) (hk : k < 64) :
    Calls Try.prog 27 #[.int .u64 x, .int .i64 k] w fun e w' => e = .returned (.bool b) ∧ w = w' := by
  have := bit_any x k w hx hk; rw [h] at this; exact this
theorem at_of {o z : Int} {k : Nat} {p q : Bool} (h : k < 64) (hp : bitB o k = p) (hq : bitB z k = q) : tAt o z k = tBit p q := by
  rw [at_in (by omega) (by omega), Int.toNat_natCast, hp, hq]
theorem refAt_any (o z i : Int) (w : World) (ho : In64 o) (hz : In64 z) :
    Calls Try.prog 12 #[.int .u64 o, .int .u64 z, .int .i64 i] w fun e w' => e = .returned (.int .i64 (tAt o z i)) ∧ w = w' := by
  by_cases h0 : i < 0
  · have HR := Lib.hid (at_out (o := o) (z := z) (i := i) (by omega))
    go_enter Try.func12, Try.ntmps12
    go_wp2
    go_ret
    exact ⟨retI HR.out.symm, rfl⟩
  · by_cases h1 : 63 < i
    · have HR := Lib.hid (at_out (o := o) (z := z) (i := i) (by omega))
      have c1 : decide (i < 0) = false := by simp; omega
      clear h0
      go_enter Try.func12, Try.ntmps12
      go_wp2
      go_ret
      exact ⟨retI HR.out.symm, rfl⟩
    · obtain ⟨k, rfl⟩ := Int.eq_ofNat_of_zero_le (show 0 ≤ i by omega)
      have hk : k < 64 := by omega
      obtain ⟨p, hp⟩ : ∃ p, bitB o k = p := ⟨_, rfl⟩
      obtain ⟨q, hq⟩ : ∃ q, bitB z k = q := ⟨_, rfl⟩
      have HR := Lib.hid (at_of hk hp hq)
      have HP := Lib.hid hp
      have HQ := Lib.hid hq
      have HO := Lib.hid ho
      have HZ := Lib.hid hz
      have c1 : decide ((k : Int) < 0) = false := by simp
      have c2 : decide (63 < (k : Int)) = false := by simp; omega
      clear hp hq ho hz h0 h1
      cases p <;> cases q
      all_goals
        go_enter Try.func12, Try.ntmps12
        go_wp2_with fail
        go_at_call 27; refine (bit_of HP.out _ HO.out hk).mono ?_; rintro e w' ⟨rfl, rfl⟩
        go_wp2_with fail
        go_at_call 27; refine (bit_of HQ.out _ HZ.out hk).mono ?_; rintro e w' ⟨rfl, rfl⟩
        go_wp2_with fail
        go_ret
        exact ⟨retI HR.out.symm, rfl⟩

theorem shr_bit {x : Int} {k : Nat} {b : Bool} (hx : In64 x) (h : bitB x k = b) : bits .and .u64 (x / 2 ^ k) 1 = if b then 1 else 0 := by
  obtain ⟨h0, h1⟩ := hx
  have hd : 0 ≤ x / 2 ^ k := Int.ediv_nonneg h0 (Int.pow_nonneg (by decide))
  have hle : x / 2 ^ k ≤ x := Int.ediv_le_self _ h0
  rw [u64_and _ _ hd (by omega) (by decide) (by decide)]
  rw [bit_div x k h0] at h
  generalize x / 2 ^ k = y at *
  obtain ⟨n, rfl⟩ := Int.eq_ofNat_of_zero_le hd
  rw [Int.toNat_natCast, show ((1 : Int).toNat) = 1 from rfl, Nat.and_one_is_mod]
  cases b
  · have : ¬ ((n : Int) % 2 = 1) := by simpa using h
    simp; omega
  · have : ((n : Int) % 2 = 1) := by simpa using h
    simp; omega

theorem At_any (o z i : Int) (w : World) (ho : In64 o) (hz : In64 z) :
    Calls Try.prog 20 #[.agg #[.int .u64 o, .int .u64 z], .int .i64 i] w fun e w' => e = .returned (.int .i64 (tAt o z i)) ∧ Below w.heap.size w w' := by
  by_cases h0 : i < 0
  · have HR := Lib.hid (at_out (o := o) (z := z) (i := i) (by omega))
    go_enter Try.func20, Try.ntmps20
    go_wp2
    go_ret
    exact ⟨retI HR.out.symm, (Below.refl _ _).alloc (Nat.le_refl _) _⟩
  · by_cases h1 : 64 ≤ i
    · have HR := Lib.hid (at_out (o := o) (z := z) (i := i) (by omega))
      have c1 : decide (i < 0) = false := by simp; omega
      clear h0
      go_enter Try.func20, Try.ntmps20
      go_wp2
      go_ret
      exact ⟨retI HR.out.symm, (Below.refl _ _).alloc (Nat.le_refl _) _⟩
    · obtain ⟨k, rfl⟩ := Int.eq_ofNat_of_zero_le (show 0 ≤ i by omega)
      have hk : k < 64 := by omega
      obtain ⟨p, hp⟩ : ∃ p, bitB o k = p := ⟨_, rfl⟩
      obtain ⟨q, hq⟩ : ∃ q, bitB z k = q := ⟨_, rfl⟩
      have HR := Lib.hid (at_of hk hp hq)
      have e1 := shr_bit ho hp
      have e2 := shr_bit hz hq
      have c1 : decide ((k : Int) < 0) = false := by simp
      have c2 : decide (64 ≤ (k : Int)) = false := by simp; omega
      clear hp hq ho hz h0 h1
      cases p <;> cases q
      all_goals
        simp only [if_true, if_false, Bool.false_eq_true] at e1 e2
        go_enter Try.func20, Try.ntmps20
        go_wp2
        go_quiet (fail)
        go_wp2
        go_ret
        exact ⟨retI HR.out.symm, below_drewN ((Below.refl _ _).alloc (Nat.le_refl _) _) _⟩
end Go.Proofs.Ytoacedadfjoneaa.tri
