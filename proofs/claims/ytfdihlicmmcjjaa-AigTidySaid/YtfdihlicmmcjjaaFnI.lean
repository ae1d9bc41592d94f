/- A number's ten lowest bits. -/
import Derived.Laws.BitsAllLaws
import Derived.IntWalk
namespace Go.Proofs.Ytfdihlicmmcjjaa.agf
open Go

theorem low10 (a : Int) : 0 ≤ bits .and .i64 a 1023 ∧ bits .and .i64 a 1023 ≤ 1023 := by
  have h : (BitVec.ofInt 64 a &&& BitVec.ofInt 64 1023).toNat ≤ 1023 := by
    rw [BitVec.toNat_and]
    have : (BitVec.ofInt 64 1023).toNat = 1023 := by decide
    rw [this]
    exact Nat.and_le_right
  show 0 ≤ IntKind.i64.wrap ((BitVec.ofInt 64 a &&& BitVec.ofInt 64 1023).toNat : Int) ∧ IntKind.i64.wrap ((BitVec.ofInt 64 a &&& BitVec.ofInt 64 1023).toNat : Int) ≤ 1023
  generalize (BitVec.ofInt 64 a &&& BitVec.ofInt 64 1023).toNat = t at h ⊢
  have e : IntKind.i64.wrap (t : Int) = (t : Int) := by
    simp [IntKind.wrap, IntKind.bits, IntKind.signed]
    omega
  rw [e]
  omega
theorem many_has {a : Int} {n : Nat} (h : 0 ≤ a) : 0 ≤ a.tmod (2 * (n : Int) + 2) ∧ a.tmod (2 * (n : Int) + 2) ≤ 2 * (n : Int) + 1 := by
  have h1 := Int.tmod_nonneg (2 * (n : Int) + 2) h
  have h2 := Int.tmod_lt_of_pos a (show 0 < 2 * (n : Int) + 2 by omega)
  omega
end Go.Proofs.Ytfdihlicmmcjjaa.agf
