/- Plain functions: numbers that look as if drawn. -/
import Derived.PlainAid
import Derived.WalkKit
import Derived.Lib.Hide
import Derived.Laws.Bits64
import Derived.Laws.BitsAllLaws
import Derived.Laws.ShiftsVarLaws
namespace Go.Proofs.Ytpagcphebokkmaa.fns
open Go

def In64 (x : Int) : Prop := 0 ≤ x ∧ x < 18446744073709551616
def xr (a b : Int) : Int := bits .xor .u64 a b
/-- the state behind one, and what a state tells -/
def nxt (s : Int) : Int := IntKind.u64.wrap (s + 11400714819323198485)
def mixA (z : Int) : Int := IntKind.u64.wrap (xr z (z / 1073741824) * 13787848793156543929)
def mixB (z : Int) : Int := IntKind.u64.wrap (xr z (z / 134217728) * 10723151780598845931)
def mixC (z : Int) : Int := xr z (z / 2147483648)
def out (z : Int) : Int := mixC (mixB (mixA z))
theorem in_wrap (x : Int) : In64 (IntKind.u64.wrap x) := by rw [IntKind.wrap_u64]; unfold In64; omega
theorem wrap_in {x : Int} (h : In64 x) : IntKind.u64.wrap x = x := by rw [IntKind.wrap_u64]; unfold In64 at h; omega
theorem in_nxt (s : Int) : In64 (nxt s) := in_wrap _
theorem in_xr {a b : Int} (ha : In64 a) (hb : In64 b) : In64 (xr a b) := by
  unfold xr
  rw [u64_xor a b ha.1 ha.2 hb.1 hb.2]
  obtain ⟨h1, h2⟩ := ha
  obtain ⟨h3, h4⟩ := hb
  have : a.toNat ^^^ b.toNat < 2 ^ 64 := Nat.xor_lt_two_pow (by omega) (by omega)
  exact ⟨by omega, by omega⟩
theorem in_div {a : Int} (c : Nat) (ha : In64 a) : In64 (a / c) := by
  obtain ⟨h1, h2⟩ := ha
  have : a / (c : Int) ≤ a := Int.ediv_le_self _ h1
  exact ⟨Int.ediv_nonneg h1 (by omega), by omega⟩
theorem in_out (z : Int) : In64 (out z) := in_xr (in_wrap _) (in_div 2147483648 (in_wrap _))
theorem nat_or_and (a b : Nat) (ha : a < 2 ^ 64) (hb : b < 2 ^ 64) : a ||| b = (a ^^^ b) + (a &&& b) := by
  have h := BitVec.add_eq_or_of_and_eq_zero (w := 65) (BitVec.ofNat 65 (a ^^^ b)) (BitVec.ofNat 65 (a &&& b)) (by
    apply BitVec.eq_of_getLsbD_eq
    intro i hi
    simp only [BitVec.getLsbD_and, BitVec.getLsbD_ofNat, Nat.testBit_xor, Nat.testBit_and]
    cases a.testBit i <;> cases b.testBit i <;> simp)
  have h2 := congrArg BitVec.toNat h
  have h3 : a ^^^ b < 2 ^ 64 := Nat.xor_lt_two_pow ha hb
  have h4 : a &&& b < 2 ^ 64 := Nat.lt_of_le_of_lt Nat.and_le_left ha
  rw [BitVec.toNat_add, BitVec.toNat_or, BitVec.toNat_ofNat, BitVec.toNat_ofNat] at h2
  rw [Nat.mod_eq_of_lt (a := a ^^^ b) (by omega), Nat.mod_eq_of_lt (a := a &&& b) (by omega), Nat.mod_eq_of_lt (by omega)] at h2
  rw [h2]
  apply Nat.eq_of_testBit_eq
  intro i
  simp only [Nat.testBit_or, Nat.testBit_xor, Nat.testBit_and]
  cases a.testBit i <;> cases b.testBit i <;> rfl
/-- the document's 'apart' -/
theorem apart_xr {a b : Int} (ha : In64 a) (hb : In64 b) : IntKind.u64.wrap (bits .or .u64 a b - bits .and .u64 a b) = xr a b := by
  unfold xr
  rw [u64_xor a b ha.1 ha.2 hb.1 hb.2, u64_or a b ha.1 ha.2 hb.1 hb.2, u64_and a b ha.1 ha.2 hb.1 hb.2]
  obtain ⟨h1, h2⟩ := ha
  obtain ⟨h3, h4⟩ := hb
  have := nat_or_and a.toNat b.toNat (by omega) (by omega)
  have h5 : a.toNat ^^^ b.toNat < 2 ^ 64 := Nat.xor_lt_two_pow (by omega) (by omega)
  rw [IntKind.wrap_u64, this]
  omega
theorem quo_in {a : Int} {c : Nat} (ha : In64 a) : IntKind.u64.wrap (a.tdiv (c : Int)) = a / (c : Int) := by
  rw [Int.tdiv_eq_ediv_of_nonneg ha.1]; exact wrap_in (in_div c ha)
theorem out_zero : out (nxt 0) = 16294208416658607535 := by decide +kernel

/-- a number below n -/
def blw (z : Int) (n : Int) : Int := z % n
theorem rem_in {z n : Int} (hz : In64 z) (h1 : 1 ≤ n) (h2 : n ≤ 9223372036854775807) : RowKit.wrap64 (z.tmod n) = blw z n ∧ 0 ≤ blw z n ∧ blw z n < n := by
  rw [Int.tmod_eq_emod_of_nonneg hz.1]
  have a1 : 0 ≤ z % n := Int.emod_nonneg _ (by omega)
  have a2 : z % n < n := Int.emod_lt_of_pos _ (by omega)
  unfold blw
  refine ⟨?_, a1, a2⟩
  unfold RowKit.wrap64
  omega
def oddB (z : Int) : Bool := z.tmod 2 == 1
end Go.Proofs.Ytpagcphebokkmaa.fns
