/- Plain functions: a number by digits of seven bits. -/
import Derived.Test.YtjmiclgagjkooaaDoorFn
import Derived.Lib.Bytes
import Derived.Lib.UnsafeStr
namespace Go.Proofs.YtjmiclgagjkooaaDoor.fns
open Go.PlainAid

/-- a number by digits of seven bits, at most f behind the first -/
def numL : Nat → Nat → List UInt8
  | 0, n => [UInt8.ofNat n]
  | f + 1, n => if n < 128 then [UInt8.ofNat n] else UInt8.ofNat (n % 128 + 128) :: numL f (n / 128)
def numS (n : Nat) : ByteArray := ⟨(numL 4 n).toArray⟩
theorem numL_small {f n : Nat} (h : n < 128) : numL f n = [UInt8.ofNat n] := by
  cases f with
  | zero => rfl
  | succ f => simp [numL, h]
theorem numL_great {f n : Nat} (h : 128 ≤ n) : numL (f + 1) n = UInt8.ofNat (n % 128 + 128) :: numL f (n / 128) := by
  simp only [numL]; rw [if_neg (by omega)]
theorem numL_len (f : Nat) : ∀ n, (numL f n).length ≤ f + 1 := by
  induction f with
  | zero => intro n; simp [numL]
  | succ f ih =>
    intro n
    by_cases h : n < 128
    · rw [numL_small h]; simp
    · rw [numL_great (by omega)]; have := ih (n / 128); simp; omega
theorem u8_nat {k : Nat} (h : k < 256) : ((UInt8.ofNat k).toNat : Int) = k := by
  rw [UInt8.toNat_ofNat']; omega

theorem cells_snoc (l : List UInt8) {k : Nat} {z : Int} (h : k < 256) (hz : z = k) : Lib.byteCells l ++ [Value.int .u8 z] = Lib.byteCells (l ++ [UInt8.ofNat k]) := by
  rw [Lib.byteCells_append, hz]
  simp only [Lib.byteCells, List.map_cons, List.map_nil]
  rw [u8_nat h]

end Go.Proofs.YtjmiclgagjkooaaDoor.fns
