/- Plain functions: 64 values at once. -/
import Derived.Test.YtoacedadfjoneaaFnT
import Derived.Laws.BitsAllLaws
import Derived.Laws.ShiftsVarLaws
namespace Go.Proofs.Ytoacedadfjoneaa.fns
open Go

def In64 (x : Int) : Prop := 0 ≤ x ∧ x < 18446744073709551616
def bitB (x : Int) (i : Nat) : Bool := x.toNat.testBit i
def tBit (p q : Bool) : Int := if p && !q then 1 else if q && !p then 0 else 2
def tAt (o z i : Int) : Int := if 0 ≤ i ∧ i < 64 then tBit (bitB o i.toNat) (bitB z i.toNat) else 2

theorem in_and {a b : Int} (ha : In64 a) (hb : In64 b) : In64 (bits .and .u64 a b) := by
  rw [u64_and a b ha.1 ha.2 hb.1 hb.2]
  obtain ⟨h1, h2⟩ := ha
  have : a.toNat &&& b.toNat ≤ a.toNat := Nat.and_le_left
  exact ⟨by omega, by omega⟩
theorem in_or {a b : Int} (ha : In64 a) (hb : In64 b) : In64 (bits .or .u64 a b) := by
  rw [u64_or a b ha.1 ha.2 hb.1 hb.2]
  obtain ⟨h1, h2⟩ := ha
  obtain ⟨h3, h4⟩ := hb
  have : a.toNat ||| b.toNat < 2 ^ 64 := Nat.or_lt_two_pow (by omega) (by omega)
  exact ⟨by omega, by omega⟩
theorem in_andNot {a b : Int} (ha : In64 a) (hb : In64 b) : In64 (bits .andNot .u64 a b) := by
  rw [u64_andNot a b ha.1 ha.2 hb.1 hb.2]
  obtain ⟨h1, h2⟩ := ha
  have : a.toNat &&& (18446744073709551615 - b.toNat) ≤ a.toNat := Nat.and_le_left
  exact ⟨by omega, by omega⟩
theorem bit_and {a b : Int} (ha : In64 a) (hb : In64 b) (i : Nat) : bitB (bits .and .u64 a b) i = (bitB a i && bitB b i) := by
  unfold bitB
  rw [u64_and a b ha.1 ha.2 hb.1 hb.2, Int.toNat_natCast, Nat.testBit_and]
theorem bit_or {a b : Int} (ha : In64 a) (hb : In64 b) (i : Nat) : bitB (bits .or .u64 a b) i = (bitB a i || bitB b i) := by
  unfold bitB
  rw [u64_or a b ha.1 ha.2 hb.1 hb.2, Int.toNat_natCast, Nat.testBit_or]
theorem bit_high {a : Int} (ha : In64 a) {i : Nat} (hi : 64 ≤ i) : bitB a i = false := by
  unfold bitB
  obtain ⟨h1, h2⟩ := ha
  exact Nat.testBit_lt_two_pow (Nat.lt_of_lt_of_le (show a.toNat < 2 ^ 64 by omega) (Nat.pow_le_pow_right (by decide) hi))
theorem bit_andNot {a b : Int} (ha : In64 a) (hb : In64 b) (i : Nat) : bitB (bits .andNot .u64 a b) i = (bitB a i && !bitB b i) := by
  by_cases hi : i < 64
  · unfold bitB
    rw [u64_andNot a b ha.1 ha.2 hb.1 hb.2, Int.toNat_natCast, Nat.testBit_and]
    have h := Nat.testBit_two_pow_sub_succ (n := 64) (x := b.toNat) (by obtain ⟨h1, h2⟩ := hb; omega) i
    rw [show (2 : Nat) ^ 64 - (b.toNat + 1) = 18446744073709551615 - b.toNat by omega] at h
    rw [h]; simp [hi]
  · rw [bit_high (in_andNot ha hb) (by omega), bit_high ha (by omega), Bool.false_and]
theorem eq_zero_of {a : Int} (ha : In64 a) (h : ∀ i, bitB a i = false) : a = 0 := by
  have : a.toNat = 0 := Nat.eq_of_testBit_eq fun i => by rw [Nat.zero_testBit]; exact h i
  obtain ⟨h1, h2⟩ := ha
  omega
theorem bit_div (x : Int) (i : Nat) (hx : 0 ≤ x) : bitB x i = decide (x / 2 ^ i % 2 = 1) := by
  unfold bitB
  obtain ⟨n, rfl⟩ := Int.eq_ofNat_of_zero_le hx
  rw [Int.toNat_natCast, Nat.testBit_eq_decide_div_mod_eq]
  have : ((n : Int) / 2 ^ i % 2) = ((n / 2 ^ i % 2 : Nat) : Int) := by simp
  rw [this]
  congr 1
  rw [eq_iff_iff]
  omega

/-- what the words' calls answer -/
def cO (o z : Int) : Int := bits .andNot .u64 o z
def aO (o z p q : Int) : Int := bits .and .u64 (cO o z) (cO p q)
def aZ (o z p q : Int) : Int := bits .or .u64 (cO z o) (cO q p)
def allO (v : Int) : Int := if v = 1 then 18446744073709551615 else 0
def allZ (v : Int) : Int := if v = 0 then 18446744073709551615 else 0
theorem in_cO {o z : Int} (ho : In64 o) (hz : In64 z) : In64 (cO o z) := in_andNot ho hz
theorem in_aO {o z p q : Int} (ho : In64 o) (hz : In64 z) (hp : In64 p) (hq : In64 q) : In64 (aO o z p q) := in_and (in_cO ho hz) (in_cO hp hq)
theorem in_aZ {o z p q : Int} (ho : In64 o) (hz : In64 z) (hp : In64 p) (hq : In64 q) : In64 (aZ o z p q) := in_or (in_cO hz ho) (in_cO hq hp)
theorem in_allO (v : Int) : In64 (allO v) := by unfold allO In64; split <;> decide
theorem in_allZ (v : Int) : In64 (allZ v) := by unfold allZ In64; split <;> decide
theorem at_in {o z i : Int} (h0 : 0 ≤ i) (h1 : i < 64) : tAt o z i = tBit (bitB o i.toNat) (bitB z i.toNat) := by unfold tAt; rw [if_pos ⟨h0, h1⟩]
theorem at_out {o z i : Int} (h : ¬ (0 ≤ i ∧ i < 64)) : tAt o z i = 2 := by unfold tAt; rw [if_neg h]
theorem at_and {o z p q : Int} (ho : In64 o) (hz : In64 z) (hp : In64 p) (hq : In64 q) (i : Int) : tAt (aO o z p q) (aZ o z p q) i = tAnd (tAt o z i) (tAt p q i) := by
  by_cases h : 0 ≤ i ∧ i < 64
  · rw [at_in h.1 h.2, at_in h.1 h.2, at_in h.1 h.2]
    unfold aO aZ cO
    rw [bit_and (in_andNot ho hz) (in_andNot hp hq), bit_or (in_andNot hz ho) (in_andNot hq hp), bit_andNot ho hz, bit_andNot hp hq, bit_andNot hz ho, bit_andNot hq hp]
    cases bitB o i.toNat <;> cases bitB z i.toNat <;> cases bitB p i.toNat <;> cases bitB q i.toNat <;> rfl
  · rw [at_out h, at_out h, at_out h]; rfl
theorem at_not {o z : Int} (ho : In64 o) (hz : In64 z) (i : Int) : tAt (cO z o) (cO o z) i = tNot (tAt o z i) := by
  by_cases h : 0 ≤ i ∧ i < 64
  · rw [at_in h.1 h.2, at_in h.1 h.2]
    unfold cO
    rw [bit_andNot ho hz, bit_andNot hz ho]
    cases bitB o i.toNat <;> cases bitB z i.toNat <;> rfl
  · rw [at_out h, at_out h]; rfl
theorem apart_and {o z p q : Int} (ho : In64 o) (hz : In64 z) (hp : In64 p) (hq : In64 q) : bits .and .u64 (aO o z p q) (aZ o z p q) = 0 := by
  refine eq_zero_of (in_and (in_aO ho hz hp hq) (in_aZ ho hz hp hq)) fun i => ?_
  rw [bit_and (in_aO ho hz hp hq) (in_aZ ho hz hp hq)]
  unfold aO aZ cO
  rw [bit_and (in_andNot ho hz) (in_andNot hp hq), bit_or (in_andNot hz ho) (in_andNot hq hp), bit_andNot ho hz, bit_andNot hp hq, bit_andNot hz ho, bit_andNot hq hp]
  cases bitB o i <;> cases bitB z i <;> cases bitB p i <;> cases bitB q i <;> rfl
theorem apart_not {o z : Int} (ho : In64 o) (hz : In64 z) : bits .and .u64 (cO z o) (cO o z) = 0 := by
  refine eq_zero_of (in_and (in_cO hz ho) (in_cO ho hz)) fun i => ?_
  rw [bit_and (in_cO hz ho) (in_cO ho hz)]
  unfold cO
  rw [bit_andNot ho hz, bit_andNot hz ho]
  cases bitB o i <;> cases bitB z i <;> rfl
theorem apart_all (v : Int) : bits .and .u64 (allO v) (allZ v) = 0 := by
  refine eq_zero_of (in_and (in_allO v) (in_allZ v)) fun i => ?_
  rw [bit_and (in_allO v) (in_allZ v)]
  unfold allO allZ bitB
  by_cases h : v = 0
  · subst h; simp
  · simp [h]
theorem bit_all (i : Nat) (h : i < 64) : bitB 18446744073709551615 i = true := by
  have h2 := Nat.testBit_two_pow_sub_succ (n := 64) (x := 0) (by decide) i
  unfold bitB
  rw [show (18446744073709551615 : Int).toNat = 2 ^ 64 - (0 + 1) from rfl, h2]
  simp [h]
def tWant (v i : Int) : Int := if (v = 0 ∨ v = 1) ∧ 0 ≤ i ∧ i < 64 then v else 2
theorem at_all (v i : Int) : tAt (allO v) (allZ v) i = tWant v i := by
  by_cases h : 0 ≤ i ∧ i < 64
  · rw [at_in h.1 h.2]
    unfold tWant
    have hb := bit_all i.toNat (by omega)
    have hz : bitB 0 i.toNat = false := by unfold bitB; simp
    by_cases h0 : v = 0
    · subst h0; rw [if_pos ⟨.inl rfl, h⟩]; unfold allO allZ; simp [hb, hz]; rfl
    · by_cases h1 : v = 1
      · subst h1; rw [if_pos ⟨.inr rfl, h⟩]; unfold allO allZ; simp [hb, hz]; rfl
      · rw [if_neg (by omega)]; unfold allO allZ; rw [if_neg h1, if_neg h0, hz]; rfl
  · rw [at_out h]; unfold tWant; rw [if_neg (fun g => h g.2)]
theorem at_cases (o z i : Int) : tAt o z i = 0 ∨ tAt o z i = 1 ∨ tAt o z i = 2 := by
  unfold tAt tBit
  split
  · split
    · exact .inr (.inl rfl)
    · split
      · exact .inl rfl
      · exact .inr (.inr rfl)
  · exact .inr (.inr rfl)
end Go.Proofs.Ytoacedadfjoneaa.fns
