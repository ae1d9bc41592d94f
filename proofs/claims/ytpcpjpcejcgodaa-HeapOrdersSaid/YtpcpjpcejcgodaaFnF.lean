/- Plain functions: scores of floating point by their bits. -/
import Derived.PlainAid
import Derived.WalkKit
import Derived.Lib.Hide
import Derived.Laws.Bits64
import Derived.Laws.BitsAllLaws
import Derived.Laws.Cover2
import Derived.Laws.FloatArith
namespace Go.Proofs.Ytpcpjpcejcgodaa.fns
open Go

/-- the highest bit, and the bits of what is infinite, without it -/
theorem sw : Ieee.double.signWeight = 9223372036854775808 := by decide +kernel
theorem ir : Ieee.double.infRung = 9218868437227405312 := by decide +kernel
theorem bn : Ieee.double.binade = 4503599627370496 := by decide +kernel
def W64 (b : Nat) : Prop := b < 18446744073709551616
def isNan (b : Nat) : Bool := decide (9218868437227405312 < b % 9223372036854775808)
def odd (b : Nat) : Bool := decide (9218868437227405312 ≤ b % 9223372036854775808)
/-- the document's number that tells the order -/
def key (b : Nat) : Nat := if isNan b then 0 else if b = 9223372036854775808 then 9223372036854775808 else if 9223372036854775808 ≤ b then 18446744073709551615 - b else b + 9223372036854775808

/-- what a rung counts, in the least units -/
def vl (r : Nat) : Nat := if r < 4503599627370496 then r else (4503599627370496 + r % 4503599627370496) * 2 ^ (r / 4503599627370496 - 1)
theorem vl_step (r : Nat) : vl r < vl (r + 1) := by
  unfold vl
  by_cases h1 : r + 1 < 4503599627370496
  · rw [if_pos (by omega), if_pos h1]; omega
  · by_cases h2 : r < 4503599627370496
    · have e : r + 1 = 4503599627370496 := by omega
      rw [if_pos h2, if_neg h1, e, Nat.mod_self, Nat.div_self (by decide)]
      simp only [Nat.sub_self, Nat.pow_zero]; omega
    · rw [if_neg h2, if_neg h1]
      have hd : 0 < r / 4503599627370496 := Nat.div_pos (by omega) (by decide)
      by_cases h3 : r % 4503599627370496 + 1 < 4503599627370496
      · have e1 : (r + 1) / 4503599627370496 = r / 4503599627370496 := by omega
        have e2 : (r + 1) % 4503599627370496 = r % 4503599627370496 + 1 := by omega
        rw [e1, e2]
        have hp : 0 < 2 ^ (r / 4503599627370496 - 1) := Nat.two_pow_pos _
        exact Nat.mul_lt_mul_of_pos_right (by omega) hp
      · have e1 : (r + 1) / 4503599627370496 - 1 = r / 4503599627370496 - 1 + 1 := by omega
        have e2 : (r + 1) % 4503599627370496 = 0 := by omega
        have e3 : r % 4503599627370496 = 4503599627370496 - 1 := by omega
        rw [e1, e2, e3, Nat.pow_succ]
        have hp : 0 < 2 ^ (r / 4503599627370496 - 1) := Nat.two_pow_pos _
        generalize 2 ^ (r / 4503599627370496 - 1) = x at hp
        omega
theorem vl_lt {r s : Nat} (h : r < s) : vl r < vl s := by
  induction s with
  | zero => omega
  | succ s ih =>
    by_cases e : r = s
    · subst e; exact vl_step r
    · exact Nat.lt_trans (ih (by omega)) (vl_step s)
theorem vl_lt_iff {r s : Nat} : vl r < vl s ↔ r < s := by
  constructor
  · intro h
    rcases Nat.lt_trichotomy r s with h1 | h1 | h1
    · exact h1
    · subst h1; omega
    · have := vl_lt h1; omega
  · exact vl_lt
theorem vl_zero : vl 0 = 0 := by decide
theorem vl_pos {r : Nat} (h : 0 < r) : 0 < vl r := by have := vl_lt h; rw [vl_zero] at this; exact this

/-- a number's parts -/
def mg (r : Nat) : Nat := if r < 4503599627370496 then r else 4503599627370496 + r % 4503599627370496
def xp (r : Nat) : Nat := if r < 4503599627370496 then 0 else r / 4503599627370496 - 1
theorem vl_parts (r : Nat) : vl r = mg r * 2 ^ xp r := by
  unfold vl mg xp
  by_cases h : r < 4503599627370496 <;> simp [h]
def ng (b : Nat) : Bool := b / 9223372036854775808 % 2 == 1
def lp : Int := Ieee.double.leastPlace
theorem read_num {b : Nat} (h : b % 9223372036854775808 < 9218868437227405312) : Ieee.double.read b = .number (ng b) (mg (b % 9223372036854775808)) (lp + (xp (b % 9223372036854775808) : Nat)) := by
  unfold Ieee.Format.read
  rw [sw, ir, bn]
  dsimp only
  unfold mg xp
  by_cases h1 : b % 9223372036854775808 < 4503599627370496
  · rw [if_pos h1, if_pos h1, if_pos h1]; simp [ng, lp]
  · rw [if_neg h1, if_neg h1, if_neg h1, if_pos h]; simp [ng, lp]
theorem read_inf {b : Nat} (h : b % 9223372036854775808 = 9218868437227405312) : Ieee.double.read b = .infinity (ng b) := by
  unfold Ieee.Format.read
  rw [sw, ir, bn, h]
  dsimp only
  rw [if_neg (by decide), if_neg (by decide), if_pos rfl]; rfl
theorem read_nan {b : Nat} (h : 9218868437227405312 < b % 9223372036854775808) : Ieee.double.read b = .nan (ng b) (b % 9223372036854775808 - 9218868437227405312) := by
  unfold Ieee.Format.read
  rw [sw, ir, bn]
  dsimp only
  rw [if_neg (by have : 4503599627370496 < 9218868437227405312 := by decide
                 omega), if_neg (by omega), if_neg (by omega)]; rfl

/-- a number's worth, signed -/
def sv (n : Bool) (v : Nat) : Int := if n then -(v : Int) else v
theorem signed_sv (n : Bool) (m k : Nat) : Ieee.signed n m k = sv n (m * 2 ^ k) := by
  unfold Ieee.signed sv; rw [Nat.shiftLeft_eq]
theorem sv_mul (n : Bool) (v p : Nat) : sv n (v * p) = sv n v * p := by
  unfold sv; split <;> simp [Int.neg_mul]
theorem cmp_mul {a b : Int} {p : Nat} (h : 0 < p) : compare (a * p) (b * p) = compare a b := by
  have hp : (0 : Int) < p := by omega
  rcases Int.lt_trichotomy a b with h1 | h1 | h1
  · have := Int.mul_lt_mul_of_pos_right h1 hp
    simp only [compare, compareOfLessAndEq, this, h1, if_true]
  · subst h1; simp [compare, compareOfLessAndEq]
  · have := Int.mul_lt_mul_of_pos_right h1 hp
    simp only [compare, compareOfLessAndEq]
    rw [if_neg (by omega), if_neg (by omega), if_neg (by omega), if_neg (by omega)]
theorem order_num {s t : Bool} {r q : Nat} : Ieee.Datum.order (.number s (mg r) (lp + (xp r : Nat))) (.number t (mg q) (lp + (xp q : Nat))) = some (compare (sv s (vl r)) (sv t (vl q))) := by
  unfold Ieee.Datum.order
  dsimp only
  rw [signed_sv, signed_sv, vl_parts, vl_parts]
  congr 1
  by_cases h : xp r ≤ xp q
  · have e1 : (lp + (xp r : Int) - min (lp + (xp r : Int)) (lp + (xp q : Int))).toNat = 0 := by omega
    have e2 : (lp + (xp q : Int) - min (lp + (xp r : Int)) (lp + (xp q : Int))).toNat = xp q - xp r := by omega
    rw [e1, e2]
    have e3 : (2 : Nat) ^ xp q = 2 ^ (xp q - xp r) * 2 ^ xp r := by rw [← Nat.pow_add]; congr 1; omega
    rw [e3, ← Nat.mul_assoc, sv_mul t _ (2 ^ xp r), sv_mul s (mg r) (2 ^ xp r), cmp_mul (Nat.two_pow_pos _)]
    simp
  · have e1 : (lp + (xp r : Int) - min (lp + (xp r : Int)) (lp + (xp q : Int))).toNat = xp r - xp q := by omega
    have e2 : (lp + (xp q : Int) - min (lp + (xp r : Int)) (lp + (xp q : Int))).toNat = 0 := by omega
    rw [e1, e2]
    have e3 : (2 : Nat) ^ xp r = 2 ^ (xp r - xp q) * 2 ^ xp q := by rw [← Nat.pow_add]; congr 1; omega
    rw [e3, ← Nat.mul_assoc, sv_mul t _ (2 ^ xp q), sv_mul s _ (2 ^ xp q), cmp_mul (Nat.two_pow_pos _)]
    simp
theorem not_nan {b : Nat} (h : isNan b = false) : b % 9223372036854775808 ≤ 9218868437227405312 := by unfold isNan at h; simpa using h
theorem cL {a b : Int} (h : a < b) : compare a b = .lt := by simp only [compare, compareOfLessAndEq, h, if_true]
theorem cE {a b : Int} (h : a = b) : compare a b = .eq := by subst h; simp [compare, compareOfLessAndEq]
theorem cG {a b : Int} (h : b < a) : compare a b = .gt := by simp only [compare, compareOfLessAndEq]; rw [if_neg (by omega), if_neg (by omega)]
theorem order_inf_inf {s t : Bool} : Ieee.Datum.order (.infinity s) (.infinity t) = some (compare (sv s (vl 9218868437227405312)) (sv t (vl 9218868437227405312))) := by
  have hp : 0 < vl 9218868437227405312 := vl_pos (by decide)
  generalize vl 9218868437227405312 = x at hp
  cases s <;> cases t <;> first | (rw [cE rfl]; rfl) | (rw [cL (by simp only [sv, if_true, if_false, Bool.false_eq_true]; omega)]; rfl) | (rw [cG (by simp only [sv, if_true, if_false, Bool.false_eq_true]; omega)]; rfl)
theorem order_inf_num {s t : Bool} {q : Nat} (h : q < 9218868437227405312) : Ieee.Datum.order (.infinity s) (.number t (mg q) (lp + (xp q : Nat))) = some (compare (sv s (vl 9218868437227405312)) (sv t (vl q))) := by
  have hp := vl_lt h
  generalize vl 9218868437227405312 = x at hp
  generalize vl q = y at hp
  cases s <;> cases t <;> first | (rw [cE rfl]; rfl) | (rw [cL (by simp only [sv, if_true, if_false, Bool.false_eq_true]; omega)]; rfl) | (rw [cG (by simp only [sv, if_true, if_false, Bool.false_eq_true]; omega)]; rfl)
theorem order_num_inf {s t : Bool} {q : Nat} (h : q < 9218868437227405312) : Ieee.Datum.order (.number t (mg q) (lp + (xp q : Nat))) (.infinity s) = some (compare (sv t (vl q)) (sv s (vl 9218868437227405312))) := by
  have hp := vl_lt h
  generalize vl 9218868437227405312 = x at hp
  generalize vl q = y at hp
  cases s <;> cases t <;> first | (rw [cE rfl]; rfl) | (rw [cL (by simp only [sv, if_true, if_false, Bool.false_eq_true]; omega)]; rfl) | (rw [cG (by simp only [sv, if_true, if_false, Bool.false_eq_true]; omega)]; rfl)
/-- a score's worth, when it is a number -/
def wo (b : Nat) : Int := sv (ng b) (vl (b % 9223372036854775808))
theorem order_any {a b : Nat} (ha : isNan a = false) (hb : isNan b = false) : Ieee.double.order a b = some (compare (wo a) (wo b)) := by
  have h1 := not_nan ha
  have h2 := not_nan hb
  unfold Ieee.Format.order wo
  by_cases e1 : a % 9223372036854775808 = 9218868437227405312
  · rw [read_inf e1, e1]
    by_cases e2 : b % 9223372036854775808 = 9218868437227405312
    · rw [read_inf e2, e2]; exact order_inf_inf
    · rw [read_num (by omega)]; exact order_inf_num (by omega)
  · rw [read_num (b := a) (by omega)]
    by_cases e2 : b % 9223372036854775808 = 9218868437227405312
    · rw [read_inf e2, e2]; exact order_num_inf (by omega)
    · rw [read_num (b := b) (by omega)]; exact order_num
theorem order_nan {a b : Nat} (h : isNan a = true ∨ isNan b = true) : Ieee.double.order a b = none := by
  unfold Ieee.Format.order
  by_cases ha : isNan a = true
  · rw [read_nan (b := a) (by unfold isNan at ha; simpa using ha)]; rfl
  · have hb : isNan b = true := by rcases h with h | h <;> simp_all
    rw [read_nan (b := b) (by unfold isNan at hb; simpa using hb)]
    cases Ieee.double.read a <;> rfl
theorem key_nan {b : Nat} (h : isNan b = true) : key b = 0 := by unfold key; rw [if_pos h]
theorem key_ge {b : Nat} (hn : isNan b = false) (hb : W64 b) : key b = if 9223372036854775808 ≤ b then (if b = 9223372036854775808 then 9223372036854775808 else 18446744073709551615 - b) else b + 9223372036854775808 := by
  unfold key; rw [if_neg (by simp [hn])]
  by_cases h : b = 9223372036854775808
  · subst h; simp
  · rw [if_neg h]; by_cases h2 : 9223372036854775808 ≤ b <;> simp [h2, h]
theorem key_pos {b : Nat} (h : isNan b = false) (hb : W64 b) : 0 < key b := by
  have h1 := not_nan h
  rw [key_ge h hb]
  unfold W64 at hb
  split
  · split <;> omega
  · omega
theorem wo_lt {a b : Nat} (ha : isNan a = false) (hb : isNan b = false) (wa : W64 a) (wb : W64 b) : wo a < wo b ↔ key a < key b := by
  rw [key_ge ha wa, key_ge hb wb]
  unfold W64 at wa wb
  unfold wo sv ng
  by_cases h1 : 9223372036854775808 ≤ a
  · have e1 : (a / 9223372036854775808 % 2 == 1) = true := by rw [show a / 9223372036854775808 = 1 by omega]; rfl
    rw [if_pos h1, if_pos e1]
    by_cases h2 : 9223372036854775808 ≤ b
    · have e2 : (b / 9223372036854775808 % 2 == 1) = true := by rw [show b / 9223372036854775808 = 1 by omega]; rfl
      rw [if_pos h2, if_pos e2]
      have := @vl_lt_iff (b % 9223372036854775808) (a % 9223372036854775808)
      constructor
      · intro h
        have h3 : b % 9223372036854775808 < a % 9223372036854775808 := this.1 (by omega)
        split <;> split <;> omega
      · intro h
        have h3 : b % 9223372036854775808 < a % 9223372036854775808 := by split at h <;> split at h <;> omega
        have := this.2 h3
        omega
    · have e2 : ¬ (b / 9223372036854775808 % 2 == 1) = true := by rw [show b / 9223372036854775808 = 0 by omega]; decide
      rw [if_neg h2, if_neg e2]
      by_cases h3 : a = 9223372036854775808
      · rw [if_pos h3, show a % 9223372036854775808 = 0 by omega, vl_zero]
        by_cases h4 : b = 0
        · rw [h4]; simp [vl_zero]
        · have := vl_pos (r := b % 9223372036854775808) (by omega)
          constructor <;> intro _ <;> omega
      · have := vl_pos (r := a % 9223372036854775808) (by omega)
        rw [if_neg h3]
        constructor <;> intro _ <;> omega
  · have e1 : ¬ (a / 9223372036854775808 % 2 == 1) = true := by rw [show a / 9223372036854775808 = 0 by omega]; decide
    rw [if_neg h1, if_neg e1]
    by_cases h2 : 9223372036854775808 ≤ b
    · have e2 : (b / 9223372036854775808 % 2 == 1) = true := by rw [show b / 9223372036854775808 = 1 by omega]; rfl
      rw [if_pos h2, if_pos e2]
      constructor
      · intro h; omega
      · intro h; split at h <;> omega
    · have e2 : ¬ (b / 9223372036854775808 % 2 == 1) = true := by rw [show b / 9223372036854775808 = 0 by omega]; decide
      rw [if_neg h2, if_neg e2]
      have := @vl_lt_iff (a % 9223372036854775808) (b % 9223372036854775808)
      constructor
      · intro h
        have h3 := this.1 (by omega)
        omega
      · intro h
        have := this.2 (by omega)
        omega
theorem cmp_lt (a b : Int) : (compare a b == Ordering.lt) = decide (a < b) := by
  simp only [compare, compareOfLessAndEq]
  by_cases h : a < b
  · simp [h]
  · by_cases h2 : a = b
    · simp [h2]
    · simp [h, h2]
theorem cmp_gt (a b : Int) : (compare a b == Ordering.gt) = decide (b < a) := by
  simp only [compare, compareOfLessAndEq]
  by_cases h : a < b
  · simp [h]; omega
  · by_cases h2 : a = b
    · simp [h2]
    · simp [h, h2]; omega
theorem cmp_eq (a b : Int) : (compare a b == Ordering.eq) = decide (a = b) := by
  simp only [compare, compareOfLessAndEq]
  by_cases h : a < b
  · simp [h]; omega
  · by_cases h2 : a = b
    · simp [h2]
    · simp [h, h2]
/-- the walk's comparisons, by the document's numbers -/
theorem eqv {a b : Nat} (ha : isNan a = false) (hb : isNan b = false) (wa : W64 a) (wb : W64 b) : wo a = wo b ↔ key a = key b := by
  have h1 := wo_lt ha hb wa wb
  have h2 := wo_lt hb ha wb wa
  omega
theorem f_lss {a b : Nat} (wa : W64 a) (wb : W64 b) : (FloatKind.f64.format.order a b == some .lt) = (!isNan a && !isNan b && decide (key a < key b)) := by
  show (Ieee.double.order a b == some .lt) = _
  cases ha : isNan a
  · cases hb : isNan b
    · rw [order_any ha hb]
      show (compare (wo a) (wo b) == Ordering.lt) = _
      rw [cmp_lt]
      simp [wo_lt ha hb wa wb]
    · rw [order_nan (.inr hb)]; rfl
  · rw [order_nan (.inl ha)]; rfl
theorem f_gtr {a b : Nat} (wa : W64 a) (wb : W64 b) : (FloatKind.f64.format.order a b == some .gt) = (!isNan a && !isNan b && decide (key b < key a)) := by
  show (Ieee.double.order a b == some .gt) = _
  cases ha : isNan a
  · cases hb : isNan b
    · rw [order_any ha hb]
      show (compare (wo a) (wo b) == Ordering.gt) = _
      rw [cmp_gt]
      simp [wo_lt hb ha wb wa]
    · rw [order_nan (.inr hb)]; rfl
  · rw [order_nan (.inl ha)]; rfl
theorem f_eql {a b : Nat} (wa : W64 a) (wb : W64 b) : (FloatKind.f64.format.order a b == some .eq) = (!isNan a && !isNan b && decide (key a = key b)) := by
  show (Ieee.double.order a b == some .eq) = _
  cases ha : isNan a
  · cases hb : isNan b
    · rw [order_any ha hb]
      show (compare (wo a) (wo b) == Ordering.eq) = _
      rw [cmp_eq]
      simp [eqv ha hb wa wb]
    · rw [order_nan (.inr hb)]; rfl
  · rw [order_nan (.inl ha)]; rfl
/-- what is not itself is no number -/
theorem f_self (a : Nat) : (FloatKind.f64.format.order a a != some .eq) = isNan a := by
  show (Ieee.double.order a a != some .eq) = _
  cases ha : isNan a
  · rw [order_any ha ha]
    show (!(compare (wo a) (wo a) == Ordering.eq)) = _
    rw [cmp_eq]; simp
  · rw [order_nan (.inl ha)]; rfl
theorem less_key {a b : Nat} (wb : W64 b) : (if isNan a then !isNan b else !isNan a && !isNan b && decide (key a < key b)) = decide (key a < key b) := by
  cases ha : isNan a
  · cases hb : isNan b
    · simp
    · have := key_nan hb; simp [this]
  · have h1 := key_nan ha
    cases hb : isNan b
    · have := key_pos hb wb; simp [h1, this]
    · have := key_nan hb; simp [h1, this]
/-- the highest bit, as the walk asks for it -/
theorem and_hi {b : Nat} (h : W64 b) : bits .and .u64 (b : Int) 9223372036854775808 = ((b / 9223372036854775808 * 9223372036854775808 : Nat) : Int) := by
  unfold W64 at h
  have := u64_and_nat b 9223372036854775808 h (by omega)
  rw [show ((9223372036854775808 : Nat) : Int) = 9223372036854775808 by rfl] at this
  rw [this]
  congr 1
  rw [show (9223372036854775808 : Nat) = 2 ^ 63 by rfl]
  apply Nat.eq_of_testBit_eq
  intro i
  rw [Nat.testBit_and, Nat.testBit_two_pow]
  have h2 : b / 2 ^ 63 = 0 ∨ b / 2 ^ 63 = 1 := by omega
  by_cases e : 63 = i
  · subst e
    rw [Nat.testBit_eq_decide_div_mod_eq]
    rcases h2 with h2 | h2 <;> rw [h2] <;> decide
  · rcases h2 with h2 | h2
    · rw [h2]; simp [e]
    · rw [h2, Nat.one_mul, Nat.testBit_two_pow]; simp [e]
theorem hi_yes {b : Nat} (h : W64 b) (h1 : 9223372036854775808 ≤ b) : (bits .and .u64 (b : Int) 9223372036854775808 != 0) = true := by
  rw [and_hi h]; unfold W64 at h; rw [show b / 9223372036854775808 = 1 by omega]; rfl
theorem hi_no {b : Nat} (h : W64 b) (h1 : b < 9223372036854775808) : (bits .and .u64 (b : Int) 9223372036854775808 != 0) = false := by
  rw [and_hi h, show b / 9223372036854775808 = 0 by omega]; rfl
theorem u64_turn {b : Nat} (h : W64 b) : bits .xor .u64 IntKind.u64.max (b : Int) = ((18446744073709551615 - b : Nat) : Int) := by
  unfold W64 at h
  show IntKind.u64.wrap ((BitVec.ofInt 64 IntKind.u64.max ^^^ BitVec.ofInt 64 (b : Int)).toNat : Int) = _
  have h1 : BitVec.ofInt 64 IntKind.u64.max = BitVec.allOnes 64 := by decide
  rw [h1, BitVec.allOnes_xor, BitVec.toNat_not, ofInt_u64 b (by omega), IntKind.wrap_u64]
  omega
theorem or_hi {b : Nat} (h : b < 9223372036854775808) : bits .or .u64 (b : Int) 9223372036854775808 = ((b + 9223372036854775808 : Nat) : Int) := by
  have := u64_or_nat b 9223372036854775808 (by omega) (by omega)
  rw [show ((9223372036854775808 : Nat) : Int) = 9223372036854775808 by rfl] at this
  rw [this, Nat.or_comm, nat_join 63 9223372036854775808 b (by decide) (by omega), Nat.add_comm]
theorem clear_hi {b : Nat} (h : W64 b) : bits .andNot .u64 (b : Int) 9223372036854775808 = ((b % 9223372036854775808 : Nat) : Int) := by
  unfold W64 at h
  have := u64_andNot_nat b 9223372036854775808 h (by omega)
  rw [show ((9223372036854775808 : Nat) : Int) = 9223372036854775808 by rfl] at this
  rw [this, show (18446744073709551615 - 9223372036854775808 : Nat) = 2 ^ 63 - 1 by decide, Nat.and_two_pow_sub_one_eq_mod]
theorem key_zero : key 0 = 9223372036854775808 := by decide
theorem eq_zero {b : Nat} (hn : isNan b = false) (hb : W64 b) : (FloatKind.f64.format.order b 0 == some .eq) = decide (b = 0 ∨ b = 9223372036854775808) := by
  have hm := not_nan hn
  rw [f_eql hb (by unfold W64; omega), hn, show isNan 0 = false by decide, key_zero, key_ge hn hb]
  unfold W64 at hb
  simp only [Bool.not_false, Bool.true_and]
  congr 1
  apply propext
  split
  · split <;> omega
  · omega
/-- what is infinite, when it is a number -/
theorem big_of {b : Nat} (hn : isNan b = false) : (FloatKind.f64.format.order (b % 9223372036854775808) 9218868437227405311 == some .gt) = odd b := by
  have hm := not_nan hn
  have h1 : isNan (b % 9223372036854775808) = false := by unfold isNan; simp; omega
  have h2 : W64 (b % 9223372036854775808) := by unfold W64; omega
  rw [f_gtr h2 (by unfold W64; omega), h1, show isNan 9218868437227405311 = false by decide, show key 9218868437227405311 = 18442240474082181119 by decide, key_ge h1 h2, if_neg (by omega)]
  unfold odd
  simp only [Bool.not_false, Bool.true_and]
  congr 1
  apply propext
  omega
theorem odd_nan {b : Nat} (h : isNan b = true) : odd b = true := by unfold isNan odd at *; simp at *; omega
/-- bits, those of one of all that are no numbers -/
def plain (b : Nat) : Nat := if isNan b then 9221120237041090561 else b
theorem plain_yes {b : Nat} (h : isNan b = true) : plain b = 9221120237041090561 := by unfold plain; rw [if_pos h]
theorem plain_no {b : Nat} (h : isNan b = false) : plain b = b := by unfold plain; rw [if_neg (by simp [h])]
theorem isNan_cast (b : Nat) : decide ((9218868437227405312 : Int) < (b : Int) % 9223372036854775808) = isNan b := by
  unfold isNan; congr 1; apply propext; omega
theorem odd_cast (b : Nat) : decide ((9218868437227405312 : Int) ≤ (b : Int) % 9223372036854775808) = odd b := by
  unfold odd; congr 1; apply propext; omega
/-- a sum that is no number has such bits, whatever they are -/
theorem run_nan {P : Program} (op : BinOp) (hop : op = .add ∨ op = .mul) (t : TypeId) (x y : Nat) (w : World) (h : floatBits op .f64 x y = none) :
    ∃ q, isNan q = true ∧ W64 q ∧ (binOp op t (.float .f64 x) (.float .f64 y)).run P w = .ok (.float .f64 q) w.drew := by
  refine ⟨(Question.nanBits .f64 x y).cut (w.tape w.drawn (.nanBits .f64 x y)), ?_, ?_, ?_⟩
  · simp only [Question.cut]
    have h1 := Nat.mod_lt (w.tape w.drawn (.nanBits .f64 x y)) (show 0 < 2 by decide)
    have h2 := Nat.mod_lt (w.tape w.drawn (.nanBits .f64 x y) / 2) (show 0 < 2 ^ 52 - 1 by decide)
    generalize w.tape w.drawn (.nanBits .f64 x y) % 2 = a at h1
    generalize w.tape w.drawn (.nanBits .f64 x y) / 2 % (2 ^ 52 - 1) = c at h2
    unfold isNan
    simp only [decide_eq_true_eq]
    omega
  · simp only [Question.cut]
    have h1 := Nat.mod_lt (w.tape w.drawn (.nanBits .f64 x y)) (show 0 < 2 by decide)
    have h2 := Nat.mod_lt (w.tape w.drawn (.nanBits .f64 x y) / 2) (show 0 < 2 ^ 52 - 1 by decide)
    generalize w.tape w.drawn (.nanBits .f64 x y) % 2 = a at h1
    generalize w.tape w.drawn (.nanBits .f64 x y) / 2 % (2 ^ 52 - 1) = c at h2
    unfold W64
    omega
  · unfold floatBits at h
    rcases hop with rfl | rfl <;> simp only at h <;> simp [binOp, Op.floatArith, h, Question.forced] <;> rfl
/-- 1e-100 times a score -/
def shr (b : Nat) : Nat := if odd b then 0 else (floatBits .mul .f64 b 3110860544497550640).getD 0
theorem mul_fin {b : Nat} (h : odd b = false) : floatBits .mul .f64 b 3110860544497550640 = some (shr b) := by
  unfold shr
  rw [if_neg (by simp [h])]
  have h1 : b % 9223372036854775808 < 9218868437227405312 := by unfold odd at h; simpa using h
  unfold floatBits
  show Ieee.double.mul b 3110860544497550640 = some ((Ieee.double.mul b 3110860544497550640).getD 0)
  obtain ⟨d, hd⟩ : ∃ d, Ieee.double.mul b 3110860544497550640 = some d := by
    unfold Ieee.Format.mul
    rw [read_num h1, read_num (b := 3110860544497550640) (by decide)]
    exact ⟨_, rfl⟩
  rw [hd]; rfl
theorem shr_odd {b : Nat} (h : odd b = true) : shr b = 0 := by unfold shr; rw [if_pos h]
theorem shr_w {b : Nat} : W64 (shr b) := by
  cases h : odd b
  · have := floatBits_wf (mul_fin h)
    simp only [Lit.wf, decide_eq_true_eq] at this
    exact this
  · rw [shr_odd h]; unfold W64; omega
theorem mul_inf {b : Nat} (h : odd b = true) (hn : isNan b = false) : ∃ r, floatBits .mul .f64 b 3110860544497550640 = some r := by
  have h1 := not_nan hn
  have h2 : b % 9223372036854775808 = 9218868437227405312 := by unfold odd at h; simp at h; omega
  unfold floatBits
  show ∃ r, Ieee.double.mul b 3110860544497550640 = some r
  unfold Ieee.Format.mul
  rw [read_inf h2, read_num (b := 3110860544497550640) (by decide)]
  generalize lp + (xp (3110860544497550640 % 9223372036854775808) : Nat) = e
  rw [show mg (3110860544497550640 % 9223372036854775808) = 7880401239278896 by decide +kernel]
  exact ⟨_, rfl⟩
theorem mul_nan {b : Nat} (hn : isNan b = true) : floatBits .mul .f64 b 3110860544497550640 = none := by
  unfold floatBits
  show Ieee.double.mul b 3110860544497550640 = none
  unfold Ieee.Format.mul
  rw [read_nan (by unfold isNan at hn; simpa using hn)]
  rfl
end Go.Proofs.Ytpcpjpcejcgodaa.fns
