import Derived.PlainAid
import Derived.WalkKit
import Derived.Lib.Hide
import Derived.Laws.Bits64
import Derived.Laws.BitsAllLaws
import Derived.Laws.Cover2
import Derived.Laws.FloatArith
import Derived.Test.YtbpjflghkkkenaaProg
import Derived.Handy
import Derived.Outline
import Derived.OwnWalk
import Derived.Below
import Derived.WalkSmall
import Derived.ProofKit
import Derived.OpenShut
import Derived.ChangeOld
import Derived.Lib.OwnBridge
import Derived.Laws.AppendOwnNone
import Derived.Deep.QuietTactic
import Derived.BigQuiet
/- Plain functions: scores of floating point by their bits. -/
namespace Go.Proofs.Ytbpjflghkkkenaa.fns
open Go

/-- the highest bit, and the bits of what is infinite, without it -/
theorem sw : Ieee.double.signWeight = 9223372036854775808 := by decide +kernel
theorem ir : Ieee.double.infRung = 9218868437227405312 := by decide +kernel
theorem bn : Ieee.double.binade = 4503599627370496 := by decide +kernel
def W64 (b : Nat) : Prop := b < 18446744073709551616
def isNan (b : Nat) : Bool := decide (9218868437227405312 < b % 9223372036854775808)
def odd (b : Nat) : Bool := decide (9218868437227405312 ≤ b % 9223372036854775808)
/-- the document's number that tells the order -/
def key (b : Nat) : Nat := if isNan b then 0 else if b = 9223372036854775808 then 9223372036854775808 else if 9223372036854775808 ≤ b then 18446744073709551615 - b else b + 9223372036854775808

/-- what a rung counts, in the least units -/
def vl (r : Nat) : Nat := if r < 4503599627370496 then r else (4503599627370496 + r % 4503599627370496) * 2 ^ (r / 4503599627370496 - 1)
theorem vl_step (r : Nat) : vl r < vl (r + 1) := by
  unfold vl
  by_cases h1 : r + 1 < 4503599627370496
  · rw [if_pos (by omega), if_pos h1]; omega
  · by_cases h2 : r < 4503599627370496
    · have e : r + 1 = 4503599627370496 := by omega
      rw [if_pos h2, if_neg h1, e, Nat.mod_self, Nat.div_self (by decide)]
      simp only [Nat.sub_self, Nat.pow_zero]; omega
    · rw [if_neg h2, if_neg h1]
      have hd : 0 < r / 4503599627370496 := Nat.div_pos (by omega) (by decide)
      by_cases h3 : r % 4503599627370496 + 1 < 4503599627370496
      · have e1 : (r + 1) / 4503599627370496 = r / 4503599627370496 := by omega
        have e2 : (r + 1) % 4503599627370496 = r % 4503599627370496 + 1 := by omega
        rw [e1, e2]
        have hp : 0 < 2 ^ (r / 4503599627370496 - 1) := Nat.two_pow_pos _
        exact Nat.mul_lt_mul_of_pos_right (by omega) hp
      · have e1 : (r + 1) / 4503599627370496 - 1 = r / 4503599627370496 - 1 + 1 := by omega
        have e2 : (r + 1) % 4503599627370496 = 0 := by omega
        have e3 : r % 4503599627370496 = 4503599627370496 - 1 := by omega
        rw [e1, e2, e3, Nat.pow_succ]
        have hp : 0 < 2 ^ (r / 4503599627370496 - 1) := Nat.two_pow_pos _
        generalize 2 ^ (r / 4503599627370496 - 1) = x at hp
        omega
theorem vl_lt {r s : Nat} (h : r < s) : vl r < vl s := by
  induction s with
  | zero => omega
  | succ s ih =>
    by_cases e : r = s
    · subst e; exact vl_step r
    · exact Nat.lt_trans (ih (by omega)) (vl_step s)
theorem vl_lt_iff {r s : Nat} : vl r < vl s ↔ r < s := by
  constructor
  · intro h
    rcases Nat.lt_trichotomy r s with h1 | h1 | h1
    · exact h1
    · subst h1; omega
    · have := vl_lt h1; omega
  · exact vl_lt
theorem vl_zero : vl 0 = 0 := by decide
theorem vl_pos {r : Nat} (h : 0 < r) : 0 < vl r := by have := vl_lt h; rw [vl_zero] at this; exact this

/-- a number's parts -/
def mg (r : Nat) : Nat := if r < 4503599627370496 then r else 4503599627370496 + r % 4503599627370496
def xp (r : Nat) : Nat := if r < 4503599627370496 then 0 else r / 4503599627370496 - 1
theorem vl_parts (r : Nat) : vl r = mg r * 2 ^ xp r := by
  unfold vl mg xp
  by_cases h : r < 4503599627370496 <;> simp [h]
def ng (b : Nat) : Bool := b / 9223372036854775808 % 2 == 1
def lp : Int := Ieee.double.leastPlace
theorem read_num {b : Nat} (h : b % 9223372036854775808 < 9218868437227405312) : Ieee.double.read b = .number (ng b) (mg (b % 9223372036854775808)) (lp + (xp (b % 9223372036854775808) : Nat)) := by
  unfold Ieee.Format.read
  rw [sw, ir, bn]
  dsimp only
  unfold mg xp
  by_cases h1 : b % 9223372036854775808 < 4503599627370496
  · rw [if_pos h1, if_pos h1, if_pos h1]; simp [ng, lp]
  · rw [if_neg h1, if_neg h1, if_neg h1, if_pos h]; simp [ng, lp]
theorem read_inf {b : Nat} (h : b % 9223372036854775808 = 9218868437227405312) : Ieee.double.read b = .infinity (ng b) := by
  unfold Ieee.Format.read
  rw [sw, ir, bn, h]
  dsimp only
  rw [if_neg (by decide), if_neg (by decide), if_pos rfl]; rfl
theorem read_nan {b : Nat} (h : 9218868437227405312 < b % 9223372036854775808) : Ieee.double.read b = .nan (ng b) (b % 9223372036854775808 - 9218868437227405312) := by
  unfold Ieee.Format.read
  rw [sw, ir, bn]
  dsimp only
  rw [if_neg (by have : 4503599627370496 < 9218868437227405312 := by decide
                 omega), if_neg (by omega), if_neg (by omega)]; rfl

/-- a number's worth, signed -/
def sv (n : Bool) (v : Nat) : Int := if n then -(v : Int) else v
theorem signed_sv (n : Bool) (m k : Nat) : Ieee.signed n m k = sv n (m * 2 ^ k) := by
  unfold Ieee.signed sv; rw [Nat.shiftLeft_eq]
theorem sv_mul (n : Bool) (v p : Nat) : sv n (v * p) = sv n v * p := by
  unfold sv; split <;> simp [Int.neg_mul]
theorem cmp_mul {a b : Int} {p : Nat} (h : 0 < p) : compare (a * p) (b * p) = compare a b := by
  have hp : (0 : Int) < p := by omega
  rcases Int.lt_trichotomy a b with h1 | h1 | h1
  · have := Int.mul_lt_mul_of_pos_right h1 hp
    simp only [compare, compareOfLessAndEq, this, h1, if_true]
  · subst h1; simp [compare, compareOfLessAndEq]
  · have := Int.mul_lt_mul_of_pos_right h1 hp
    simp only [compare, compareOfLessAndEq]
    rw [if_neg (by omega), if_neg (by omega), if_neg (by omega), if_neg (by omega)]
theorem order_num {s t : Bool} {r q : Nat} : Ieee.Datum.order (.number s (mg r) (lp + (xp r : Nat))) (.number t (mg q) (lp + (xp q : Nat))) = some (compare (sv s (vl r)) (sv t (vl q))) := by
  unfold Ieee.Datum.order
  dsimp only
  rw [signed_sv, signed_sv, vl_parts, vl_parts]
  congr 1
  by_cases h : xp r ≤ xp q
  · have e1 : (lp + (xp r : Int) - min (lp + (xp r : Int)) (lp + (xp q : Int))).toNat = 0 := by omega
    have e2 : (lp + (xp q : Int) - min (lp + (xp r : Int)) (lp + (xp q : Int))).toNat = xp q - xp r := by omega
    rw [e1, e2]
    have e3 : (2 : Nat) ^ xp q = 2 ^ (xp q - xp r) * 2 ^ xp r := by rw [← Nat.pow_add]; congr 1; omega
    rw [e3, ← Nat.mul_assoc, sv_mul t _ (2 ^ xp r), sv_mul s (mg r) (2 ^ xp r), cmp_mul (Nat.two_pow_pos _)]
    simp
  · have e1 : (lp + (xp r : Int) - min (lp + (xp r : Int)) (lp + (xp q : Int))).toNat = xp r - xp q := by omega
    have e2 : (lp + (xp q : Int) - min (lp + (xp r : Int)) (lp + (xp q : Int))).toNat = 0 := by omega
    rw [e1, e2]
    have e3 : (2 : Nat) ^ xp r = 2 ^ (xp r - xp q) * 2 ^ xp q := by rw [← Nat.pow_add]; congr 1; omega
    rw [e3, ← Nat.mul_assoc, sv_mul t _ (2 ^ xp q), sv_mul s _ (2 ^ xp q), cmp_mul (Nat.two_pow_pos _)]
    simp
theorem not_nan {b : Nat} (h : isNan b = false) : b % 9223372036854775808 ≤ 9218868437227405312 := by unfold isNan at h; simpa using h
theorem cL {a b : Int} (h : a < b) : compare a b = .lt := by simp only [compare, compareOfLessAndEq, h, if_true]
theorem cE {a b : Int} (h : a = b) : compare a b = .eq := by subst h; simp [compare, compareOfLessAndEq]
theorem cG {a b : Int} (h : b < a) : compare a b = .gt := by simp only [compare, compareOfLessAndEq]; rw [if_neg (by omega), if_neg (by omega)]
theorem order_inf_inf {s t : Bool} : Ieee.Datum.order (.infinity s) (.infinity t) = some (compare (sv s (vl 9218868437227405312)) (sv t (vl 9218868437227405312))) := by
  have hp : 0 < vl 9218868437227405312 := vl_pos (by decide)
  generalize vl 9218868437227405312 = x at hp
  cases s <;> cases t <;> first | (rw [cE rfl]; rfl) | (rw [cL (by simp only [sv, if_true, if_false, Bool.false_eq_true]; omega)]; rfl) | (rw [cG (by simp only [sv, if_true, if_false, Bool.false_eq_true]; omega)]; rfl)
theorem order_inf_num {s t : Bool} {q : Nat} (h : q < 9218868437227405312) : Ieee.Datum.order (.infinity s) (.number t (mg q) (lp + (xp q : Nat))) = some (compare (sv s (vl 9218868437227405312)) (sv t (vl q))) := by
  have hp := vl_lt h
  generalize vl 9218868437227405312 = x at hp
  generalize vl q = y at hp
  cases s <;> cases t <;> first | (rw [cE rfl]; rfl) | (rw [cL (by simp only [sv, if_true, if_false, Bool.false_eq_true]; omega)]; rfl) | (rw [cG (by simp only [sv, if_true, if_false, Bool.false_eq_true]; omega)]; rfl)
theorem order_num_inf {s t : Bool} {q : Nat} (h : q < 9218868437227405312) : Ieee.Datum.order (.number t (mg q) (lp + (xp q : Nat))) (.infinity s) = some (compare (sv t (vl q)) (sv s (vl 9218868437227405312))) := by
  have hp := vl_lt h
  generalize vl 9218868437227405312 = x at hp
  generalize vl q = y at hp
  cases s <;> cases t <;> first | (rw [cE rfl]; rfl) | (rw [cL (by simp only [sv, if_true, if_false, Bool.false_eq_true]; omega)]; rfl) | (rw [cG (by simp only [sv, if_true, if_false, Bool.false_eq_true]; omega)]; rfl)
/-- a score's worth, when it is a number -/
def wo (b : Nat) : Int := sv (ng b) (vl (b % 9223372036854775808))
theorem order_any {a b : Nat} (ha : isNan a = false) (hb : isNan b = false) : Ieee.double.order a b = some (compare (wo a) (wo b)) := by
  have h1 := not_nan ha
  have h2 := not_nan hb
  unfold Ieee.Format.order wo
  by_cases e1 : a % 9223372036854775808 = 9218868437227405312
  · rw [read_inf e1, e1]
    by_cases e2 : b % 9223372036854775808 = 9218868437227405312
    · rw [read_inf e2, e2]; exact order_inf_inf
    · rw [read_num (by omega)]; exact order_inf_num (by omega)
  · rw [read_num (b := a) (by omega)]
    by_cases e2 : b % 9223372036854775808 = 9218868437227405312
    · rw [read_inf e2, e2]; exact order_num_inf (by omega)
    · rw [read_num (b := b) (by omega)]; exact order_num
theorem order_nan {a b : Nat} (h : isNan a = true ∨ isNan b = true) : Ieee.double.order a b = none := by
  unfold Ieee.Format.order
  by_cases ha : isNan a = true
  · rw [read_nan (b := a) (by unfold isNan at ha; simpa using ha)]; rfl
  · have hb : isNan b = true := by rcases h with h | h <;> simp_all
    rw [read_nan (b := b) (by unfold isNan at hb; simpa using hb)]
    cases Ieee.double.read a <;> rfl
theorem key_nan {b : Nat} (h : isNan b = true) : key b = 0 := by unfold key; rw [if_pos h]
theorem key_ge {b : Nat} (hn : isNan b = false) (hb : W64 b) : key b = if 9223372036854775808 ≤ b then (if b = 9223372036854775808 then 9223372036854775808 else 18446744073709551615 - b) else b + 9223372036854775808 := by
  unfold key; rw [if_neg (by simp [hn])]
  by_cases h : b = 9223372036854775808
  · subst h; simp
  · rw [if_neg h]; by_cases h2 : 9223372036854775808 ≤ b <;> simp [h2, h]
theorem key_pos {b : Nat} (h : isNan b = false) (hb : W64 b) : 0 < key b := by
  have h1 := not_nan h
  rw [key_ge h hb]
  unfold W64 at hb
  split
  · split <;> omega
  · omega
theorem wo_lt {a b : Nat} (ha : isNan a = false) (hb : isNan b = false) (wa : W64 a) (wb : W64 b) : wo a < wo b ↔ key a < key b := by
  rw [key_ge ha wa, key_ge hb wb]
  unfold W64 at wa wb
  unfold wo sv ng
  by_cases h1 : 9223372036854775808 ≤ a
  · have e1 : (a / 9223372036854775808 % 2 == 1) = true := by rw [show a / 9223372036854775808 = 1 by omega]; rfl
    rw [if_pos h1, if_pos e1]
    by_cases h2 : 9223372036854775808 ≤ b
    · have e2 : (b / 9223372036854775808 % 2 == 1) = true := by rw [show b / 9223372036854775808 = 1 by omega]; rfl
      rw [if_pos h2, if_pos e2]
      have := @vl_lt_iff (b % 9223372036854775808) (a % 9223372036854775808)
      constructor
      · intro h
        have h3 : b % 9223372036854775808 < a % 9223372036854775808 := this.1 (by omega)
        split <;> split <;> omega
      · intro h
        have h3 : b % 9223372036854775808 < a % 9223372036854775808 := by split at h <;> split at h <;> omega
        have := this.2 h3
        omega
    · have e2 : ¬ (b / 9223372036854775808 % 2 == 1) = true := by rw [show b / 9223372036854775808 = 0 by omega]; decide
      rw [if_neg h2, if_neg e2]
      by_cases h3 : a = 9223372036854775808
      · rw [if_pos h3, show a % 9223372036854775808 = 0 by omega, vl_zero]
        by_cases h4 : b = 0
        · rw [h4]; simp [vl_zero]
        · have := vl_pos (r := b % 9223372036854775808) (by omega)
          constructor <;> intro _ <;> omega
      · have := vl_pos (r := a % 9223372036854775808) (by omega)
        rw [if_neg h3]
        constructor <;> intro _ <;> omega
  · have e1 : ¬ (a / 9223372036854775808 % 2 == 1) = true := by rw [show a / 9223372036854775808 = 0 by omega]; decide
    rw [if_neg h1, if_neg e1]
    by_cases h2 : 9223372036854775808 ≤ b
    · have e2 : (b / 9223372036854775808 % 2 == 1) = true := by rw [show b / 9223372036854775808 = 1 by omega]; rfl
      rw [if_pos h2, if_pos e2]
      constructor
      · intro h; omega
      · intro h; split at h <;> omega
    · have e2 : ¬ (b / 9223372036854775808 % 2 == 1) = true := by rw [show b / 9223372036854775808 = 0 by omega]; decide
      rw [if_neg h2, if_neg e2]
      have := @vl_lt_iff (a % 9223372036854775808) (b % 9223372036854775808)
      constructor
      · intro h
        have h3 := this.1 (by omega)
        omega
      · intro h
        have := this.2 (by omega)
        omega
theorem cmp_lt (a b : Int) : (compare a b == Ordering.lt) = decide (a < b) := by
  simp only [compare, compareOfLessAndEq]
  by_cases h : a < b
  · simp [h]
  · by_cases h2 : a = b
    · simp [h2]
    · simp [h, h2]
theorem cmp_gt (a b : Int) : (compare a b == Ordering.gt) = decide (b < a) := by
  simp only [compare, compareOfLessAndEq]
  by_cases h : a < b
  · simp [h]; omega
  · by_cases h2 : a = b
    · simp [h2]
    · simp [h, h2]; omega
theorem cmp_eq (a b : Int) : (compare a b == Ordering.eq) = decide (a = b) := by
  simp only [compare, compareOfLessAndEq]
  by_cases h : a < b
  · simp [h]; omega
  · by_cases h2 : a = b
    · simp [h2]
    · simp [h, h2]
/-- the walk's comparisons, by the document's numbers -/
theorem eqv {a b : Nat} (ha : isNan a = false) (hb : isNan b = false) (wa : W64 a) (wb : W64 b) : wo a = wo b ↔ key a = key b := by
  have h1 := wo_lt ha hb wa wb
  have h2 := wo_lt hb ha wb wa
  omega
theorem f_lss {a b : Nat} (wa : W64 a) (wb : W64 b) : (FloatKind.f64.format.order a b == some .lt) = (!isNan a && !isNan b && decide (key a < key b)) := by
  show (Ieee.double.order a b == some .lt) = _
  cases ha : isNan a
  · cases hb : isNan b
    · rw [order_any ha hb]
      show (compare (wo a) (wo b) == Ordering.lt) = _
      rw [cmp_lt]
      simp [wo_lt ha hb wa wb]
    · rw [order_nan (.inr hb)]; rfl
  · rw [order_nan (.inl ha)]; rfl
theorem f_gtr {a b : Nat} (wa : W64 a) (wb : W64 b) : (FloatKind.f64.format.order a b == some .gt) = (!isNan a && !isNan b && decide (key b < key a)) := by
  show (Ieee.double.order a b == some .gt) = _
  cases ha : isNan a
  · cases hb : isNan b
    · rw [order_any ha hb]
      show (compare (wo a) (wo b) == Ordering.gt) = _
      rw [cmp_gt]
      simp [wo_lt hb ha wb wa]
    · rw [order_nan (.inr hb)]; rfl
  · rw [order_nan (.inl ha)]; rfl
theorem f_eql {a b : Nat} (wa : W64 a) (wb : W64 b) : (FloatKind.f64.format.order a b == some .eq) = (!isNan a && !isNan b && decide (key a = key b)) := by
  show (Ieee.double.order a b == some .eq) = _
  cases ha : isNan a
  · cases hb : isNan b
    · rw [order_any ha hb]
      show (compare (wo a) (wo b) == Ordering.eq) = _
      rw [cmp_eq]
      simp [eqv ha hb wa wb]
    · rw [order_nan (.inr hb)]; rfl
  · rw [order_nan (.inl ha)]; rfl
/-- what is not itself is no number -/
theorem f_self (a : Nat) : (FloatKind.f64.format.order a a != some .eq) = isNan a := by
  show (Ieee.double.order a a != some .eq) = _
  cases ha : isNan a
  · rw [order_any ha ha]
    show (!(compare (wo a) (wo a) == Ordering.eq)) = _
    rw [cmp_eq]; simp
  · rw [order_nan (.inl ha)]; rfl
theorem less_key {a b : Nat} (wb : W64 b) : (if isNan a then !isNan b else !isNan a && !isNan b && decide (key a < key b)) = decide (key a < key b) := by
  cases ha : isNan a
  · cases hb : isNan b
    · simp
    · have := key_nan hb; simp [this]
  · have h1 := key_nan ha
    cases hb : isNan b
    · have := key_pos hb wb; simp [h1, this]
    · have := key_nan hb; simp [h1, this]
/-- the highest bit, as the walk asks for it -/
theorem and_hi {b : Nat} (h : W64 b) : bits .and .u64 (b : Int) 9223372036854775808 = ((b / 9223372036854775808 * 9223372036854775808 : Nat) : Int) := by
  unfold W64 at h
  have := u64_and_nat b 9223372036854775808 h (by omega)
  rw [show ((9223372036854775808 : Nat) : Int) = 9223372036854775808 by rfl] at this
  rw [this]
  congr 1
  rw [show (9223372036854775808 : Nat) = 2 ^ 63 by rfl]
  apply Nat.eq_of_testBit_eq
  intro i
  rw [Nat.testBit_and, Nat.testBit_two_pow]
  have h2 : b / 2 ^ 63 = 0 ∨ b / 2 ^ 63 = 1 := by omega
  by_cases e : 63 = i
  · subst e
    rw [Nat.testBit_eq_decide_div_mod_eq]
    rcases h2 with h2 | h2 <;> rw [h2] <;> decide
  · rcases h2 with h2 | h2
    · rw [h2]; simp [e]
    · rw [h2, Nat.one_mul, Nat.testBit_two_pow]; simp [e]
theorem hi_yes {b : Nat} (h : W64 b) (h1 : 9223372036854775808 ≤ b) : (bits .and .u64 (b : Int) 9223372036854775808 != 0) = true := by
  rw [and_hi h]; unfold W64 at h; rw [show b / 9223372036854775808 = 1 by omega]; rfl
theorem hi_no {b : Nat} (h : W64 b) (h1 : b < 9223372036854775808) : (bits .and .u64 (b : Int) 9223372036854775808 != 0) = false := by
  rw [and_hi h, show b / 9223372036854775808 = 0 by omega]; rfl
theorem u64_turn {b : Nat} (h : W64 b) : bits .xor .u64 IntKind.u64.max (b : Int) = ((18446744073709551615 - b : Nat) : Int) := by
  unfold W64 at h
  show IntKind.u64.wrap ((BitVec.ofInt 64 IntKind.u64.max ^^^ BitVec.ofInt 64 (b : Int)).toNat : Int) = _
  have h1 : BitVec.ofInt 64 IntKind.u64.max = BitVec.allOnes 64 := by decide
  rw [h1, BitVec.allOnes_xor, BitVec.toNat_not, ofInt_u64 b (by omega), IntKind.wrap_u64]
  omega
theorem or_hi {b : Nat} (h : b < 9223372036854775808) : bits .or .u64 (b : Int) 9223372036854775808 = ((b + 9223372036854775808 : Nat) : Int) := by
  have := u64_or_nat b 9223372036854775808 (by omega) (by omega)
  rw [show ((9223372036854775808 : Nat) : Int) = 9223372036854775808 by rfl] at this
  rw [this, Nat.or_comm, nat_join 63 9223372036854775808 b (by decide) (by omega), Nat.add_comm]
theorem clear_hi {b : Nat} (h : W64 b) : bits .andNot .u64 (b : Int) 9223372036854775808 = ((b % 9223372036854775808 : Nat) : Int) := by
  unfold W64 at h
  have := u64_andNot_nat b 9223372036854775808 h (by omega)
  rw [show ((9223372036854775808 : Nat) : Int) = 9223372036854775808 by rfl] at this
  rw [this, show (18446744073709551615 - 9223372036854775808 : Nat) = 2 ^ 63 - 1 by decide, Nat.and_two_pow_sub_one_eq_mod]
theorem key_zero : key 0 = 9223372036854775808 := by decide
theorem eq_zero {b : Nat} (hn : isNan b = false) (hb : W64 b) : (FloatKind.f64.format.order b 0 == some .eq) = decide (b = 0 ∨ b = 9223372036854775808) := by
  have hm := not_nan hn
  rw [f_eql hb (by unfold W64; omega), hn, show isNan 0 = false by decide, key_zero, key_ge hn hb]
  unfold W64 at hb
  simp only [Bool.not_false, Bool.true_and]
  congr 1
  apply propext
  split
  · split <;> omega
  · omega
/-- what is infinite, when it is a number -/
theorem big_of {b : Nat} (hn : isNan b = false) : (FloatKind.f64.format.order (b % 9223372036854775808) 9218868437227405311 == some .gt) = odd b := by
  have hm := not_nan hn
  have h1 : isNan (b % 9223372036854775808) = false := by unfold isNan; simp; omega
  have h2 : W64 (b % 9223372036854775808) := by unfold W64; omega
  rw [f_gtr h2 (by unfold W64; omega), h1, show isNan 9218868437227405311 = false by decide, show key 9218868437227405311 = 18442240474082181119 by decide, key_ge h1 h2, if_neg (by omega)]
  unfold odd
  simp only [Bool.not_false, Bool.true_and]
  congr 1
  apply propext
  omega
theorem odd_nan {b : Nat} (h : isNan b = true) : odd b = true := by unfold isNan odd at *; simp at *; omega
/-- bits, those of one of all that are no numbers -/
def plain (b : Nat) : Nat := if isNan b then 9221120237041090561 else b
theorem plain_yes {b : Nat} (h : isNan b = true) : plain b = 9221120237041090561 := by unfold plain; rw [if_pos h]
theorem plain_no {b : Nat} (h : isNan b = false) : plain b = b := by unfold plain; rw [if_neg (by simp [h])]
theorem isNan_cast (b : Nat) : decide ((9218868437227405312 : Int) < (b : Int) % 9223372036854775808) = isNan b := by
  unfold isNan; congr 1; apply propext; omega
theorem odd_cast (b : Nat) : decide ((9218868437227405312 : Int) ≤ (b : Int) % 9223372036854775808) = odd b := by
  unfold odd; congr 1; apply propext; omega
/-- a sum that is no number has such bits, whatever they are -/
theorem run_nan {P : Program} (op : BinOp) (hop : op = .add ∨ op = .mul) (t : TypeId) (x y : Nat) (w : World) (h : floatBits op .f64 x y = none) :
    ∃ q, isNan q = true ∧ W64 q ∧ (binOp op t (.float .f64 x) (.float .f64 y)).run P w = .ok (.float .f64 q) w.drew := by
  refine ⟨(Question.nanBits .f64 x y).cut (w.tape w.drawn (.nanBits .f64 x y)), ?_, ?_, ?_⟩
  · simp only [Question.cut]
    have h1 := Nat.mod_lt (w.tape w.drawn (.nanBits .f64 x y)) (show 0 < 2 by decide)
    have h2 := Nat.mod_lt (w.tape w.drawn (.nanBits .f64 x y) / 2) (show 0 < 2 ^ 52 - 1 by decide)
    generalize w.tape w.drawn (.nanBits .f64 x y) % 2 = a at h1
    generalize w.tape w.drawn (.nanBits .f64 x y) / 2 % (2 ^ 52 - 1) = c at h2
    unfold isNan
    simp only [decide_eq_true_eq]
    omega
  · simp only [Question.cut]
    have h1 := Nat.mod_lt (w.tape w.drawn (.nanBits .f64 x y)) (show 0 < 2 by decide)
    have h2 := Nat.mod_lt (w.tape w.drawn (.nanBits .f64 x y) / 2) (show 0 < 2 ^ 52 - 1 by decide)
    generalize w.tape w.drawn (.nanBits .f64 x y) % 2 = a at h1
    generalize w.tape w.drawn (.nanBits .f64 x y) / 2 % (2 ^ 52 - 1) = c at h2
    unfold W64
    omega
  · unfold floatBits at h
    rcases hop with rfl | rfl <;> simp only at h <;> simp [binOp, Op.floatArith, h, Question.forced] <;> rfl
/-- 1e-100 times a score -/
def shr (b : Nat) : Nat := if odd b then 0 else (floatBits .mul .f64 b 3110860544497550640).getD 0
theorem mul_fin {b : Nat} (h : odd b = false) : floatBits .mul .f64 b 3110860544497550640 = some (shr b) := by
  unfold shr
  rw [if_neg (by simp [h])]
  have h1 : b % 9223372036854775808 < 9218868437227405312 := by unfold odd at h; simpa using h
  unfold floatBits
  show Ieee.double.mul b 3110860544497550640 = some ((Ieee.double.mul b 3110860544497550640).getD 0)
  obtain ⟨d, hd⟩ : ∃ d, Ieee.double.mul b 3110860544497550640 = some d := by
    unfold Ieee.Format.mul
    rw [read_num h1, read_num (b := 3110860544497550640) (by decide)]
    exact ⟨_, rfl⟩
  rw [hd]; rfl
theorem shr_odd {b : Nat} (h : odd b = true) : shr b = 0 := by unfold shr; rw [if_pos h]
theorem shr_w {b : Nat} : W64 (shr b) := by
  cases h : odd b
  · have := floatBits_wf (mul_fin h)
    simp only [Lit.wf, decide_eq_true_eq] at this
    exact this
  · rw [shr_odd h]; unfold W64; omega
theorem mul_inf {b : Nat} (h : odd b = true) (hn : isNan b = false) : ∃ r, floatBits .mul .f64 b 3110860544497550640 = some r := by
  have h1 := not_nan hn
  have h2 : b % 9223372036854775808 = 9218868437227405312 := by unfold odd at h; simp at h; omega
  unfold floatBits
  show ∃ r, Ieee.double.mul b 3110860544497550640 = some r
  unfold Ieee.Format.mul
  rw [read_inf h2, read_num (b := 3110860544497550640) (by decide)]
  generalize lp + (xp (3110860544497550640 % 9223372036854775808) : Nat) = e
  rw [show mg (3110860544497550640 % 9223372036854775808) = 7880401239278896 by decide +kernel]
  exact ⟨_, rfl⟩
theorem mul_nan {b : Nat} (hn : isNan b = true) : floatBits .mul .f64 b 3110860544497550640 = none := by
  unfold floatBits
  show Ieee.double.mul b 3110860544497550640 = none
  unfold Ieee.Format.mul
  rw [read_nan (by unfold isNan at hn; simpa using hn)]
  rfl
end Go.Proofs.Ytbpjflghkkkenaa.fns

/- Heaps, purely: how things rank, the order of a tree, and what a swap does to it. -/
namespace Go.Proofs.Ytbpjflghkkkenaa.hpf
open Go.Proofs.Ytbpjflghkkkenaa.fns

/-- every edge of the tree but those at p is in order, and so are p's children with what is above p -/
def Hole (m : Nat) (v : Nat → Nat) (p : Nat) : Prop :=
  (∀ i, 0 < i → i < m → i ≠ p → (i - 1) / 2 ≠ p → v ((i - 1) / 2) ≤ v i) ∧ (∀ i, 0 < i → i < m → (i - 1) / 2 = p → 0 < p → v ((p - 1) / 2) ≤ v i)
def Low (m : Nat) (v : Nat → Nat) (p : Nat) : Prop := ∀ i, 0 < i → i < m → (i - 1) / 2 = p → v p ≤ v i
def Up (v : Nat → Nat) (p : Nat) : Prop := 0 < p → v ((p - 1) / 2) ≤ v p
def Full (m : Nat) (v : Nat → Nat) : Prop := ∀ i, 0 < i → i < m → v ((i - 1) / 2) ≤ v i
/-- two places in each other's place -/
def sw (v : Nat → Nat) (a b : Nat) (i : Nat) : Nat := if i = a then v b else if i = b then v a else v i
theorem sw_l (v : Nat → Nat) (a b : Nat) : sw v a b a = v b := by unfold sw; rw [if_pos rfl]
theorem sw_r (v : Nat → Nat) (a b : Nat) : sw v a b b = v a := by
  unfold sw; by_cases h : b = a
  · rw [if_pos h, h]
  · rw [if_neg h, if_pos rfl]
theorem sw_o (v : Nat → Nat) {a b i : Nat} (h1 : i ≠ a) (h2 : i ≠ b) : sw v a b i = v i := by unfold sw; rw [if_neg h1, if_neg h2]

theorem full_of {m : Nat} {v : Nat → Nat} {p : Nat} (h1 : Hole m v p) (h2 : Low m v p) (h3 : Up v p) : Full m v := by
  intro i h0 hm
  by_cases e : i = p
  · subst e; exact h3 h0
  · by_cases e2 : (i - 1) / 2 = p
    · rw [e2]; exact h2 i h0 hm e2
    · exact h1.1 i h0 hm e e2
theorem hole_of {m : Nat} {v v' : Nat → Nat} {p : Nat} (hp : p < m) (h : Full m v) (he : ∀ i, i ≠ p → v' i = v i) : Hole m v' p := by
  refine ⟨fun i h0 hm e e2 => ?_, fun i h0 hm e hp0 => ?_⟩
  · rw [he i e, he _ e2]; exact h i h0 hm
  · rw [he i (by omega), he _ (by omega)]
    have a := h i h0 hm
    have b := h p hp0 hp
    rw [e] at a
    omega
theorem full_more {m : Nat} {v : Nat → Nat} (h : Full m v) : Hole (m + 1) v m ∧ Low (m + 1) v m :=
  ⟨⟨fun i h0 hm e _ => h i h0 (by omega), fun i h0 hm e hp => by omega⟩, fun i h0 hm e => by omega⟩
theorem full_one {m : Nat} (v : Nat → Nat) (h : m ≤ 1) : Full m v := fun i h0 hm => by omega
theorem full_min {m : Nat} {v : Nat → Nat} (h : Full m v) : ∀ k i, i ≤ k → i < m → v 0 ≤ v i := by
  intro k
  induction k with
  | zero => intro i hi _; rw [show i = 0 by omega]; exact Nat.le_refl _
  | succ k ih =>
    intro i hi hm
    by_cases e : i = 0
    · subst e; exact Nat.le_refl _
    · have a := ih ((i - 1) / 2) (by omega) (by omega)
      have b := h i (by omega) hm
      omega
theorem rise_step {m : Nat} {v : Nat → Nat} {p : Nat} (h0 : 0 < p) (hp : p < m) (hl : v p < v ((p - 1) / 2)) (h : Hole m v p) :
    Hole m (sw v p ((p - 1) / 2)) ((p - 1) / 2) ∧ Low m (sw v p ((p - 1) / 2)) ((p - 1) / 2) := by
  obtain ⟨q, hq⟩ : ∃ q, q = (p - 1) / 2 := ⟨_, rfl⟩
  rw [← hq] at hl ⊢
  obtain ⟨h1, h2⟩ := h
  refine ⟨⟨fun i i0 hm e e2 => ?_, fun i i0 hm e q0 => ?_⟩, fun i i0 hm e => ?_⟩
  · have n1 : i ≠ p := by intro x; subst x; omega
    rw [sw_o v n1 e]
    by_cases x : (i - 1) / 2 = p
    · rw [x, sw_l]
      have := h2 i i0 hm x h0
      rw [← hq] at this
      exact this
    · rw [sw_o v x e2]; exact h1 i i0 hm n1 x
  · have n1 : (q - 1) / 2 ≠ p := by omega
    have n2 : (q - 1) / 2 ≠ q := by omega
    have a := h1 q q0 (by omega) (by omega) n1
    rw [sw_o v n1 n2]
    by_cases x : i = p
    · subst x; rw [sw_l]; exact a
    · have b := h1 i i0 hm x (by omega)
      rw [sw_o v x (by omega)]
      rw [e] at b
      omega
  · rw [sw_r]
    by_cases x : i = p
    · subst x; rw [sw_l]; omega
    · have b := h1 i i0 hm x (by omega)
      rw [sw_o v x (by omega)]
      rw [e] at b
      omega
theorem sink_step {m : Nat} {v : Nat → Nat} {p f : Nat} (f0 : 0 < f) (fm : f < m) (fp : (f - 1) / 2 = p) (hl : v f < v p)
    (hm : ∀ i, 0 < i → i < m → (i - 1) / 2 = p → v f ≤ v i) (h : Hole m v p) (hu : Up v p) : Hole m (sw v p f) f ∧ Up (sw v p f) f := by
  obtain ⟨h1, h2⟩ := h
  have np : p ≠ f := by omega
  refine ⟨⟨fun i i0 im e e2 => ?_, fun i i0 im e _ => ?_⟩, fun _ => ?_⟩
  · by_cases x : i = p
    · subst x
      rw [sw_l, sw_o v (by omega) (by omega)]
      exact h2 f f0 fm fp i0
    · by_cases y : (i - 1) / 2 = p
      · rw [y, sw_l, sw_o v x e]; exact hm i i0 im y
      · rw [sw_o v x e, sw_o v y e2]; exact h1 i i0 im x y
  · rw [fp, sw_l, sw_o v (by omega) (by omega)]
    have := h1 i i0 im (by omega) (by omega)
    rw [e] at this
    exact this
  · rw [fp, sw_l, sw_r]; omega
theorem low_of {m : Nat} {v : Nat → Nat} {p : Nat} (hm : ∀ i, 2 * p + 1 ≤ i → i < 2 * p + 3 → i < m → v p ≤ v i) : Low m v p :=
  fun i i0 im e => hm i (by omega) (by omega) im
theorem hole_cong {m : Nat} {v v' : Nat → Nat} {p : Nat} (h : ∀ i, i < m → v' i = v i) (hp : p < m) (hh : Hole m v p) : Hole m v' p :=
  ⟨fun i i0 im e e2 => by rw [h i im, h _ (by omega)]; exact hh.1 i i0 im e e2, fun i i0 im e p0 => by rw [h i im, h _ (by omega)]; exact hh.2 i i0 im e p0⟩
theorem low_cong {m : Nat} {v v' : Nat → Nat} {p : Nat} (h : ∀ i, i < m → v' i = v i) (hp : p < m) (hh : Low m v p) : Low m v' p :=
  fun i i0 im e => by rw [h i im, h _ hp]; exact hh i i0 im e
theorem up_cong {m : Nat} {v v' : Nat → Nat} {p : Nat} (h : ∀ i, i < m → v' i = v i) (hp : p < m) (hh : Up v p) : Up v' p :=
  fun p0 => by rw [h p hp, h _ (by omega)]; exact hh p0
theorem full_cong {m : Nat} {v v' : Nat → Nat} (h : ∀ i, i < m → v' i = v i) (hh : Full m v) : Full m v' :=
  fun i i0 im => by rw [h i im, h _ (by omega)]; exact hh i i0 im

/-- things, the less the nearer to the front -/
def rank (S : List Nat) (x : Nat) : Nat := (18446744073709551616 - key (S.getD x 0)) * 2097152 + x
def AllW (S : List Nat) : Prop := ∀ i, W64 (S.getD i 0)
theorem key_lt {b : Nat} (h : W64 b) : key b < 18446744073709551616 := by
  unfold W64 at h
  unfold key
  split
  · omega
  · split
    · omega
    · split <;> omega
/-- which one stands ahead -/
def ah (S : List Nat) (a b : Nat) : Bool := decide (rank S a < rank S b)
theorem ah_gt {S : List Nat} {a b : Nat} (hS : AllW S) (ha : a < 2097152) (h : decide (key (S.getD b 0) < key (S.getD a 0)) = true) : ah S a b = true := by
  have h1 := key_lt (hS a); have h2 := key_lt (hS b)
  have h := of_decide_eq_true h
  exact decide_eq_true (by unfold rank; omega)
theorem ah_lt {S : List Nat} {a b : Nat} (hS : AllW S) (hb : b < 2097152) (h : decide (key (S.getD a 0) < key (S.getD b 0)) = true) : ah S a b = false := by
  have h1 := key_lt (hS a); have h2 := key_lt (hS b)
  have h := of_decide_eq_true h
  exact decide_eq_false (by unfold rank; omega)
theorem ah_eq {S : List Nat} {a b : Nat} (h1 : decide (key (S.getD b 0) < key (S.getD a 0)) = false) (h2 : decide (key (S.getD a 0) < key (S.getD b 0)) = false) : ah S a b = decide (a < b) := by
  have h1 := of_decide_eq_false h1
  have h2 := of_decide_eq_false h2
  have e : key (S.getD a 0) = key (S.getD b 0) := by omega
  unfold ah rank
  rw [e]
  exact decide_eq_decide.2 (by omega)
theorem ah_yes {S : List Nat} {a b : Nat} (h : ah S a b = true) : rank S a < rank S b := by unfold ah at h; simpa using h
theorem ah_no {S : List Nat} {a b : Nat} (h : ah S a b = false) : rank S b ≤ rank S a := by unfold ah at h; simpa using h
theorem ah_irr (S : List Nat) (a : Nat) : ah S a a = false := by unfold ah; simp
theorem ah_asym {S : List Nat} {a b : Nat} (h : ah S a b = true) : ah S b a = false := by unfold ah at *; simp at *; omega
/-- what is not ahead has no greater score, and of the same score no less number -/
theorem rank_less {S : List Nat} {a b : Nat} (hS : AllW S) (hb : b < 2097152) (h : rank S a ≤ rank S b) : decide (key (S.getD a 0) < key (S.getD b 0)) = false := by
  have h1 := key_lt (hS a); have h2 := key_lt (hS b)
  unfold rank at h
  exact decide_eq_false (by omega)
theorem rank_same {S : List Nat} {a b : Nat} (hS : AllW S) (h : rank S a ≤ rank S b) (he : decide (key (S.getD b 0) < key (S.getD a 0)) = false) : a ≤ b := by
  have h1 := key_lt (hS a); have h2 := key_lt (hS b)
  unfold rank at h
  have he := of_decide_eq_false he
  omega

theorem getD_set {l : List Nat} {i : Nat} (h : i < l.length) (x j : Nat) : (l.set i x).getD j 0 = if j = i then x else l.getD j 0 := by
  simp only [List.getD, List.getElem?_set]
  by_cases e : i = j
  · subst e; simp [h]
  · rw [if_neg e, if_neg (fun x => e x.symm)]
theorem allW_set {S : List Nat} {i x : Nat} (h : AllW S) (hx : W64 x) : AllW (S.set i x) := by
  intro j
  by_cases hi : i < S.length
  · rw [getD_set hi]; split
    · exact hx
    · exact h j
  · rw [List.set_eq_of_length_le (by omega)]; exact h j
theorem rank_set {S : List Nat} {i x y : Nat} (h : y ≠ i) : rank (S.set i x) y = rank S y := by
  unfold rank
  by_cases hi : i < S.length
  · rw [getD_set hi, if_neg h]
  · rw [List.set_eq_of_length_le (by omega)]

/-- places i and k in each other's place -/
def swT (T : List Nat) (i k : Nat) : List Nat := (T.set i (T.getD k 0)).set k (T.getD i 0)
def swP (P T : List Nat) (i k : Nat) : List Nat := (P.set ((swT T i k).getD i 0) (i + 1)).set ((swT T i k).getD k 0) (k + 1)
theorem swT_len (T : List Nat) (i k : Nat) : (swT T i k).length = T.length := by simp [swT]
theorem swP_len (P T : List Nat) (i k : Nat) : (swP P T i k).length = P.length := by simp [swP]
theorem swT_at {T : List Nat} {i k : Nat} (hi : i < T.length) (hk : k < T.length) (j : Nat) : (swT T i k).getD j 0 = sw (fun j => T.getD j 0) i k j := by
  unfold swT sw
  rw [getD_set (by rw [List.length_set]; exact hk), getD_set hi]
  by_cases h1 : j = k
  · subst h1
    rw [if_pos rfl]
    by_cases h2 : j = i
    · subst h2; rw [if_pos rfl]
    · rw [if_neg h2, if_pos rfl]
  · rw [if_neg h1]
    by_cases h2 : j = i
    · rw [if_pos h2, if_pos h2]
    · rw [if_neg h2, if_neg h2, if_neg h1]
theorem swT_l {T : List Nat} {i k : Nat} (hi : i < T.length) (hk : k < T.length) : (swT T i k).getD i 0 = T.getD k 0 := by rw [swT_at hi hk, sw_l]
theorem swT_r {T : List Nat} {i k : Nat} (hi : i < T.length) (hk : k < T.length) : (swT T i k).getD k 0 = T.getD i 0 := by rw [swT_at hi hk, sw_r]
/-- how the things of a tree rank, by their places -/
def vs (S T : List Nat) (i : Nat) : Nat := rank S (T.getD i 0)
theorem vs_sw (S : List Nat) {T : List Nat} {i k : Nat} (hi : i < T.length) (hk : k < T.length) (j : Nat) : vs S (swT T i k) j = sw (vs S T) i k j := by
  unfold vs
  rw [swT_at hi hk]
  unfold sw
  split
  · rfl
  · split <;> rfl

/-- each thing of the tree is one, and its place is told; no other one's is -/
structure Wf (n : Nat) (P T : List Nat) : Prop where
  len : P.length = n
  at_ : ∀ i, i < T.length → T.getD i 0 < n ∧ P.getD (T.getD i 0) 0 = i + 1
  back : ∀ x, x < n → P.getD x 0 ≠ 0 → P.getD x 0 ≤ T.length ∧ T.getD (P.getD x 0 - 1) 0 = x
/-- the same things are in it -/
def Same (P P' : List Nat) : Prop := ∀ x, P'.getD x 0 = 0 ↔ P.getD x 0 = 0
theorem Same.refl (P : List Nat) : Same P P := fun _ => Iff.rfl
theorem Same.trans {P P' P'' : List Nat} (h : Same P P') (k : Same P' P'') : Same P P'' := fun x => (k x).trans (h x)
theorem Wf.inj {n : Nat} {P T : List Nat} (h : Wf n P T) {i k : Nat} (hi : i < T.length) (hk : k < T.length) (e : T.getD i 0 = T.getD k 0) : i = k := by
  have a := (h.at_ i hi).2; have b := (h.at_ k hk).2
  rw [e] at a
  omega
theorem swP_at {n : Nat} {P T : List Nat} (h : Wf n P T) {i k : Nat} (hi : i < T.length) (hk : k < T.length) (x : Nat) :
    (swP P T i k).getD x 0 = if x = T.getD i 0 then k + 1 else if x = T.getD k 0 then i + 1 else P.getD x 0 := by
  unfold swP
  rw [swT_l hi hk, swT_r hi hk]
  have a := (h.at_ i hi).1; have b := (h.at_ k hk).1
  rw [getD_set (by rw [List.length_set, h.len]; exact a), getD_set (by rw [h.len]; exact b)]
theorem wf_sw {n : Nat} {P T : List Nat} (h : Wf n P T) {i k : Nat} (hi : i < T.length) (hk : k < T.length) : Wf n (swP P T i k) (swT T i k) ∧ Same P (swP P T i k) := by
  refine ⟨⟨by rw [swP_len]; exact h.len, fun j hj => ?_, fun x hx h0 => ?_⟩, fun x => ?_⟩
  · rw [swT_len] at hj
    rw [swP_at h hi hk, swT_at hi hk]
    unfold sw
    by_cases e1 : j = i
    · subst e1
      rw [if_pos rfl]
      refine ⟨(h.at_ k hk).1, ?_⟩
      by_cases e2 : T.getD k 0 = T.getD j 0
      · rw [if_pos e2]; have := h.inj hk hi e2; omega
      · rw [if_neg e2, if_pos rfl]
    · rw [if_neg e1]
      by_cases e2 : j = k
      · subst e2
        rw [if_pos rfl, if_pos rfl]
        exact ⟨(h.at_ i hi).1, rfl⟩
      · rw [if_neg e2]
        refine ⟨(h.at_ j hj).1, ?_⟩
        rw [if_neg (fun e => e1 (h.inj hj hi e)), if_neg (fun e => e2 (h.inj hj hk e))]
        exact (h.at_ j hj).2
  · rw [swP_at h hi hk] at h0 ⊢
    rw [swT_len]
    by_cases e1 : x = T.getD i 0
    · rw [if_pos e1]
      refine ⟨by omega, ?_⟩
      rw [Nat.add_sub_cancel, swT_r hi hk]
      exact e1.symm
    · rw [if_neg e1] at h0 ⊢
      by_cases e2 : x = T.getD k 0
      · rw [if_pos e2]
        refine ⟨by omega, ?_⟩
        rw [Nat.add_sub_cancel, swT_l hi hk]
        exact e2.symm
      · rw [if_neg e2] at h0 ⊢
        obtain ⟨a, b⟩ := h.back x hx h0
        refine ⟨a, ?_⟩
        rw [swT_at hi hk, sw_o]
        · exact b
        · intro e; rw [e] at b; exact e1 b.symm
        · intro e; rw [e] at b; exact e2 b.symm
  · rw [swP_at h hi hk]
    by_cases e1 : x = T.getD i 0
    · rw [if_pos e1, e1, (h.at_ i hi).2]; simp
    · rw [if_neg e1]
      by_cases e2 : x = T.getD k 0
      · rw [if_pos e2, e2, (h.at_ k hk).2]; simp
      · rw [if_neg e2]
theorem wf_push {n : Nat} {P T : List Nat} (h : Wf n P T) {x : Nat} (hx : x < n) (h0 : P.getD x 0 = 0) : Wf n (P.set x (T.length + 1)) (T ++ [x]) := by
  have gl : ∀ i, i < T.length → (T ++ [x]).getD i 0 = T.getD i 0 := fun i hi => by simp [List.getD, List.getElem?_append_left hi]
  have gr : (T ++ [x]).getD T.length 0 = x := by simp [List.getD]
  have hl : x < P.length := by rw [h.len]; exact hx
  refine ⟨by rw [List.length_set]; exact h.len, fun i hi => ?_, fun y hy h1 => ?_⟩
  · rw [List.length_append, List.length_singleton] at hi
    by_cases e : i = T.length
    · subst e
      rw [gr, getD_set hl, if_pos rfl]
      exact ⟨hx, rfl⟩
    · obtain ⟨a, b⟩ := h.at_ i (by omega)
      rw [gl i (by omega), getD_set hl, if_neg (by intro e2; rw [e2, h0] at b; omega)]
      exact ⟨a, b⟩
  · rw [getD_set hl] at h1 ⊢
    rw [List.length_append, List.length_singleton]
    by_cases e : y = x
    · rw [if_pos e, Nat.add_sub_cancel, gr]
      exact ⟨Nat.le_refl _, e.symm⟩
    · rw [if_neg e] at h1 ⊢
      obtain ⟨a, b⟩ := h.back y hy h1
      exact ⟨by omega, by rw [gl _ (by omega)]; exact b⟩
theorem wf_pop {n : Nat} {P T : List Nat} (h : Wf n P T) {e x : Nat} (he : e + 1 = T.length) (hx : T.getD e 0 = x) : Wf n (P.set x 0) (T.take e) := by
  have ha := h.at_ e (by omega)
  rw [hx] at ha
  have hl : x < P.length := by rw [h.len]; exact ha.1
  have gt : ∀ i, i < e → (T.take e).getD i 0 = T.getD i 0 := fun i hi => by simp [List.getD, hi]
  have tl : (T.take e).length = e := by rw [List.length_take]; omega
  refine ⟨by rw [List.length_set]; exact h.len, fun i hi => ?_, fun y hy h1 => ?_⟩
  · rw [tl] at hi
    obtain ⟨a, b⟩ := h.at_ i (by omega)
    rw [gt i hi, getD_set hl, if_neg (by intro e2; rw [e2, ha.2] at b; omega)]
    exact ⟨a, b⟩
  · rw [getD_set hl] at h1 ⊢
    by_cases e1 : y = x
    · rw [if_pos e1] at h1; exact absurd rfl h1
    · rw [if_neg e1] at h1 ⊢
      obtain ⟨a, b⟩ := h.back y hy h1
      have e2 : P.getD y 0 ≠ T.length := by
        intro e2; rw [e2, show T.length - 1 = e by omega, hx] at b; exact e1 b.symm
      rw [tl]
      exact ⟨by omega, by rw [gt _ (by omega)]; exact b⟩
/-- what holds of a heap: its tree is in order, and each place is told -/
structure Hok (n : Nat) (S P T : List Nat) : Prop where
  wf : Wf n P T
  full : Full T.length (vs S T)
theorem Hok.min {n : Nat} {S P T : List Nat} (h : Hok n S P T) {x : Nat} (hx : x < n) (h0 : P.getD x 0 ≠ 0) : rank S (T.getD 0 0) ≤ rank S x := by
  obtain ⟨a, b⟩ := h.wf.back x hx h0
  have := full_min h.full (P.getD x 0 - 1) _ (Nat.le_refl _) (by omega)
  unfold vs at this
  rw [b] at this
  exact this
theorem Wf.le {n : Nat} {P T : List Nat} (h : Wf n P T) {x : Nat} (hx : x < n) : P.getD x 0 ≤ T.length := by
  by_cases h0 : P.getD x 0 = 0
  · omega
  · exact (h.back x hx h0).1
theorem wf_nil (n : Nat) : Wf n (List.replicate n 0) [] := by
  refine ⟨by simp, fun i hi => by simp at hi, fun x hx h0 => absurd ?_ h0⟩
  simp [List.getD, hx]
theorem hok_nil (n : Nat) (S : List Nat) : Hok n S (List.replicate n 0) [] := ⟨wf_nil n, full_one _ (by simp)⟩
/-- a thing on its way up, or down: it stands at q, and all that does not touch q is in order -/
structure OnWay (n : Nat) (S : List Nat) (id : Nat) (L : Prop) (P T : List Nat) (q : Nat) : Prop where
  wf : Wf n P T
  lt : q < T.length
  is : T.getD q 0 = id
  hole : Hole T.length (vs S T) q
  low : L → Low T.length (vs S T) q
theorem OnWay.place {n : Nat} {S P T : List Nat} {id q : Nat} {L : Prop} (h : OnWay n S id L P T q) : id < n ∧ P.getD id 0 = q + 1 := by
  have := h.wf.at_ q h.lt
  rw [h.is] at this
  exact this
theorem OnWay.rise {n : Nat} {S P T : List Nat} {id q u : Nat} {L : Prop} (h : OnWay n S id L P T q) (h0 : 0 < q) (hu : u = (q - 1) / 2) (hl : ah S id (T.getD u 0) = true) :
    OnWay n S id L (swP P T q u) (swT T q u) u ∧ Same P (swP P T q u) := by
  have hq := h.lt
  have hul : u < T.length := by omega
  have hs := rise_step (m := T.length) (v := vs S T) h0 hq (by unfold vs; rw [h.is, ← hu]; exact ah_yes hl) h.hole
  rw [← hu] at hs
  have hv := fun i (_ : i < T.length) => vs_sw S hq hul i
  obtain ⟨w1, w2⟩ := wf_sw h.wf hq hul
  refine ⟨⟨w1, by rw [swT_len]; exact hul, by rw [swT_r hq hul]; exact h.is, ?_, fun _ => ?_⟩, w2⟩
  · rw [swT_len]; exact hole_cong hv hul hs.1
  · rw [swT_len]; exact low_cong hv hul hs.2
theorem OnWay.up {n : Nat} {S P T : List Nat} {id q u : Nat} {L : Prop} (h : OnWay n S id L P T q) (hu : u = (q - 1) / 2) (hl : ah S id (T.getD u 0) = false) : Up (vs S T) q := by
  intro _
  unfold vs
  rw [h.is, ← hu]
  exact ah_no hl
theorem OnWay.hok {n : Nat} {S P T : List Nat} {id q : Nat} {L : Prop} (h : OnWay n S id L P T q) (hl : L) (hu : Up (vs S T) q) : Hok n S P T := ⟨h.wf, full_of h.hole (h.low hl) hu⟩
theorem OnWay.weak {n : Nat} {S P T : List Nat} {id q : Nat} {L : Prop} (h : OnWay n S id L P T q) : OnWay n S id False P T q := ⟨h.wf, h.lt, h.is, h.hole, fun e => e.elim⟩
theorem OnWay.sink {n : Nat} {S P T : List Nat} {id q f : Nat} (h : OnWay n S id False P T q) (hu : Up (vs S T) q) (f0 : 0 < f) (fm : f < T.length) (fq : (f - 1) / 2 = q) (hl : vs S T f < vs S T q)
    (hm : ∀ i, 2 * q + 1 ≤ i → i < 2 * q + 3 → i < T.length → vs S T f ≤ vs S T i) : OnWay n S id False (swP P T q f) (swT T q f) f ∧ Up (vs S (swT T q f)) f ∧ Same P (swP P T q f) := by
  have hq := h.lt
  have hs := sink_step (m := T.length) (v := vs S T) f0 fm fq hl (fun i i0 im e => hm i (by omega) (by omega) im) h.hole hu
  have hv := fun i (_ : i < T.length) => vs_sw S hq fm i
  obtain ⟨w1, w2⟩ := wf_sw h.wf hq fm
  refine ⟨⟨w1, by rw [swT_len]; exact fm, by rw [swT_r hq fm]; exact h.is, ?_, fun e => e.elim⟩, up_cong hv fm hs.2, w2⟩
  rw [swT_len]; exact hole_cong hv fm hs.1
theorem OnWay.done {n : Nat} {S P T : List Nat} {id q : Nat} (h : OnWay n S id False P T q) (hu : Up (vs S T) q) (hm : ∀ i, 2 * q + 1 ≤ i → i < 2 * q + 3 → i < T.length → vs S T q ≤ vs S T i) : Hok n S P T :=
  ⟨h.wf, full_of h.hole (low_of hm) hu⟩
/-- of q and what is below it, up to place b, the nearest to the front -/
structure Best (m : Nat) (v : Nat → Nat) (q b f : Nat) : Prop where
  lo : 2 * q + 1 ≤ b
  hi : b ≤ 2 * q + 3
  fm : f < m
  or_ : f = q ∨ (0 < f ∧ (f - 1) / 2 = q ∧ v f < v q)
  all : ∀ i, 2 * q + 1 ≤ i → i < b → i < m → v f ≤ v i
  le : v f ≤ v q
theorem Best.start {m q : Nat} (v : Nat → Nat) (h : q < m) : Best m v q (2 * q + 1) q := ⟨Nat.le_refl _, by omega, h, .inl rfl, fun i h1 h2 => by omega, Nat.le_refl _⟩
theorem Best.take {m q b f : Nat} {v : Nat → Nat} (h : Best m v q b f) (hb : b < m) (h2 : b ≤ 2 * q + 2) (hl : v b < v f) : Best m v q (b + 1) b := by
  have hlo := h.lo; have hle := h.le
  refine ⟨by omega, by omega, hb, .inr ⟨by omega, by omega, by omega⟩, fun i h3 h4 h5 => ?_, by omega⟩
  by_cases e : i = b
  · subst e; exact Nat.le_refl _
  · have := h.all i h3 (by omega) h5; omega
theorem Best.keep {m q b f : Nat} {v : Nat → Nat} (h : Best m v q b f) (h2 : b ≤ 2 * q + 2) (hl : v f ≤ v b) : Best m v q (b + 1) f := by
  have hlo := h.lo
  refine ⟨by omega, by omega, h.fm, h.or_, fun i h3 h4 h5 => ?_, h.le⟩
  by_cases e : i = b
  · subst e; exact hl
  · exact h.all i h3 (by omega) h5
theorem Best.end_ {m q b f : Nat} {v : Nat → Nat} (h : Best m v q b f) (hb : ¬ (b ≤ 2 * q + 2 ∧ b < m)) : ∀ i, 2 * q + 1 ≤ i → i < 2 * q + 3 → i < m → v f ≤ v i := by
  have hlo := h.hi
  exact fun i h1 h2 h3 => h.all i h1 (by omega) h3
end Go.Proofs.Ytbpjflghkkkenaa.hpf

/- Slices that read as numbers: the readings, an argument opened, the copy by append, the document's comparison. -/
namespace Go.Proofs.Ytbpjflghkkkenaa.ints
open Go.ChangeShapes Go.WideShapes Go.ChangeAt Go.RowKit

theorem retI {k : IntKind} {a b : Int} (h : a = b) : Ending.returned (.int k a) = .returned (.int k b) := by rw [h]
theorem retB {a b : Bool} (h : a = b) : Ending.returned (.bool a) = .returned (.bool b) := by rw [h]
theorem below_drewN {B : Nat} {w w' : World} (h : Below B w w') (n : Nat) : Below B w (w'.drewN n) :=
  ⟨h.os, h.tape, h.output, h.size, h.block⟩
theorem below_of {P : Program} {f : FuncId} {args : Array Value} {w : World} {v : Value} (h : Calls P f args w fun e w' => e = .returned v ∧ w = w') :
    Calls P f args w fun e w' => e = .returned v ∧ Below w.heap.size w w' := h.mono fun _ _ ⟨h1, h2⟩ => ⟨h1, h2 ▸ Below.refl _ _⟩

/-- v is a slice that reads as these numbers -/
def Ints (w : World) (v : Value) (zs : List Int) : Prop :=
  ∃ (a : Option Addr) (cap : Nat), v = .slice a zs.length cap ∧ zs.length ≤ cap ∧ cap ≤ maxLen ∧
    (0 < zs.length → ∃ b off, a = some ⟨b, off, none⟩ ∧ b < w.heap.size ∧ ∀ i, i < zs.length → w.cell? ⟨b, off + i, none⟩ = some (.int .i64 (zs.getD i 0)))
theorem Ints.on {w w' : World} {v : Value} {zs : List Int} (h : Ints w v zs) (hb : Below w.heap.size w w') : Ints w' v zs := by
  obtain ⟨a, cap, hv, h1, h2, h3⟩ := h
  refine ⟨a, cap, hv, h1, h2, fun hp => ?_⟩
  obtain ⟨b, off, ha, hlt, hc⟩ := h3 hp
  exact ⟨b, off, ha, Nat.lt_of_lt_of_le hlt hb.size, fun i hi => (hb.cell (p := ⟨b, off + i, none⟩) hlt).trans (hc i hi)⟩
theorem ints_of_owned {w : World} {B : Nat} {v : Value} {zs : List Int} (h : w.ownsRow B 3 1 v zs.length (zs.map (Value.int .i64))) : Ints w v zs := by
  rcases h.2 with ⟨rfl, h0⟩ | ⟨g, cap, cur, rfl, hb, hg, hn, hm, hs, ht⟩
  · exact ⟨none, 0, by rw [h0], by omega, by unfold maxLen; omega, fun hp => by omega⟩
  · refine ⟨some ⟨g, 0, none⟩, cap, rfl, hn, hm, fun hp => ⟨g, 0, rfl, (Array.getElem?_eq_some_iff.1 hg).1, fun i hi => ?_⟩⟩
    rw [Nat.zero_add, h.cellAt i (by omega), List.getElem?_map, List.getElem?_eq_getElem hi]
    simp [List.getD, hi]
theorem ints_empty (w : World) (a : Option Addr) (cap : Nat) (h : cap ≤ maxLen) : Ints w (.slice a 0 cap) [] := ⟨a, cap, rfl, Nat.zero_le _, h, fun hp => by simp at hp⟩
theorem ints_take {w : World} {a : Option Addr} {n cap k : Nat} {ls : List Int} (h : Ints w (.slice a n cap) ls) (hk : k ≤ n) : Ints w (.slice a k cap) (ls.take k) := by
  obtain ⟨a', cap', hv, h1, h2, h3⟩ := h
  obtain ⟨rfl, e1, rfl⟩ := Value.slice.inj hv
  have hl : (ls.take k).length = k := by rw [List.length_take]; omega
  refine ⟨a, cap, by rw [hl], by omega, h2, fun hp => ?_⟩
  obtain ⟨b, off, ha, hlt, hc⟩ := h3 (by omega)
  refine ⟨b, off, ha, hlt, fun i hi => ?_⟩
  rw [hl] at hi
  rw [hc i (by omega)]
  simp [List.getD, hi]
theorem ints_len_of {w : World} {a : Option Addr} {n cap : Nat} {ls : List Int} (h : Ints w (.slice a n cap) ls) : ls.length = n ∧ n ≤ cap ∧ cap ≤ maxLen := by
  obtain ⟨a', cap', hv, h1, h2, -⟩ := h
  obtain ⟨-, e1, rfl⟩ := Value.slice.inj hv
  exact ⟨e1.symm, by omega, h2⟩
theorem ints_cell {w : World} {a : Option Addr} {n cap : Nat} {ls : List Int} (h : Ints w (.slice a n cap) ls) {k : Nat} (hk : k < n) :
    ∃ b off, a = some ⟨b, off, none⟩ ∧ b < w.heap.size ∧ w.cell? ⟨b, off + k, none⟩ = some (.int .i64 (ls.getD k 0)) := by
  have hl := (ints_len_of h).1
  obtain ⟨a', cap', hv, h1, h2, h3⟩ := h
  obtain ⟨rfl, e1, rfl⟩ := Value.slice.inj hv
  obtain ⟨b, off, ha, hlt, hc⟩ := h3 (by omega)
  exact ⟨b, off, ha, hlt, hc k (by omega)⟩
theorem getD_of {r : List Int} {i : Nat} (h : i < r.length) : r.getD i 0 = r[i] := by simp [List.getD, h]

theorem infoInt : (Try.prog.info? 3).map (fun i => (i.zero, i.size, i.bytes)) = some (some (.int .i64 0), 1, 8) := by kernel_rfl
theorem laidOut : laidOutB Try.prog = true := by kernel_rfl
theorem addr_add (b off j : Nat) : (⟨b, off, none⟩ : Addr).add j = ⟨b, off + j, none⟩ := by unfold Addr.add; split <;> simp_all

/-- an argument that is a slice of numbers, opened -/
theorem ints_open {H : Type} {enc : TypeId × Value → H} {W : World} {a : Option Addr} {n cap : Nat} {d : DataW H} {p : List MemPlace}
    (h : DataW.Trod enc Try.prog W 0 (fun _ => true) true 22 (.slice a n cap) d p) : ∃ ls, Ints W (.slice a n cap) ls ∧ (a = none → n = 0 ∧ cap = 0) := by
  obtain ⟨fuel, hf⟩ := h
  rcases open_ints Try.underlying22 Try.underlying3 (by kernel_rfl) hf with ⟨hcs, _⟩ | ⟨x, l, c, zs, hcs, _, hl, hm, hzl, _, hcell, _⟩
  · simp [Value.cells] at hcs
    obtain ⟨rfl, rfl, rfl⟩ := hcs
    exact ⟨[], ints_empty _ _ _ (by unfold maxLen; omega), fun _ => ⟨rfl, rfl⟩⟩
  · simp [Value.cells] at hcs
    obtain ⟨rfl, rfl, rfl⟩ := hcs
    simp only [if_true] at hzl
    have ht : (zs.take n).length = n := by rw [List.length_take]; omega
    refine ⟨zs.take n, ⟨some x, cap, by rw [ht], by omega, hm, fun hp => ?_⟩, fun h => by cases h⟩
    rw [ht] at hp
    obtain ⟨b, off, spot⟩ := x
    have hc := hcell 0 (by omega)
    have hspot : spot = none := by simpa [Addr.add] using World.cell?_spot hc
    subst hspot
    refine ⟨b, off, rfl, ?_, fun i hi => ?_⟩
    · have := World.block_lt_of_cell? W _ hc
      simpa [Addr.add] using this
    · rw [ht] at hi
      have := hcell i (by omega)
      rw [addr_add] at this
      rw [this]
      simp [List.getD, hi]

theorem news_of {w w' : World} {ad : Addr} {n cap : Nat} {ls : List Int} (h : Ints w (.slice (some ad) n cap) ls) (hb : Below w.heap.size w w') :
    ∀ (j : Nat) (u : Value), (ls.map (Value.int .i64))[j]? = some u → w'.cell? (ad.add j) = some u := by
  intro j u hj
  obtain ⟨a, cap', hv, h1, h2, h3⟩ := h
  obtain ⟨rfl, -⟩ := Value.slice.inj hv
  have hl := (List.getElem?_eq_some_iff.1 hj).1
  rw [List.length_map] at hl
  obtain ⟨b, off, ha, hlt, hc⟩ := h3 (by omega)
  obtain rfl := Option.some.inj ha
  rw [addr_add, (hb.cell (p := ⟨b, off + j, none⟩) hlt), hc j hl]
  rw [List.getElem?_map, List.getElem?_eq_getElem hl] at hj
  simp only [Option.map_some, Option.some.injEq] at hj
  rw [← hj]
  simp [List.getD, hl]

/-- 'append([]int{}, l...)': a slice of its own that reads as l does -/
theorem wpList_clone {ops : Array Oper} {rest : List Oper} {o : Oper} {act : Act} {Q : Exit → Act → World → Prop} (w : World) (hgd : Region.wanted o (yielded ops act.tmps) = true) (s x : Operand)
    (ho : o.op = .call { callee := .builtin .append, args := #[s, x], argTypes := #[22, 22] })
    (hs : act.eval s = .slice (some ⟨w.heap.size, 0, none⟩) 0 0) (a : Option Addr) (n cap : Nat) (ls : List Int) (hx : act.eval x = .slice a n cap)
    (hv : Ints w (.slice a n cap) ls) (hnil : a = none → n = 0 ∧ cap = 0) (hsz : n * 8 ≤ 140737488355328)
    (h : ∀ v' w', Ints w' v' ls → Below w.heap.size w w' → wpList Try.prog ops Q rest (act.put o.dst v') w') :
    wpList Try.prog ops Q (o :: rest) act (w.alloc (.cells #[] 3)) := by
  obtain ⟨i0, hi, hz0, hz1, hz2⟩ := info_parts infoInt
  have hmade : (w.alloc (.cells #[] 3)).ownsRow w.heap.size 3 1 (.slice (some ⟨w.heap.size, 0, none⟩) 0 0) 0 [] := World.ownsRow_made _ #[] 0 (Nat.le_refl _) (by unfold maxLen; omega) rfl
  have hb0 : Below w.heap.size w (w.alloc (.cells #[] 3)) := (Below.refl _ w).alloc (Nat.le_refl _) _
  obtain ⟨hlen, hcap, hmax⟩ := ints_len_of hv
  unfold maxLen at hmax
  refine wpList_step fun K hK => ?_
  rw [if_pos hgd]
  cases a with
  | none =>
    obtain ⟨rfl, rfl⟩ := hnil rfl
    obtain rfl : ls = [] := List.length_eq_zero_iff.1 hlen
    have hrun := run_append_owned_none (P := Try.prog) (w := w.alloc (.cells #[] 3)) w.heap.size 22 o.type 3 i0 1 Try.underlying22 hi _ _ _ hmade
    have h1 := hK _ _ (h (.slice (some ⟨w.heap.size, 0, none⟩) 0 0) (w.alloc (.cells #[] 3)) (ints_empty _ _ _ (by unfold maxLen; omega)) hb0)
    unfold Oper.wp
    simp [execOp, ho, resolve, invoke, builtin, hs, hx, hrun, Result.andThen]
    exact h1
  | some ad =>
    refine wp_append_own _ s x 22 ho w.heap.size 3 i0 (.int .i64 0) 1 8 Try.underlying22 hi hz0 hz1 hz2 rfl (by decide) _ _ _ hs hmade ad n cap (ls.map (Value.int .i64)) hx (by simp [hlen]) (news_of hv hb0) (ints_oneCell _ ls) (by unfold maxLen; omega) (by omega) (by simp) ?_
    intro v1 w1 hown1 hgrow _
    exact hK _ _ (h _ _ (ints_of_owned (B := w.heap.size) (by rw [hlen]; simpa using hown1)) (hb0.grown hgrow (by simp) (fun k hk => (hmade.lt k hk).1)))

theorem refInts_len (xs ys : List Int) (v u : Value) (w : World) (hv : Ints w v xs) (hu : Ints w u ys) (h : xs.length ≠ ys.length) :
    Calls Try.prog 14 #[v, u] w fun e w' => e = .returned (.bool false) ∧ w = w' := by
  obtain ⟨a, cap, rfl, h1, h2, -⟩ := hv
  obtain ⟨b, cap', rfl, h3, h4, -⟩ := hu
  unfold maxLen at h2 h4
  obtain ⟨n, hn1⟩ : ∃ n, n = xs.length := ⟨_, rfl⟩
  obtain ⟨m, hm1⟩ : ∃ m, m = ys.length := ⟨_, rfl⟩
  have c1 : ((n : Int) != (m : Int)) = true := by simp; omega
  rw [← hn1] at h1 ⊢
  rw [← hm1] at h3 ⊢
  clear hn1 hm1 h
  go_enter Try.func14, Try.ntmps14
  go_wp2
  go_ret
  exact ⟨rfl, rfl⟩

def SameTo (xs ys : List Int) (k : Nat) : Prop := ∀ i, i < k → xs.getD i 0 = ys.getD i 0
theorem same_of {xs ys : List Int} (h : xs.length = ys.length) (hs : SameTo xs ys xs.length) : xs = ys := by
  apply List.ext_getElem h
  intro i h1 h2
  have := hs i h1
  simpa [List.getD, h1, h2] using this

set_option maxHeartbeats 400000 in
theorem refInts_any (xs ys : List Int) (v u : Value) (w : World) (hv : Ints w v xs) (hu : Ints w u ys) :
    Calls Try.prog 14 #[v, u] w fun e w' => e = .returned (.bool (decide (xs = ys))) ∧ Below w.heap.size w w' := by
  by_cases hl : xs.length = ys.length
  · obtain ⟨a, cap, rfl, hc1, hc2, hcell⟩ := hv
    obtain ⟨a', cap', rfl, hd1, hd2, hdell⟩ := hu
    unfold maxLen at hc2 hd2
    obtain ⟨n, hn⟩ : ∃ n, n = xs.length := ⟨_, rfl⟩
    rw [← hl, ← hn]
    rw [← hl, ← hn] at hd1
    have HN := Lib.hid hn
    have HL := Lib.hid hl
    have HC := Lib.hid hcell
    have HD := Lib.hid hdell
    have hn2 : n ≤ cap := by omega
    clear hcell hdell hn hc1 hl
    go_enter Try.func14, Try.ntmps14
    go_wp2
    go_loopw [5] (fun i wr => ∃ (k d : Nat), k ≤ n ∧ i = .int .i64 k ∧ SameTo xs ys k ∧ wr = w.drewN d) (fun i _ => n - (intOf i).toNat)
    case atStart => exact ⟨0, 0, Nat.zero_le _, rfl, fun i hi => by omega, by simp [World.drewN_zero]⟩
    case round =>
      obtain ⟨k, d, hk, rfl, hs, rfl⟩ := hrel
      have HS := Lib.hid hs
      clear hs
      by_cases h1 : k < n
      · have h1' := h1
        rw [HN.out] at h1'
        have h1'' := h1'
        rw [HL.out] at h1''
        obtain ⟨b, off, rfl, hbs, hcs⟩ := HC.out (by omega)
        obtain ⟨b', off', rfl, hbs', hcs'⟩ := HD.out (by omega)
        have hc := hcs k h1'
        have hd := hcs' k h1''
        have hki : (k : Int) < (n : Int) := by omega
        obtain ⟨x, hx⟩ : ∃ x, x = xs.getD k 0 := ⟨_, rfl⟩
        obtain ⟨y, hy⟩ : ∃ y, y = ys.getD k 0 := ⟨_, rfl⟩
        rw [← hx] at hc
        rw [← hy] at hd
        have HX := Lib.hid hx
        have HY := Lib.hid hy
        clear hcs hcs' h1' h1'' hx hy
        by_cases hxy : x = y
        · subst hxy
          go_wp2
          go_quiet (fail)
          go_wp2
          refine ⟨⟨k + 1, d + nq, by omega, by go_num, fun i hi => ?_, rfl⟩, by simp [intOf]; omega⟩
          by_cases e : i = k
          · rw [e]; exact HX.out.symm.trans HY.out
          · exact HS.out i (by omega)
        · have hxy' : (x != y) = true := by simpa using hxy
          have hne : xs ≠ ys := fun e => hxy (by rw [HX.out, HY.out, e])
          have HE := Lib.hid (show decide (xs = ys) = false by simpa using hne)
          clear hne hxy
          go_wp2
          go_quiet (fail)
          go_wp2
          go_ret
          refine ⟨retB HE.out.symm, ?_⟩
          exact below_drewN (below_drewN (Below.refl _ _) _) _
      · have HE := Lib.hid (show decide (xs = ys) = true by
          have := same_of HL.out (fun i hi => HS.out i (by rw [← HN.out] at hi; omega))
          simpa using this)
        have hf : decide ((k : Int) < (n : Int)) = false := by simp; omega
        go_wp2
        go_ret
        exact ⟨retB HE.out.symm, below_drewN (Below.refl _ _) _⟩
  · have e : decide (xs = ys) = false := by simp; intro h; exact hl (by rw [h])
    rw [e]
    exact (refInts_len xs ys v u w hv hu hl).mono fun _ _ ⟨h1, h2⟩ => ⟨h1, h2 ▸ Below.refl _ _⟩
theorem refInts_same {xs ys : List Int} {v u : Value} {w : World} (h : xs = ys) (hv : Ints w v xs) (hu : Ints w u ys) :
    Calls Try.prog 14 #[v, u] w fun e w' => e = .returned (.bool true) ∧ Below w.heap.size w w' := by
  have := refInts_any xs ys v u w hv hu
  rw [show decide (xs = ys) = true by simpa using h] at this
  exact this
end Go.Proofs.Ytbpjflghkkkenaa.ints
