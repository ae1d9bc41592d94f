/- Plain functions: what octet's calls answer, with no Go in sight. -/
import Derived.PlainAid
import Derived.Lib.Hide
namespace Go.Proofs.YtjmiclgagjkooaaDoor.fns
open Go.PlainAid

/-- a number of three, as Go hands it back -/
def three (K : IntKind) (r : Int × Int × Int) : Value := .tuple #[.int K r.1, .int .i64 r.2.1, .int .i64 r.2.2]

theorem three_ret {K : IntKind} {a b c : Int} {r : Int × Int × Int} (h : r = (a, b, c)) : Ending.returned (.tuple #[.int K a, .int .i64 b, .int .i64 c]) = .returned (three K r) := by subst h; rfl

/-- the number at the byte a, from its byte k on, n so far; f bytes may come yet -/
def getFrom (s : ByteArray) (a : Nat) : Nat → Nat → Int → Int × Int × Int
  | 0, _, _ => (0, 0, 5)
  | f + 1, k, n =>
    if a + k = s.size then (0, 0, 3)
    else if k = 4 ∧ 16 ≤ bt s (a + k) then (0, 0, 5)
    else if 0 < k ∧ bt s (a + k) = 0 then (0, 0, 2)
    else if bt s (a + k) < 128 then (n + bt s (a + k) % 128 * 128 ^ k, (a : Int) + k + 1, 0)
    else getFrom s a f (k + 1) (n + bt s (a + k) % 128 * 128 ^ k)

def getAt (s : ByteArray) (a : Int) : Int × Int × Int :=
  if a < 0 ∨ (s.size : Int) < a then (0, 0, 1) else getFrom s a.toNat 5 0 0


theorem gf_end {s : ByteArray} {a f k : Nat} {n : Int} (h : a + k = s.size) : getFrom s a (f + 1) k n = (0, 0, 3) := by
  unfold getFrom; rw [if_pos h]
theorem gf_range {s : ByteArray} {a f : Nat} {n : Int} (h : a + 4 < s.size) (h2 : 16 ≤ bt s (a + 4)) : getFrom s a (f + 1) 4 n = (0, 0, 5) := by
  unfold getFrom; rw [if_neg (by omega), if_pos ⟨rfl, h2⟩]
theorem gf_form {s : ByteArray} {a f k : Nat} {n : Int} (h : a + k < s.size) (hk : 0 < k) (h2 : bt s (a + k) = 0) : getFrom s a (f + 1) k n = (0, 0, 2) := by
  unfold getFrom; rw [if_neg (by omega), if_neg (by rw [h2]; omega), if_pos ⟨hk, h2⟩]
theorem gf_last {s : ByteArray} {a f k : Nat} {n : Int} (h : a + k < s.size) (h4 : k = 4 → bt s (a + k) < 16) (hk : 0 < k → bt s (a + k) ≠ 0) (h2 : bt s (a + k) < 128) :
    getFrom s a (f + 1) k n = (n + bt s (a + k) % 128 * 128 ^ k, (a : Int) + k + 1, 0) := by
  unfold getFrom; rw [if_neg (by omega), if_neg (by intro ⟨e, g⟩; have := h4 e; omega), if_neg (by intro ⟨e, g⟩; exact hk e g), if_pos h2]
theorem gf_more {s : ByteArray} {a f k : Nat} {n : Int} (h : a + k < s.size) (h4 : k < 4) (h2 : 128 ≤ bt s (a + k)) :
    getFrom s a (f + 1) k n = getFrom s a f (k + 1) (n + bt s (a + k) % 128 * 128 ^ k) := by
  conv => lhs; unfold getFrom
  rw [if_neg (by omega), if_neg (by omega), if_neg (by intro ⟨e, g⟩; omega), if_neg (by omega)]

/-- the place behind all digits from a on; f places may come yet -/
def dend (s : ByteArray) : Nat → Nat → Nat
  | 0, a => a
  | f + 1, a => if a < s.size ∧ 48 ≤ bt s a ∧ bt s a ≤ 57 then dend s f (a + 1) else a
def dEnd (s : ByteArray) (a : Nat) : Nat := dend s (s.size - a) a
theorem dend_ge (s : ByteArray) (f : Nat) : ∀ a, a ≤ dend s f a := by
  induction f with
  | zero => intro a; exact Nat.le_refl _
  | succ f ih => intro a; unfold dend; split; · have := ih (a + 1); omega
                 · exact Nat.le_refl _
theorem dend_le (s : ByteArray) (f : Nat) : ∀ a, a ≤ s.size → dend s f a ≤ s.size := by
  induction f with
  | zero => intro a h; exact h
  | succ f ih => intro a h; unfold dend; split
                 · exact ih (a + 1) (by omega)
                 · exact h
theorem dend_dig (s : ByteArray) (f : Nat) : ∀ a i, a ≤ i → i < dend s f a → 48 ≤ bt s i ∧ bt s i ≤ 57 := by
  induction f with
  | zero => intro a i h1 h2; simp only [dend] at h2; omega
  | succ f ih =>
    intro a i h1 h2
    unfold dend at h2
    split at h2
    · rename_i hd
      by_cases e : i = a
      · rw [e]; exact hd.2
      · exact ih (a + 1) i (by omega) h2
    · omega
theorem dEnd_ge (s : ByteArray) (a : Nat) : a ≤ dEnd s a := dend_ge s _ a
theorem dEnd_le (s : ByteArray) (a : Nat) (h : a ≤ s.size) : dEnd s a ≤ s.size := dend_le s _ a h
theorem dEnd_dig (s : ByteArray) (a i : Nat) (h : a ≤ i) (h2 : i < dEnd s a) : 48 ≤ bt s i ∧ bt s i ≤ 57 := dend_dig s _ a i h h2
theorem dEnd_step {s : ByteArray} {a : Nat} (h : a < s.size) (h0 : 48 ≤ bt s a) (h1 : bt s a ≤ 57) : dEnd s a = dEnd s (a + 1) := by
  unfold dEnd
  conv => lhs; rw [(by omega : s.size - a = (s.size - (a + 1)) + 1)]
  conv => lhs; unfold dend
  rw [if_pos ⟨h, h0, h1⟩]
theorem dEnd_stop {s : ByteArray} {a : Nat} (h : ¬ (a < s.size ∧ 48 ≤ bt s a ∧ bt s a ≤ 57)) : dEnd s a = a := by
  unfold dEnd
  by_cases e : s.size - a = 0
  · rw [e]; rfl
  · rw [(by omega : s.size - a = (s.size - a - 1) + 1)]; unfold dend; rw [if_neg h]

/-- the number of the first k digits from a on -/
def numTo (s : ByteArray) (a : Nat) : Nat → Int
  | 0 => 0
  | k + 1 => 10 * numTo s a k + (bt s (a + k) - 48)
theorem numTo_bd (s : ByteArray) (a : Nat) : ∀ k, a + k ≤ dEnd s a → 0 ≤ numTo s a k ∧ numTo s a k < 10 ^ k := by
  intro k
  induction k with
  | zero => intro _; simp [numTo]
  | succ k ih =>
    intro h
    have h1 := ih (by omega)
    have h2 := dEnd_dig s a (a + k) (by omega) (by omega)
    simp only [numTo]
    rw [Int.pow_succ]
    omega
theorem numTo_bd9 (s : ByteArray) (a k : Nat) (h : a + k ≤ dEnd s a) (hk : k ≤ 9) : 0 ≤ numTo s a k ∧ numTo s a k < 1000000000 := by
  have h1 := numTo_bd s a k h
  have h2 : (10 : Int) ^ k ≤ 10 ^ 9 := by exact_mod_cast Nat.pow_le_pow_right (by omega) hk
  simp at h2
  omega

/-- the number whose digits stand at a place -/
def natAt (s : ByteArray) (a : Int) : Int × Int × Int :=
  if a < 0 ∨ (s.size : Int) < a then (0, 0, 1)
  else if a = s.size then (0, 0, 3)
  else if dEnd s a.toNat = a.toNat ∨ (bt s a.toNat = 48 ∧ a.toNat + 1 < dEnd s a.toNat) then (0, 0, 2)
  else if a.toNat + 9 < dEnd s a.toNat then (0, 0, 5)
  else (numTo s a.toNat (dEnd s a.toNat - a.toNat), (dEnd s a.toNat : Int), 0)
theorem natAt_arg {s : ByteArray} {a : Int} (h : a < 0 ∨ (s.size : Int) < a) : natAt s a = (0, 0, 1) := by
  unfold natAt; rw [if_pos h]
theorem natAt_end {s : ByteArray} {n : Nat} (h : n = s.size) : natAt s n = (0, 0, 3) := by
  unfold natAt; rw [if_neg (by omega), if_pos (by omega)]
theorem natAt_form {s : ByteArray} {n : Nat} (h : n < s.size) (h2 : dEnd s n = n ∨ (bt s n = 48 ∧ n + 1 < dEnd s n)) : natAt s n = (0, 0, 2) := by
  unfold natAt; rw [if_neg (by omega), if_neg (by omega), if_pos (by simpa using h2)]
theorem natAt_range {s : ByteArray} {n : Nat} (h : n < s.size) (h2 : ¬ (dEnd s n = n ∨ (bt s n = 48 ∧ n + 1 < dEnd s n))) (h3 : n + 9 < dEnd s n) : natAt s n = (0, 0, 5) := by
  unfold natAt; rw [if_neg (by omega), if_neg (by omega), if_neg (by simpa using h2), if_pos (by simpa using h3)]
theorem natAt_ok {s : ByteArray} {n : Nat} (h : n < s.size) (h2 : ¬ (dEnd s n = n ∨ (bt s n = 48 ∧ n + 1 < dEnd s n))) (h3 : ¬ n + 9 < dEnd s n) : natAt s n = (numTo s n (dEnd s n - n), (dEnd s n : Int), 0) := by
  unfold natAt; rw [if_neg (by omega), if_neg (by omega), if_neg (by simpa using h2), if_neg (by simpa using h3)]; rfl

end Go.Proofs.YtjmiclgagjkooaaDoor.fns
