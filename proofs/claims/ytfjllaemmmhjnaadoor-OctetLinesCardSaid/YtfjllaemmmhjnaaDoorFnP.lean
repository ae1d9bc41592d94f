/- Plain functions: what is put is got. -/
import Derived.Test.YtfjllaemmmhjnaaDoorFnN
namespace Go.Proofs.YtfjllaemmmhjnaaDoor.fns
open Go.PlainAid

theorem bt_at {s : ByteArray} {k : Nat} {l : List UInt8} {b : UInt8} (hs : s.data.toList = l) (hb : l[k]? = some b) : bt s k = (b.toNat : Int) := by
  subst hs
  have hk : k < s.size := by
    have := (List.getElem?_eq_some_iff.1 hb).1
    simpa using this
  unfold bt
  rw [dif_pos hk]
  have h2 : s.data.toList[k]? = some s[k] := by
    rw [List.getElem?_eq_getElem (by simpa using hk)]
    simp [ByteArray.getElem_eq_getElem_data]
  rw [h2] at hb
  cases hb
  rfl

/-- WHAT IS PUT IS GOT: a text with a number's digits from the byte a + k on. -/
theorem getFrom_num (s : ByteArray) (a : Nat) : ∀ (f k m : Nat) (acc : Int), f + k = 4 → m < 128 ^ (f + 1) → (0 < k → 0 < m) → (k = 4 → m < 16) →
    a + k + (numL f m).length ≤ s.size → (∀ j b, (numL f m)[j]? = some b → bt s (a + k + j) = (b.toNat : Int)) →
    (128 ^ k * m < 4294967296) →
    getFrom s a (f + 1) k acc = (acc + m * 128 ^ k, (a : Int) + k + (numL f m).length, 0) := by
  intro f
  induction f with
  | zero =>
    intro k m acc hf hm hk0 hk4 hsz hb hlt
    have hm' : m < 128 := by simpa using hm
    have h4 : k = 4 := by omega
    have h16 := hk4 h4
    have hb0 := hb 0 (UInt8.ofNat m) (by simp [numL])
    rw [u8_nat (by omega)] at hb0
    simp only [Nat.add_zero] at hb0
    simp only [numL, List.length_cons, List.length_nil] at hsz ⊢
    rw [gf_last (by omega) (by omega) (by omega) (by omega), hb0]
    have : (m : Int) % 128 = m := by omega
    rw [this]
    simp
  | succ f ih =>
    intro k m acc hf hm hk0 hk4 hsz hb hlt
    by_cases h : m < 128
    · rw [numL_small h] at hsz hb ⊢
      have hb0 := hb 0 (UInt8.ofNat m) (by simp)
      rw [u8_nat (by omega)] at hb0
      simp only [Nat.add_zero] at hb0
      simp only [List.length_cons, List.length_nil] at hsz ⊢
      rw [gf_last (by omega) (by omega) (by omega) (by omega), hb0]
      have : (m : Int) % 128 = m := by omega
      rw [this]
      simp
    · rw [numL_great (by omega)] at hsz hb ⊢
      have hb0 := hb 0 (UInt8.ofNat (m % 128 + 128)) (by simp)
      rw [u8_nat (by omega)] at hb0
      simp only [Nat.add_zero] at hb0
      simp only [List.length_cons] at hsz ⊢
      rw [gf_more (by omega) (by omega) (by omega), hb0]
      have e : ((m % 128 + 128 : Nat) : Int) % 128 = ((m % 128 : Nat) : Int) := by omega
      rw [e]
      have hdm : 128 ^ (k + 1) * (m / 128) ≤ 128 ^ k * m := by
        rw [Nat.pow_succ, Nat.mul_assoc]
        exact Nat.mul_le_mul_left _ (Nat.mul_div_le m 128)
      rw [ih (k + 1) (m / 128) (acc + ((m % 128 : Nat) : Int) * 128 ^ k) (by omega) (by rw [Nat.pow_succ] at hm; omega) (by omega)
        (fun e4 => by
          have : 128 ^ (k + 1) = 268435456 := by rw [e4]
          rw [this] at hdm
          omega)
        (by omega) (fun j b hj => by have := hb (j + 1) b (by simpa using hj); rw [← this]; congr 1; omega) (by omega)]
      refine Prod.ext ?_ (Prod.ext ?_ rfl)
      · show acc + ((m % 128 : Nat) : Int) * 128 ^ k + ((m / 128 : Nat) : Int) * 128 ^ (k + 1) = acc + (m : Int) * 128 ^ k
        have e2 : (m : Int) = ((m % 128 : Nat) : Int) + 128 * ((m / 128 : Nat) : Int) := by omega
        rw [Int.pow_succ]
        conv => rhs; rw [e2, Int.add_mul]
        rw [← Int.add_assoc]
        congr 1
        rw [Int.mul_comm ((128 : Int) ^ k) 128, ← Int.mul_assoc, Int.mul_comm 128 ((m / 128 : Nat) : Int)]
      · simp; omega

theorem get_put (n : Nat) (hn : n < 4294967296) (more : ByteArray) : getAt (numS n ++ more) 0 = ((n : Int), ((numS n).size : Int), 0) := by
  have hz : (numS n).size = (numL 4 n).length := by simp [numS, ByteArray.size]
  have hd : (numS n ++ more).data.toList = numL 4 n ++ more.data.toList := by simp [numS]
  unfold getAt
  rw [if_neg (by omega)]
  have h := getFrom_num (numS n ++ more) 0 4 0 n 0 rfl (by omega) (by omega) (by omega) (by rw [ByteArray.size_append, hz]; omega)
    (fun j b hj => bt_at hd (by simp only [Nat.zero_add, Nat.add_zero]; rw [List.getElem?_append_left (List.getElem?_eq_some_iff.1 hj).1]; exact hj)) (by omega)
  show getFrom (numS n ++ more) 0 (4 + 1) 0 0 = _
  rw [h, hz]
  simp

end Go.Proofs.YtfjllaemmmhjnaaDoor.fns
