/- Plain functions: decimal digits are read as they are written; texts of literals. -/
import Derived.Test.YtjmiclgagjkooaaDoorFn
import Derived.Test.YtjmiclgagjkooaaDoorFnV
import Derived.Lib.Bytes
import Derived.Lib.ItoaLen
import Derived.Lib.ItoaMem
namespace Go.Proofs.YtjmiclgagjkooaaDoor.fns
open Go.PlainAid Go.Lib

/-- the number of a list of digits -/
def nv (l : List UInt8) : Int := l.foldl (fun n c => 10 * n + ((c.toNat : Int) - 48)) 0
theorem nv_snoc (l : List UInt8) (c : UInt8) : nv (l ++ [c]) = 10 * nv l + ((c.toNat : Int) - 48) := by unfold nv; rw [List.foldl_append]; rfl
theorem nv_nil : nv [] = 0 := rfl
def Digits (l : List UInt8) : Prop := ∀ c ∈ l, 48 ≤ (c.toNat : Int) ∧ (c.toNat : Int) ≤ 57

theorem u8_num {k : Nat} (h : k < 256) : ((UInt8.ofNat k).toNat : Int) = k := by
  rw [UInt8.toNat_ofNat']; omega
theorem u8_back (c : UInt8) (k : Nat) (h : (c.toNat : Int) = k) : UInt8.ofNat k = c := by
  apply UInt8.toNat.inj
  rw [UInt8.toNat_ofNat']
  have := c.toNat_lt
  omega
theorem dec_step {u : Nat} (h : 10 ≤ u) : decDigits u = decDigits (u / 10) ++ [UInt8.ofNat (48 + u % 10)] := by
  rw [decDigits, dif_neg (by omega)]

theorem dec_nv (u : Nat) : nv (decDigits u) = u := by
  induction u using Nat.strongRecOn with
  | _ u ih =>
    by_cases h : u < 10
    · rw [decDigits_one h]; show 10 * (0 : Int) + _ = _; rw [u8_num (by omega)]; omega
    · rw [dec_step (by omega), nv_snoc, ih (u / 10) (by omega), u8_num (by omega)]; omega
theorem dec_digits (u : Nat) : Digits (decDigits u) := by
  induction u using Nat.strongRecOn with
  | _ u ih =>
    by_cases h : u < 10
    · rw [decDigits_one h]; intro c hc; simp only [List.mem_singleton] at hc; subst hc; rw [u8_num (by omega)]; omega
    · rw [dec_step (by omega)]
      intro c hc
      rcases List.mem_append.1 hc with hc | hc
      · exact ih (u / 10) (by omega) c hc
      · simp only [List.mem_singleton] at hc; subst hc; rw [u8_num (by omega)]; omega
theorem dec_pos (u : Nat) : 0 < (decDigits u).length := by
  by_cases h : u < 10
  · rw [decDigits_one h]; simp
  · rw [dec_step (by omega)]; simp
theorem dec_head (u : Nat) (h1 : 1 ≤ u) : (decDigits u)[0]? ≠ some 48 := by
  induction u using Nat.strongRecOn with
  | _ u ih =>
    by_cases h : u < 10
    · rw [decDigits_one h]
      intro e
      have e' : UInt8.ofNat (48 + u) = 48 := by simpa using e
      have h2 := u8_num (k := 48 + u) (by omega)
      rw [e'] at h2
      have : ((48 : UInt8).toNat : Int) = 48 := rfl
      omega
    · rw [dec_step (by omega), List.getElem?_append_left (dec_pos _)]
      exact ih (u / 10) (by omega) (by omega)
theorem dec_len9 (u : Nat) (h : u ≤ 16777216) : (decDigits u).length ≤ 8 := by
  have gen : ∀ n u : Nat, u < 10 ^ n → 1 ≤ n → (decDigits u).length ≤ n := by
    intro n
    induction n with
    | zero => intro u _ h; omega
    | succ n ih =>
      intro u hu _
      by_cases h : u < 10
      · rw [decDigits_one h]; simp
      · rw [dec_step (by omega), List.length_append]
        have hp : (10 : Nat) ^ (n + 1) = 10 * 10 ^ n := by rw [Nat.pow_succ]; omega
        cases n with
        | zero => simp at hu; omega
        | succ n => have := ih (u / 10) (by omega) (by omega); simp; omega
  exact gen 8 u (by omega) (by omega)

/-- DIGITS THAT ARE WRITTEN AS A NUMBER IS ARE THAT NUMBER's -/
theorem dec_back (n : Nat) : ∀ l : List UInt8, l.length = n → l ≠ [] → Digits l → (l[0]? = some 48 → l.length = 1) → l = decDigits (nv l).toNat ∧ 0 ≤ nv l := by
  induction n with
  | zero => intro l h0 h1 _ _; exact absurd (List.length_eq_zero_iff.1 h0) h1
  | succ n ih =>
    intro l hl hne hd h48
    have hsplit := List.dropLast_concat_getLast hne
    obtain ⟨l', c, hlc⟩ : ∃ l' c, l = l' ++ [c] := ⟨_, _, hsplit.symm⟩
    subst hlc
    have hc := hd c (by simp)
    have hl' : l'.length = n := by simpa using hl
    by_cases he : l' = []
    · subst he
      have e : nv ([] ++ [c]) = (c.toNat : Int) - 48 := by rw [nv_snoc, nv_nil]; omega
      rw [e, List.nil_append, decDigits_one (by omega), u8_back c (48 + ((c.toNat : Int) - 48).toNat) (by omega)]
      exact ⟨rfl, by omega⟩
    · have hpos : 0 < l'.length := List.length_pos_iff.2 he
      have hh : (l' ++ [c])[0]? = l'[0]? := List.getElem?_append_left hpos
      have h48' : l'[0]? ≠ some 48 := fun h => by
        have := h48 (by rw [hh]; exact h)
        simp at this
        exact he this
      obtain ⟨ih1, ih2⟩ := ih l' hl' he (fun x hx => hd x (by simp [hx])) (fun h => absurd h h48')
      have h1 : 1 ≤ nv l' := by
        by_cases hz : nv l' = 0
        · rw [hz] at ih1
          rw [ih1] at h48'
          exact absurd (by rw [show (0 : Int).toNat = 0 from rfl, decDigits_one (by omega)]; rfl) h48'
        · omega
      rw [nv_snoc]
      refine ⟨?_, by omega⟩
      rw [dec_step (by omega)]
      rw [show (10 * nv l' + ((c.toNat : Int) - 48)).toNat / 10 = (nv l').toNat by omega, ← ih1]
      rw [u8_back c (48 + (10 * nv l' + ((c.toNat : Int) - 48)).toNat % 10) (by omega)]

theorem bt_list {s : ByteArray} {k : Nat} {b : UInt8} (hb : s.data.toList[k]? = some b) : bt s k = (b.toNat : Int) := by
  have hk : k < s.size := by
    have := (List.getElem?_eq_some_iff.1 hb).1
    simpa using this
  unfold bt
  rw [dif_pos hk]
  have h2 : s.data.toList[k]? = some s[k] := by
    rw [List.getElem?_eq_getElem (by simpa using hk)]
    simp [ByteArray.getElem_eq_getElem_data]
  rw [h2] at hb
  cases hb
  rfl
theorem list_bt {s : ByteArray} {k : Nat} (hk : k < s.size) : ∃ b, s.data.toList[k]? = some b ∧ bt s k = (b.toNat : Int) :=
  ⟨s[k], by rw [List.getElem?_eq_getElem (by simpa using hk)]; simp [ByteArray.getElem_eq_getElem_data], by unfold bt; rw [dif_pos hk]⟩
theorem len_size (s : ByteArray) : s.data.toList.length = s.size := by simp
theorem numTo_nv (s : ByteArray) : ∀ k, k ≤ s.size → numTo s 0 k = nv (s.data.toList.take k) := by
  intro k
  induction k with
  | zero => intro _; rfl
  | succ k ih =>
    intro h
    obtain ⟨b, h1, h2⟩ := list_bt (s := s) (k := k) (by omega)
    have hk : k < s.data.toList.length := by rw [len_size]; omega
    rw [List.take_succ_eq_append_getElem hk]
    have h3 : s.data.toList[k] = b := (List.getElem?_eq_some_iff.1 h1).2
    rw [nv_snoc, h3]
    simp only [numTo, Nat.zero_add]
    rw [ih (by omega), h2]
theorem dEnd_all (s : ByteArray) (h : ∀ i, i < s.size → 48 ≤ bt s i ∧ bt s i ≤ 57) : ∀ m n, m + n = s.size → dEnd s n = s.size := by
  intro m
  induction m with
  | zero => intro n hn; rw [dEnd_stop (by omega)]; omega
  | succ m ih => intro n hn; have := h n (by omega); rw [dEnd_step (by omega) this.1 this.2]; exact ih (n + 1) (by omega)

/-- WHAT IS WRITTEN IS READ -/
theorem natAt_dec (s : ByteArray) (u : Nat) (hs : s.data.toList = decDigits u) (hu : u ≤ 16777216) : natAt s 0 = ((u : Int), (s.size : Int), 0) := by
  have hz : s.size = (decDigits u).length := by rw [← hs, len_size]
  have hp := dec_pos u
  have hd : ∀ i, i < s.size → 48 ≤ bt s i ∧ bt s i ≤ 57 := fun i hi => by
    obtain ⟨b, h1, h2⟩ := list_bt hi
    rw [h2]
    exact dec_digits u b (by rw [← hs]; exact List.mem_of_getElem? h1)
  have he : dEnd s 0 = s.size := dEnd_all s hd s.size 0 (by omega)
  have h9 := dec_len9 u hu
  have h48 : ¬ (dEnd s 0 = 0 ∨ (bt s 0 = 48 ∧ 0 + 1 < dEnd s 0)) := by
    rw [he]
    intro h
    rcases h with h | ⟨h, h'⟩
    · omega
    · have hu1 : 1 ≤ u := by
        cases u with
        | zero => rw [decDigits_one (by omega)] at hz; simp at hz; omega
        | succ u => omega
      obtain ⟨b, h1, h2⟩ := list_bt (s := s) (k := 0) (by omega)
      rw [hs] at h1
      refine dec_head u hu1 ?_
      rw [h1]
      congr 1
      apply UInt8.toNat.inj
      have : ((48 : UInt8).toNat) = 48 := rfl
      omega
  have h := natAt_ok (s := s) (n := 0) (by omega) h48 (by omega)
  rw [he] at h
  rw [show (0 : Int) = ((0 : Nat) : Int) from rfl, h, Nat.sub_zero, numTo_nv s _ (Nat.le_refl _), List.take_of_length_le (by rw [len_size]; omega), hs, dec_nv]
  rfl
/-- WHAT IS READ WHOLE IS WRITTEN SO -/
theorem natAt_back (s : ByteArray) (n : Int) (h : natAt s 0 = (n, (s.size : Int), 0)) : 0 ≤ n ∧ s.data.toList = decDigits n.toNat := by
  have h' : natAt s ((0 : Nat) : Int) = (n, (s.size : Int), 0) := h
  by_cases h0 : 0 = s.size
  · rw [natAt_end h0] at h'; have := congrArg (·.2.2) h'; simp at this
  · by_cases h1 : dEnd s 0 = 0 ∨ (bt s 0 = 48 ∧ 0 + 1 < dEnd s 0)
    · rw [natAt_form (by omega) h1] at h'; have := congrArg (·.2.2) h'; simp at this
    · by_cases h2 : 0 + 9 < dEnd s 0
      · rw [natAt_range (by omega) h1 h2] at h'; have := congrArg (·.2.2) h'; simp at this
      · rw [natAt_ok (by omega) h1 h2] at h'
        have he : dEnd s 0 = s.size := by have := congrArg (·.2.1) h'; simp at this; omega
        have hn : numTo s 0 (dEnd s 0 - 0) = n := congrArg (·.1) h'
        rw [he, Nat.sub_zero, numTo_nv s _ (Nat.le_refl _), List.take_of_length_le (by rw [len_size]; omega)] at hn
        have hd : Digits s.data.toList := fun c hc => by
          obtain ⟨i, hi⟩ := List.getElem?_of_mem hc
          have hlt := (List.getElem?_eq_some_iff.1 hi).1
          rw [len_size] at hlt
          rw [← bt_list hi]
          exact dEnd_dig s 0 i (Nat.zero_le _) (by omega)
        have hne : s.data.toList ≠ [] := fun h => by rw [← len_size, h] at h0; exact h0 rfl
        obtain ⟨b1, b2⟩ := dec_back _ s.data.toList rfl hne hd (fun h48 => by
          have hb := bt_list h48
          rw [len_size]
          have : ((48 : UInt8).toNat : Int) = 48 := rfl
          rw [this] at hb
          have h3 : ¬ (0 + 1 < dEnd s 0) := fun h => h1 (.inr ⟨hb, h⟩)
          omega)
        rw [hn] at b1 b2
        exact ⟨b2, b1⟩
theorem natAt_nonneg (s : ByteArray) : 0 ≤ (natAt s 0).1 := by
  by_cases h0 : 0 = s.size
  · rw [show (0 : Int) = ((0 : Nat) : Int) from rfl, natAt_end h0]; simp
  · by_cases h1 : dEnd s 0 = 0 ∨ (bt s 0 = 48 ∧ 0 + 1 < dEnd s 0)
    · rw [show (0 : Int) = ((0 : Nat) : Int) from rfl, natAt_form (by omega) h1]; simp
    · by_cases h2 : 0 + 9 < dEnd s 0
      · rw [show (0 : Int) = ((0 : Nat) : Int) from rfl, natAt_range (by omega) h1 h2]; simp
      · rw [show (0 : Int) = ((0 : Nat) : Int) from rfl, natAt_ok (by omega) h1 h2]
        exact (numTo_bd s 0 _ (by omega)).1

/-- a literal's text -/
def textL (l : Int) : List UInt8 := if goodB l then (if l % 2 = 1 then 33 :: decDigits (l / 2).toNat else decDigits (l / 2).toNat) else [63]
def textB (l : Int) : ByteArray := ⟨(textL l).toArray⟩
theorem text_no {l : Int} (h : goodB l = false) : textL l = [63] := by unfold textL; rw [if_neg (by simp [h])]
theorem text_odd {l : Int} (h : goodB l = true) (h2 : l % 2 = 1) : textL l = 33 :: decDigits (l / 2).toNat := by unfold textL; rw [if_pos h, if_pos h2]
theorem text_even {l : Int} (h : goodB l = true) (h2 : l % 2 = 0) : textL l = decDigits (l / 2).toNat := by unfold textL; rw [if_pos h, if_neg (by omega)]

/-- does a text begin with the sign of an inverse, and what is behind it -/
def bang (s : ByteArray) : Bool := decide (0 < s.size ∧ bt s 0 = 33)
def rest (s : ByteArray) : ByteArray := if bang s then s.extract 1 s.size else s
/-- the literal of a text, and the error -/
def readR (r : Int × Int × Int) (z : Int) (b : Bool) : Int × Int := if r.2.2 = 0 ∧ r.2.1 = z ∧ r.1 ≤ 16777216 then (litOf r.1 b, 0) else (0, 2)
def readS (s : ByteArray) : Int × Int := readR (natAt (rest s) 0) (rest s).size (bang s)
theorem bang_yes {s : ByteArray} (h0 : 0 < s.size) (h : bt s 0 = 33) : bang s = true := by unfold bang; simp [h0, h]
theorem bang_no {s : ByteArray} (h : ¬ (0 < s.size ∧ bt s 0 = 33)) : bang s = false := by unfold bang; simpa using h
theorem rest_yes {s : ByteArray} (h : bang s = true) : rest s = s.extract 1 s.size := by unfold rest; rw [if_pos h]
theorem rest_no {s : ByteArray} (h : bang s = false) : rest s = s := by unfold rest; rw [if_neg (by simp [h])]
theorem rest_le (s : ByteArray) : (rest s).size ≤ s.size := by
  cases h : bang s with
  | true => rw [rest_yes h, ByteArray.size_extract]; omega
  | false => rw [rest_no h]; exact Nat.le_refl _
theorem rest_data {s : ByteArray} (h : bang s = true) : s.data.toList = 33 :: (rest s).data.toList := by
  rw [rest_yes h]
  unfold bang at h
  have ⟨h0, h1⟩ : 0 < s.size ∧ bt s 0 = 33 := by simpa using h
  obtain ⟨b, h2, h3⟩ := list_bt (s := s) (k := 0) h0
  have hb : b = 33 := by
    apply UInt8.toNat.inj
    have : ((33 : UInt8).toNat) = 33 := rfl
    omega
  subst hb
  have e : (s.extract 1 s.size).data.toList = s.data.toList.drop 1 := by
    rw [ByteArray.data_extract, Array.toList_extract]
    rw [List.extract_eq_take_drop]
    exact List.take_of_length_le (by simp)
  rw [e]
  cases hl : s.data.toList with
  | nil => rw [hl] at h2; simp at h2
  | cons x xs => rw [hl] at h2; simp at h2; simp [h2]

theorem dec_no_bang (s : ByteArray) (u : Nat) (h : s.data.toList = decDigits u) : bang s = false := by
  apply bang_no
  intro ⟨h0, h1⟩
  obtain ⟨b, h2, h3⟩ := list_bt (s := s) (k := 0) h0
  have := dec_digits u b (by rw [← h]; exact List.mem_of_getElem? h2)
  omega
/-- THE TEXT OF A LITERAL IS READ AS IT -/
theorem read_text {l : Int} (h : goodB l = true) : readS (textB l) = (l, 0) := by
  obtain ⟨h0, h1⟩ := good_iff.1 h
  by_cases h2 : l % 2 = 1
  · have hb : bang (textB l) = true := by
      have hz : (textB l).data.toList = 33 :: decDigits (l / 2).toNat := by unfold textB; rw [text_odd h h2]
      have h3 := bt_list (s := textB l) (k := 0) (b := 33) (by rw [hz]; rfl)
      refine bang_yes ?_ (by rw [h3]; rfl)
      rw [← len_size, hz]; simp
    have hd := rest_data hb
    have hr : (rest (textB l)).data.toList = decDigits (l / 2).toNat := by
      unfold textB at hd ⊢
      rw [text_odd h h2] at hd ⊢
      simpa using hd.symm
    unfold readS readR
    rw [natAt_dec _ _ hr (by omega), hb]
    rw [if_pos ⟨rfl, rfl, by show (((l / 2).toNat : Nat) : Int) ≤ _; omega⟩]
    show (litOf (((l / 2).toNat : Nat) : Int) true, (0 : Int)) = _
    rw [of_neg (by omega) (by omega)]
    congr 1; omega
  · have hz : (textB l).data.toList = decDigits (l / 2).toNat := by unfold textB; rw [text_even h (by omega)]
    have hb := dec_no_bang _ _ hz
    unfold readS readR
    rw [rest_no hb, natAt_dec _ _ hz (by omega), hb]
    rw [if_pos ⟨rfl, rfl, by show (((l / 2).toNat : Nat) : Int) ≤ _; omega⟩]
    show (litOf (((l / 2).toNat : Nat) : Int) false, (0 : Int)) = _
    rw [of_pos (by omega) (by omega)]
    congr 1; omega
theorem read_none {l : Int} (h : goodB l = false) : readS (textB l) = (0, 2) := by
  unfold textB; rw [text_no h]; decide
/-- A TEXT THAT IS READ IS WHAT IS READ's -/
theorem text_read (s : ByteArray) (l : Int) (h : readS s = (l, 0)) : textB l = s ∧ goodB l = true := by
  unfold readS readR at h
  by_cases hc : (natAt (rest s) 0).2.2 = 0 ∧ (natAt (rest s) 0).2.1 = (rest s).size ∧ (natAt (rest s) 0).1 ≤ 16777216
  · rw [if_pos hc] at h
    have hl : litOf (natAt (rest s) 0).1 (bang s) = l := congrArg (·.1) h
    obtain ⟨hn, hd⟩ := natAt_back (rest s) (natAt (rest s) 0).1 (Prod.ext rfl (Prod.ext hc.2.1 hc.1))
    cases hb : bang s with
    | true =>
      rw [hb, of_neg hn hc.2.2] at hl
      have hg : goodB l = true := good_yes (by omega) (by omega)
      refine ⟨?_, hg⟩
      apply ByteArray.ext
      unfold textB
      rw [text_odd hg (by omega), show l / 2 = (natAt (rest s) 0).1 by omega, ← hd, ← rest_data hb]
    | false =>
      rw [hb, of_pos hn hc.2.2] at hl
      have hg : goodB l = true := good_yes (by omega) (by omega)
      refine ⟨?_, hg⟩
      apply ByteArray.ext
      unfold textB
      rw [text_even hg (by omega), show l / 2 = (natAt (rest s) 0).1 by omega, ← hd, rest_no hb]
  · rw [if_neg hc] at h; have := congrArg (·.2) h; simp at this
theorem text_len (l : Int) : (textB l).size ≤ 9 := by
  unfold textB
  rw [show (⟨(textL l).toArray⟩ : ByteArray).size = (textL l).length by simp [ByteArray.size]]
  cases h : goodB l with
  | false => rw [text_no h]; decide
  | true =>
    obtain ⟨h0, h1⟩ := good_iff.1 h
    have h9 := dec_len9 (l / 2).toNat (by omega)
    by_cases h2 : l % 2 = 1
    · rw [text_odd h h2]; simp; omega
    · rw [text_even h (by omega)]; omega
end Go.Proofs.YtjmiclgagjkooaaDoor.fns
