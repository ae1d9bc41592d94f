/- Plain functions: a score's text. -/
import Derived.Test.YtchokhfcemeagaaDoorFnF
import Derived.Lib.Bytes
import Derived.OwnWalk
namespace Go.Proofs.YtchokhfcemeagaaDoor.fns
open Go Go.PlainAid

/-- the signs of digits, and a digit's sign -/
def hexS : ByteArray := ⟨#[48, 49, 50, 51, 52, 53, 54, 55, 56, 57, 97, 98, 99, 100, 101, 102]⟩
def dgt (d : Nat) : UInt8 := if d < 10 then UInt8.ofNat (48 + d) else UInt8.ofNat (87 + d)
theorem dgt_nat {d : Nat} (h : d < 16) : (dgt d).toNat = if d < 10 then 48 + d else 87 + d := by
  have all : ∀ j : Fin 16, (dgt j.val).toNat = if j.val < 10 then 48 + j.val else 87 + j.val := by decide +kernel
  exact all ⟨d, h⟩
theorem bt_hex {d : Nat} (h : d < 16) : bt hexS d = ((dgt d).toNat : Int) := by
  have all : ∀ j : Fin 16, bt hexS j.val = ((dgt j.val).toNat : Int) := by decide +kernel
  exact all ⟨d, h⟩
/-- the low digits' signs -/
def tl (b : Nat) : Nat → List UInt8
  | 0 => []
  | i + 1 => dgt (b / 16 ^ i % 16) :: tl b i
theorem tl_len (b i : Nat) : (tl b i).length = i := by
  induction i with
  | zero => rfl
  | succ i ih => simp [tl, ih]
theorem tl_succ (b i : Nat) : tl b (i + 1) = dgt (b / 16 ^ i % 16) :: tl b i := rfl
theorem div_step (b i : Nat) : b / 16 ^ i / 16 = b / 16 ^ (i + 1) := by rw [Nat.div_div_eq_div_mul, ← Nat.pow_succ]
/-- a sign's digit, small letters alone; 16 is none -/
def lo (c : Nat) : Nat := if 48 ≤ c ∧ c ≤ 57 then c - 48 else if 97 ≤ c ∧ c ≤ 102 then c - 87 else 16
/-- the same, great letters too -/
def up (c : Nat) : Nat := if 48 ≤ c ∧ c ≤ 57 then c - 48 else if 97 ≤ c ∧ c ≤ 102 then c - 87 else if 65 ≤ c ∧ c ≤ 70 then c - 55 else 16
theorem lo_le (c : Nat) : lo c ≤ 16 := by unfold lo; split <;> (try split) <;> omega
theorem up_le (c : Nat) : up c ≤ 16 := by unfold up; split <;> (try split) <;> (try split) <;> omega
theorem up_lo {c : Nat} (h : lo c < 16) : up c = lo c := by
  unfold lo at h ⊢; unfold up
  split at h
  · rename_i h1; rw [if_pos h1, if_pos h1]
  · rename_i h1
    split at h
    · rename_i h2; rw [if_neg h1, if_pos h2, if_neg h1, if_pos h2]
    · omega
theorem lo_dgt {d : Nat} (h : d < 16) : lo (dgt d).toNat = d := by
  rw [dgt_nat h]; unfold lo
  by_cases h1 : d < 10
  · rw [if_pos h1, if_pos (by omega)]; omega
  · rw [if_neg h1, if_neg (by omega), if_pos (by omega)]; omega
theorem dgt_lo {c : UInt8} (h : lo c.toNat < 16) : dgt (lo c.toNat) = c := by
  apply UInt8.toNat_inj.1
  rw [dgt_nat h]
  unfold lo at h ⊢
  split
  · rename_i h1; split <;> omega
  · rename_i h1
    split
    · rename_i h2; split <;> omega
    · rename_i h2; rw [if_neg h1, if_neg h2] at h; omega
/-- the number of signs, by either reading of them -/
def val (f : Nat → Nat) (l : List UInt8) : Nat := l.foldl (fun a c => 16 * a + f c.toNat) 0
theorem val_snoc (f : Nat → Nat) (l : List UInt8) (c : UInt8) : val f (l ++ [c]) = 16 * val f l + f c.toNat := by simp [val]
theorem foldl_at (f : Nat → Nat) (l : List UInt8) (a : Nat) : l.foldl (fun a c => 16 * a + f c.toNat) a = a * 16 ^ l.length + val f l := by
  unfold val
  induction l generalizing a with
  | nil => simp
  | cons c l ih =>
    simp only [List.foldl_cons, List.length_cons]
    rw [ih, ih (16 * 0 + f c.toNat), Nat.pow_succ]
    generalize (16 : Nat) ^ l.length = p
    generalize List.foldl (fun a c => 16 * a + f c.toNat) 0 l = v
    rw [Nat.add_mul, Nat.mul_zero, Nat.zero_add, Nat.add_assoc]
    congr 1
    rw [Nat.mul_comm 16 a, Nat.mul_assoc, Nat.mul_comm 16 p]
theorem val_cons (f : Nat → Nat) (l : List UInt8) (c : UInt8) : val f (c :: l) = f c.toNat * 16 ^ l.length + val f l := by
  rw [val, List.foldl_cons, foldl_at]; simp
def allB (f : Nat → Nat) (l : List UInt8) : Bool := l.all fun c => decide (f c.toNat < 16)
theorem all_at {f : Nat → Nat} {l : List UInt8} (h : allB f l = true) {c : UInt8} (hc : c ∈ l) : f c.toNat < 16 := by
  unfold allB at h; rw [List.all_eq_true] at h; simpa using h c hc
theorem val_lt {f : Nat → Nat} {l : List UInt8} (h : allB f l = true) : val f l < 16 ^ l.length := by
  induction l with
  | nil => simp [val]
  | cons c l ih =>
    have h1 := all_at h (List.mem_cons_self ..)
    have h2 : allB f l = true := by unfold allB at h ⊢; simp at h; simpa using h.2
    have h3 := ih h2
    rw [val_cons, List.length_cons, Nat.pow_succ]
    have h4 : f c.toNat * 16 ^ l.length ≤ 15 * 16 ^ l.length := Nat.mul_le_mul_right _ (by omega)
    omega
/-- there and back -/
theorem all_tl (b i : Nat) : allB lo (tl b i) = true := by
  induction i with
  | zero => rfl
  | succ i ih =>
    have h : lo (dgt (b / 16 ^ i % 16)).toNat < 16 := by rw [lo_dgt (Nat.mod_lt _ (by decide))]; exact Nat.mod_lt _ (by decide)
    unfold allB at ih ⊢
    rw [tl_succ, List.all_cons, ih]; simp [h]
theorem val_tl (b i : Nat) : val lo (tl b i) = b % 16 ^ i := by
  induction i with
  | zero => simp [tl, val, Nat.mod_one]
  | succ i ih =>
    rw [tl_succ, val_cons, tl_len, ih, lo_dgt (Nat.mod_lt _ (by decide))]
    rw [Nat.pow_succ, Nat.mod_mul, Nat.mul_comm, Nat.add_comm]
theorem tl_val {l : List UInt8} (h : allB lo l = true) (m : Nat) : tl (m * 16 ^ l.length + val lo l) l.length = l := by
  induction l generalizing m with
  | nil => rfl
  | cons c l ih =>
    have h1 := all_at h (List.mem_cons_self ..)
    have h2 : allB lo l = true := by unfold allB at h ⊢; simp at h; simpa using h.2
    have hv := val_lt h2
    have e : m * 16 ^ (l.length + 1) + val lo (c :: l) = (m * 16 + lo c.toNat) * 16 ^ l.length + val lo l := by
      rw [val_cons, Nat.pow_succ, Nat.add_mul, Nat.mul_assoc, Nat.mul_comm 16, Nat.add_assoc]
    rw [List.length_cons, tl_succ, e, ih h2]
    congr 1
    have hp : 0 < 16 ^ l.length := Nat.two_pow_pos 4 |> fun _ => Nat.pow_pos (by decide)
    rw [Nat.add_comm, Nat.add_mul_div_right _ _ hp, Nat.div_eq_of_lt hv, Nat.zero_add, Nat.add_comm, Nat.add_mul_mod_self_right, Nat.mod_eq_of_lt h1, dgt_lo h1]
def text (b : Nat) : ByteArray := ⟨(tl (plain b) 16).toArray⟩
theorem plain_w {b : Nat} (h : W64 b) : W64 (plain b) := by
  unfold plain; split
  · unfold W64; omega
  · exact h
theorem plain_plain (b : Nat) : plain (plain b) = plain b := by
  cases h : isNan b
  · rw [plain_no h, plain_no h]
  · rw [plain_yes h]; decide
theorem val_up {l : List UInt8} (h : allB lo l = true) : val up l = val lo l := by
  induction l with
  | nil => rfl
  | cons c l ih =>
    have h1 := all_at h (List.mem_cons_self ..)
    have h2 : allB lo l = true := by unfold allB at h ⊢; simp at h; simpa using h.2
    rw [val_cons, val_cons, up_lo h1, ih h2]
theorem all_up {l : List UInt8} (h : allB lo l = true) : allB up l = true := by
  unfold allB at h ⊢
  rw [List.all_eq_true] at h ⊢
  intro c hc
  have := h c hc
  simp only [decide_eq_true_eq] at this ⊢
  rw [up_lo this]; exact this
/-- the document's answer: the bits, or none -/
def okB (l : List UInt8) : Bool := decide (l.length = 16) && allB lo l && decide (plain (val lo l) = val lo l)
def ans (l : List UInt8) : Nat × Int := if okB l then (val lo l, 0) else (0, 2)
theorem ans_ok {l : List UInt8} (h : okB l = true) : ans l = (val lo l, 0) := by unfold ans; rw [if_pos h]
theorem ans_no {l : List UInt8} (h : okB l = false) : ans l = (0, 2) := by unfold ans; rw [if_neg (by simp [h])]
theorem ok_parts {l : List UInt8} (h : okB l = true) : l.length = 16 ∧ allB lo l = true ∧ plain (val lo l) = val lo l := by
  unfold okB at h; simp only [Bool.and_eq_true, decide_eq_true_eq] at h; exact ⟨h.1.1, h.1.2, h.2⟩
theorem ok_mk {l : List UInt8} (h1 : l.length = 16) (h2 : allB lo l = true) (h3 : plain (val lo l) = val lo l) : okB l = true := by
  unfold okB; simp [h1, h2, h3]
theorem no_len {l : List UInt8} (h : l.length ≠ 16) : okB l = false := by unfold okB; simp [h]
theorem no_all {l : List UInt8} (h : allB lo l = false) : okB l = false := by unfold okB; simp [h]
theorem no_plain {l : List UInt8} (h : plain (val lo l) ≠ val lo l) : okB l = false := by unfold okB; simp [h]
theorem ans_w (l : List UInt8) : W64 (ans l).1 := by
  cases h : okB l
  · rw [ans_no h]; unfold W64; omega
  · obtain ⟨h1, h2, -⟩ := ok_parts h
    have := val_lt h2
    rw [ans_ok h]; rw [h1] at this; exact this
/-- what the program looks at: the number's text is the signs -/
theorem text_same {l : List UInt8} (hl : l.length = 16) (hu : allB up l = true) : (tl (plain (val up l)) 16 = l ↔ okB l = true) := by
  have hv := val_lt hu
  rw [hl] at hv
  constructor
  · intro h
    have h1 : allB lo l = true := by rw [← h]; exact all_tl _ _
    have h2 := val_up h1
    have h3 : val lo l = plain (val up l) := by
      have := val_tl (plain (val up l)) 16
      rw [h] at this
      rw [this]
      exact Nat.mod_eq_of_lt (plain_w (b := val up l) hv)
    exact ok_mk hl h1 (by rw [h3, plain_plain])
  · intro h
    obtain ⟨-, h1, h2⟩ := ok_parts h
    rw [val_up h1, h2]
    have := tl_val h1 0
    rw [hl] at this
    simpa using this
theorem ok_up {l : List UInt8} (h : okB l = true) : allB up l = true ∧ val up l = val lo l := ⟨all_up (ok_parts h).2.1, val_up (ok_parts h).2.1⟩
theorem ok_text (b : Nat) (h : W64 b) : okB (tl (plain b) 16) = true ∧ val lo (tl (plain b) 16) = plain b := by
  have h1 : val lo (tl (plain b) 16) = plain b := by rw [val_tl]; exact Nat.mod_eq_of_lt (plain_w h)
  exact ⟨ok_mk (tl_len _ _) (all_tl _ _) (by rw [h1, plain_plain]), h1⟩
theorem text_ans {l : List UInt8} (h : okB l = true) : tl (plain (val lo l)) 16 = l := by
  have := (text_same (ok_parts h).1 (ok_up h).1).2 h
  rwa [(ok_up h).2] at this
/-- a sign's digit, among the first m -/
def among (c m : Nat) : Nat := if lo c < m then lo c else 16
theorem among_zero (c : Nat) : among c 0 = 16 := by unfold among; rw [if_neg (by omega)]
theorem among_all (c : Nat) : among c 16 = lo c := by
  have := lo_le c
  unfold among; split <;> omega
theorem among_hit {c m : Nat} (h : lo c = m) : among c (m + 1) = m := by unfold among; rw [if_pos (by omega), h]
theorem among_miss {c m : Nat} (h : lo c ≠ m) : among c (m + 1) = among c m := by
  unfold among
  by_cases h1 : lo c < m
  · rw [if_pos h1, if_pos (by omega)]
  · rw [if_neg h1, if_neg (by omega)]
theorem lo_is {c m : Nat} (hm : m < 16) : (dgt m).toNat = c ↔ lo c = m := by
  constructor
  · rintro rfl; exact lo_dgt hm
  · intro h
    rw [dgt_nat hm]
    unfold lo at h
    split at h
    · rw [if_pos (by omega)]; omega
    · split at h
      · rw [if_neg (by omega)]; omega
      · omega
/-- a string's bytes as natural numbers -/
def byn (s : ByteArray) (k : Nat) : Nat := (bt s k).toNat
theorem byn_bt (s : ByteArray) (k : Nat) : bt s k = (byn s k : Int) := by
  have := bt_nonneg s k; unfold byn; omega
theorem byn_lt (s : ByteArray) (k : Nat) : byn s k < 256 := by
  have := bt_le s k; unfold byn; omega
theorem list_len (s : ByteArray) : s.data.toList.length = s.size := by show s.data.toList.length = s.data.size; simp
theorem take_byn {s : ByteArray} {k : Nat} (h : k < s.size) : ∃ c : UInt8, s.data.toList.take (k + 1) = s.data.toList.take k ++ [c] ∧ c.toNat = byn s k ∧ c ∈ s.data.toList := by
  have hl : k < s.data.toList.length := by rw [list_len]; exact h
  refine ⟨s.data.toList[k], List.take_succ_eq_append_getElem hl, ?_, List.getElem_mem _⟩
  unfold byn
  rw [← get_bt s k h]
  simp [ByteArray.getElem_eq_getElem_data]
theorem val_take {s : ByteArray} {k : Nat} (f : Nat → Nat) (h : k < s.size) : val f (s.data.toList.take (k + 1)) = 16 * val f (s.data.toList.take k) + f (byn s k) := by
  obtain ⟨c, h1, h2, -⟩ := take_byn h
  rw [h1, val_snoc, h2]
theorem all_take {s : ByteArray} {k : Nat} (f : Nat → Nat) (h : k < s.size) : allB f (s.data.toList.take (k + 1)) = (allB f (s.data.toList.take k) && decide (f (byn s k) < 16)) := by
  obtain ⟨c, h1, h2, -⟩ := take_byn h
  rw [h1]; unfold allB; rw [List.all_append]; simp [h2]
theorem all_not {s : ByteArray} {k : Nat} (f : Nat → Nat) (h : k < s.size) (h2 : ¬ f (byn s k) < 16) : allB f s.data.toList = false := by
  obtain ⟨c, -, h3, h4⟩ := take_byn h
  cases h5 : allB f s.data.toList
  · rfl
  · have := all_at h5 h4; rw [h3] at this; exact absurd this h2
theorem val_bd {s : ByteArray} {k : Nat} {f : Nat → Nat} (hk : k ≤ 15) (h : allB f (s.data.toList.take k) = true) : val f (s.data.toList.take k) < 1152921504606846976 := by
  have h1 := val_lt h
  have h2 : (s.data.toList.take k).length ≤ k := List.length_take_le _ _
  have h3 : (16 : Nat) ^ (s.data.toList.take k).length ≤ 16 ^ 15 := Nat.pow_le_pow_right (by decide) (by omega)
  have h4 : (16 : Nat) ^ 15 = 1152921504606846976 := by decide
  omega
theorem str_list {s : ByteArray} {l : List UInt8} : (⟨l.toArray⟩ : ByteArray) = s ↔ l = s.data.toList := by
  constructor
  · rintro rfl; simp
  · rintro rfl; simp
/-- a letter with its bit 32 set -/
def low (c : Nat) : Nat := c ||| 32
theorem low_kinds {c : Nat} (h : c < 256) : (48 ≤ c ∧ c ≤ 57 ∧ up c = c - 48) ∨ (57 < c ∧ c ≠ 95 ∧ 97 ≤ low c ∧ low c ≤ 102 ∧ up c = low c - 87) ∨ ((c < 48 ∨ 57 < c) ∧ up c = 16 ∧ (low c < 97 ∨ (103 ≤ low c ∧ low c ≤ 122) ∨ (122 < low c ∧ low c < 256))) := by
  have all : ∀ j : Fin 256, (48 ≤ j.val ∧ j.val ≤ 57 ∧ up j.val = j.val - 48) ∨ (57 < j.val ∧ j.val ≠ 95 ∧ 97 ≤ low j.val ∧ low j.val ≤ 102 ∧ up j.val = low j.val - 87) ∨ ((j.val < 48 ∨ 57 < j.val) ∧ up j.val = 16 ∧ (low j.val < 97 ∨ (103 ≤ low j.val ∧ low j.val ≤ 122) ∨ (122 < low j.val ∧ low j.val < 256))) := by decide +kernel
  exact all ⟨c, h⟩
theorem or_low {c : Nat} (h : c < 256) : bits .or .u8 (c : Int) 32 = (low c : Int) := u8_or_nat c 32 h (by omega)
theorem getD_byn {s : ByteArray} {k : Nat} (h : k < s.size) : (s.data.toList.getD k 0).toNat = byn s k := by
  unfold byn
  rw [← get_bt s k h]
  have hl : k < s.data.toList.length := by rw [list_len]; exact h
  rw [List.getD, List.getElem?_eq_getElem hl]
  simp [ByteArray.getElem_eq_getElem_data]
end Go.Proofs.YtchokhfcemeagaaDoor.fns
