/- Plain functions: lines and words. -/
import Derived.Test.YtfjllaemmmhjnaaDoorFnP
import Derived.Lib.SplitLaws
import Derived.Lib.IndexLaws
namespace Go.Proofs.YtfjllaemmmhjnaaDoor.fns
open Go.PlainAid

/-! ### Words -/
def headed (b : UInt8) : List (List UInt8) → List (List UInt8)
  | [] => [[b]]
  | w :: r => (b :: w) :: r
/-- what stands between blanks -/
def wordsL : List UInt8 → List (List UInt8)
  | [] => [[]]
  | b :: l => if b = 32 then [] :: wordsL l else headed b (wordsL l)
theorem wordsL_ne (l : List UInt8) : wordsL l ≠ [] := by
  cases l with
  | nil => simp [wordsL]
  | cons b l => unfold wordsL; split
                · simp
                · cases wordsL l <;> simp [headed]

theorem split_headed (b : UInt8) (l : List UInt8) (hb : b ≠ 32) (k : Nat) : Lib.splitK [32] 0 k (b :: l) = headed b (Lib.splitK [32] 0 k l) := by
  have hp : ([32] : List UInt8).isPrefixOf (b :: l) = false := by simp [List.isPrefixOf, Ne.symm hb]
  have hix : Lib.index (b :: l) [32] = if Lib.index l [32] == -1 then -1 else Lib.index l [32] + 1 := by rw [Lib.index, hp]; simp
  cases k with
  | zero => rfl
  | succ k =>
    unfold Lib.splitK
    rw [hix]
    by_cases hm : Lib.index l [32] = -1
    · simp [hm, headed]
    · have hge := Lib.index_ge l [32]
      obtain ⟨i, hi⟩ : ∃ i : Nat, Lib.index l [32] = i := ⟨(Lib.index l [32]).toNat, by omega⟩
      rw [hi]
      have e1 : (((i : Int) == -1) = true) = False := by simp
      have e2 : (((i : Int) + 1 == -1) = true) = False := by simp <;> omega
      have e3 : ((i : Int) + 1).toNat = i + 1 := by omega
      simp only [e1, e2, e3, if_false, headed, Int.toNat_natCast, List.length_cons, List.length_nil, Nat.add_zero]
      rfl
theorem split_words : ∀ l : List UInt8, Lib.splitK [32] 0 (Lib.count l [32]) l = wordsL l
  | [] => by rw [Lib.count_miss (by simp [Lib.index])]; rfl
  | b :: l => by
    by_cases h : b = 32
    · subst h
      have hix : Lib.index (32 :: l) [32] = ((0 : Nat) : Int) := by rw [Lib.index]; simp [List.isPrefixOf]
      rw [Lib.count_cons_eq, Nat.add_comm]
      unfold Lib.splitK
      rw [hix]
      simp [wordsL, split_words l]
    · rw [Lib.count_cons_ne b 32 l h, split_headed b l h, split_words l]
      simp [wordsL, h]

theorem words_hit : ∀ (k : Nat) (l : List UInt8), (∀ j, j < k → l[j]? ≠ some 32) → l[k]? = some 32 → wordsL l = l.take k :: wordsL (l.drop (k + 1))
  | 0, l, _, h => by
    cases l with
    | nil => simp at h
    | cons b l => simp at h; subst h; simp [wordsL]
  | k + 1, l, hj, h => by
    cases l with
    | nil => simp at h
    | cons b l =>
      have hb : b ≠ 32 := fun e => hj 0 (by omega) (by simp [e])
      have ih := words_hit k l (fun j hjk => by have := hj (j + 1) (by omega); simpa using this) (by simpa using h)
      simp only [wordsL, if_neg hb, ih, headed, List.take_succ_cons, List.drop_succ_cons]
theorem words_none : ∀ (l : List UInt8), (∀ j : Nat, l[j]? ≠ some 32) → wordsL l = [l]
  | [], _ => rfl
  | b :: l, h => by
    have hb : b ≠ 32 := fun e => h 0 (by simp [e])
    rw [wordsL, if_neg hb, words_none l (fun j => by have := h (j + 1); simpa using this)]
    rfl

/-- words with a blank between each two -/
def joinL : List (List UInt8) → List UInt8
  | [] => []
  | [w] => w
  | w :: r => w ++ 32 :: joinL r
theorem joinL_cons (w : List UInt8) {r : List (List UInt8)} (h : r ≠ []) : joinL (w :: r) = w ++ 32 :: joinL r := by
  cases r with
  | nil => exact absurd rfl h
  | cons x r => rfl
theorem joinL_headed (b : UInt8) {ws : List (List UInt8)} (h : ws ≠ []) : joinL (headed b ws) = b :: joinL ws := by
  cases ws with
  | nil => exact absurd rfl h
  | cons w r =>
    cases r with
    | nil => rfl
    | cons x r => rfl
theorem join_words : ∀ l : List UInt8, joinL (wordsL l) = l
  | [] => rfl
  | b :: l => by
    by_cases h : b = 32
    · rw [wordsL, if_pos h, joinL_cons _ (wordsL_ne l), join_words l, h]; rfl
    · rw [wordsL, if_neg h, joinL_headed b (wordsL_ne l), join_words l]
theorem joinL_snoc : ∀ (ws : List (List UInt8)) (w : List UInt8), ws ≠ [] → joinL (ws ++ [w]) = joinL ws ++ 32 :: w
  | [], _, h => absurd rfl h
  | [x], w, _ => rfl
  | x :: y :: r, w, _ => by
    have ih := joinL_snoc (y :: r) w (by simp)
    rw [List.cons_append, joinL_cons x (by simp), ih, joinL_cons x (by simp), List.append_assoc]
    rfl
theorem joinL_take_le : ∀ (ws : List (List UInt8)) (k : Nat), (joinL (ws.take k)).length ≤ (joinL ws).length
  | [], k => by simp [joinL]
  | [x], 0 => by simp [joinL]
  | [x], k + 1 => by simp [joinL]
  | x :: y :: r, 0 => by simp [joinL]
  | x :: y :: r, k + 1 => by
    have ih := joinL_take_le (y :: r) k
    rw [List.take_succ_cons, joinL_cons x (r := y :: r) (by simp)]
    cases k with
    | zero => simp [joinL]
    | succ k =>
      rw [joinL_cons x (by simp)]
      simp only [List.length_append, List.length_cons]
      omega
theorem word_le : ∀ (ws : List (List UInt8)) (w : List UInt8), w ∈ ws → w.length ≤ (joinL ws).length
  | [], _, h => by simp at h
  | [x], w, h => by simp at h; subst h; exact Nat.le_refl _
  | x :: y :: r, w, h => by
    rw [joinL_cons x (by simp)]
    simp only [List.length_append, List.length_cons]
    rcases List.mem_cons.1 h with rfl | h
    · omega
    · have := word_le (y :: r) w h
      omega

/-! ### Lines -/
theorem idx_hit : ∀ (k : Nat) (l : List UInt8) (c : UInt8), (∀ j, j < k → l[j]? ≠ some c) → l[k]? = some c → Lib.indexByte l c = k
  | 0, l, c, _, h => by
    cases l with
    | nil => simp at h
    | cons b l => simp at h; subst h; simp [Lib.indexByte]
  | k + 1, l, c, hj, h => by
    cases l with
    | nil => simp at h
    | cons b l =>
      have hb : b ≠ c := fun e => hj 0 (by omega) (by simp [e])
      have ih := idx_hit k l c (fun j hjk => by have := hj (j + 1) (by omega); simpa using this) (by simpa using h)
      unfold Lib.indexByte
      rw [if_neg (by simpa using hb), ih, if_neg (by simp)]
      omega
theorem idx_none : ∀ (l : List UInt8) (c : UInt8), (∀ j : Nat, l[j]? ≠ some c) → Lib.indexByte l c = -1
  | [], _, _ => rfl
  | b :: l, c, h => by
    have hb : b ≠ c := fun e => h 0 (by simp [e])
    unfold Lib.indexByte
    rw [if_neg (by simpa using hb), idx_none l c (fun j => by have := h (j + 1); simpa using this)]
    rfl
theorem at_iff {s : ByteArray} {i : Nat} {c : UInt8} (h : i < s.size) : s.data.toList[i]? = some c ↔ bt s i = (c.toNat : Int) := by
  have e : s.data.toList[i]? = some (s[i]'h) := by
    rw [List.getElem?_eq_getElem (by simpa using h)]
    simp [ByteArray.getElem_eq_getElem_data]
  rw [e, ← get_bt s i h]
  constructor
  · intro h'; rw [Option.some.inj h']
  · intro h'; congr 1; apply UInt8.toNat_inj.1; omega

/-- the line at a place -/
def lineAt (s : ByteArray) (a : Int) : ByteArray × Int × Int :=
  if a < 0 ∨ (s.size : Int) < a then (ByteArray.empty, 0, 1)
  else
    let i := Lib.indexByte (s.data.toList.drop a.toNat) 10
    if i < 0 then (ByteArray.empty, 0, 3) else (s.extract a.toNat (a.toNat + i.toNat), a + i + 1, 0)
theorem lineAt_arg {s : ByteArray} {a : Int} (h : a < 0 ∨ (s.size : Int) < a) : lineAt s a = (ByteArray.empty, 0, 1) := by
  unfold lineAt; rw [if_pos h]
theorem lineAt_none {s : ByteArray} {n : Nat} (h : n ≤ s.size) (hi : Lib.indexByte (s.data.toList.drop n) 10 < 0) : lineAt s n = (ByteArray.empty, 0, 3) := by
  unfold lineAt; rw [if_neg (by omega)]; simp only [Int.toNat_natCast]; rw [if_pos hi]
theorem lineAt_hit {s : ByteArray} {n k : Nat} (h : n ≤ s.size) (hi : Lib.indexByte (s.data.toList.drop n) 10 = k) : lineAt s n = (s.extract n (n + k), (n : Int) + k + 1, 0) := by
  unfold lineAt; rw [if_neg (by omega)]; simp only [Int.toNat_natCast]; rw [hi, if_neg (by omega)]; rfl

end Go.Proofs.YtfjllaemmmhjnaaDoor.fns
