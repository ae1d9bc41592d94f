/- Plain functions: numbers that are changed about. -/
import Derived.Test.YtpagcphebokkmaaFnG
namespace Go.Proofs.Ytpagcphebokkmaa.fns
open Go

/-- the i-th and the j-th changed about -/
def swp (l : List Int) (i j : Nat) : List Int := (l.set i (l.getD j 0)).set j (l.getD i 0)
/-- from place i down to 1, each with one that is drawn -/
def shuf : Nat → Int → List Int → List Int × Int
  | 0, s, l => (l, s)
  | i + 1, s, l => shuf i (nxt s) (swp l (i + 1) (blw (out (nxt s)) (i + 2 : Nat)).toNat)
def upTo (n : Nat) : List Int := (List.range n).map fun (i : Nat) => (i : Int)
def permN (s : Int) (n : Nat) : List Int × Int := shuf (n - 1) s (upTo n)
def permR (s n : Int) : List Int × Int := if n < 0 ∨ 100000 < n then ([], s) else permN s n.toNat

theorem blw_nat (s : Int) (m : Nat) (h1 : 1 ≤ m) (h2 : m ≤ 9223372036854775807) : ∃ j : Nat, blw (out (nxt s)) (m : Nat) = (j : Int) ∧ j < m := by
  obtain ⟨-, h3, h4⟩ := rem_in (in_out (nxt s)) (n := (m : Int)) (by omega) (by omega)
  obtain ⟨j, hj⟩ := Int.eq_ofNat_of_zero_le h3
  exact ⟨j, hj, by omega⟩
theorem shuf_step {i j : Nat} {s : Int} {l : List Int} (h : blw (out (nxt s)) (i + 2 : Nat) = (j : Int)) : shuf (i + 1) s l = shuf i (nxt s) (swp l (i + 1) j) := by
  show shuf i (nxt s) _ = _
  rw [h, Int.toNat_natCast]
theorem swp_len (l : List Int) (i j : Nat) : (swp l i j).length = l.length := by simp [swp]
theorem upTo_len (n : Nat) : (upTo n).length = n := by simp [upTo]
theorem shuf_len : ∀ (i : Nat) (s : Int) (l : List Int), (shuf i s l).1.length = l.length := by
  intro i
  induction i with
  | zero => intro s l; rfl
  | succ i ih => intro s l; show (shuf i _ _).1.length = _; rw [ih, swp_len]
theorem permN_len (s : Int) (n : Nat) : (permN s n).1.length = n := by unfold permN; rw [shuf_len, upTo_len]
theorem permR_no {s n : Int} (h : n < 0 ∨ 100000 < n) : permR s n = ([], s) := by unfold permR; rw [if_pos h]
theorem permR_yes {s : Int} {n : Nat} (h : n ≤ 100000) : permR s n = permN s n := by unfold permR; rw [if_neg (by omega), Int.toNat_natCast]
theorem upTo_snoc (n : Nat) : upTo (n + 1) = upTo n ++ [(n : Int)] := by simp [upTo, List.range_succ]

theorem swp_perm {l : List Int} {i j : Nat} (hi : i < l.length) (hj : j < l.length) : (swp l i j).Perm l := by
  have h := Array.swap_perm (xs := l.toArray) (i := i) (j := j) (by simpa using hi) (by simpa using hj)
  have e : (l.toArray.swap i j (by simpa using hi) (by simpa using hj)).toList = swp l i j := by
    unfold swp
    simp [Array.swap, List.getD, hi, hj]
  have := h.toList
  rw [e] at this
  simpa using this
theorem shuf_perm : ∀ (i : Nat) (s : Int) (l : List Int), i < l.length → l.length ≤ 100000 → (shuf i s l).1.Perm l := by
  intro i
  induction i with
  | zero => intro s l _ _; exact List.Perm.refl _
  | succ i ih =>
    intro s l h hm
    obtain ⟨j, hj, hlt⟩ := blw_nat s (i + 2) (by omega) (by omega)
    rw [shuf_step hj]
    exact (ih _ _ (by rw [swp_len]; omega) (by rw [swp_len]; exact hm)).trans (swp_perm h (by omega))
theorem permN_perm (s : Int) (n : Nat) (h : n ≤ 100000) : (permN s n).1.Perm (upTo n) := by
  by_cases h0 : n = 0
  · subst h0; exact List.Perm.refl _
  · exact shuf_perm _ _ _ (by rw [upTo_len]; omega) (by rw [upTo_len]; exact h)
theorem upTo_mem {n : Nat} {x : Int} : x ∈ upTo n ↔ 0 ≤ x ∧ x < n := by
  unfold upTo
  rw [List.mem_map]
  constructor
  · rintro ⟨k, hk, rfl⟩
    have := List.mem_range.1 hk
    omega
  · rintro ⟨h0, h1⟩
    exact ⟨x.toNat, List.mem_range.2 (by omega), by omega⟩
theorem upTo_nodup (n : Nat) : (upTo n).Nodup := by
  unfold upTo List.Nodup
  rw [List.pairwise_map]
  exact (List.nodup_range (n := n)).imp fun h e => h (by omega)
theorem permN_nodup (s : Int) (n : Nat) (h : n ≤ 100000) : (permN s n).1.Nodup := (permN_perm s n h).nodup_iff.2 (upTo_nodup n)
theorem permN_in (s : Int) (n : Nat) (h : n ≤ 100000) {x : Int} (hx : x ∈ (permN s n).1) : 0 ≤ x ∧ x < n := upTo_mem.1 ((permN_perm s n h).mem_iff.1 hx)
theorem nodup_take {l : List Int} (h : l.Nodup) {k : Nat} (hk : k < l.length) : l[k] ∉ l.take k := by
  intro hm
  obtain ⟨i, hi, e⟩ := List.getElem_of_mem hm
  rw [List.length_take] at hi
  rw [List.getElem_take] at e
  have := (List.nodup_iff_pairwise_ne.1 h)
  rw [List.pairwise_iff_getElem] at this
  exact this i k (by omega) hk (by omega) e
/-- which numbers are among the first k -/
def seenTo (l : List Int) (n k : Nat) : List Bool := (List.range n).map fun (x : Nat) => decide ((x : Int) ∈ l.take k)
theorem seenTo_zero (l : List Int) (n : Nat) : seenTo l n 0 = List.replicate n false := by
  unfold seenTo; simp [List.map_const']
theorem seenTo_len (l : List Int) (n k : Nat) : (seenTo l n k).length = n := by simp [seenTo]
theorem seenTo_at {l : List Int} {n k x : Nat} (h : x < n) : (seenTo l n k)[x]? = some (decide ((x : Int) ∈ l.take k)) := by
  unfold seenTo; rw [List.getElem?_map, List.getElem?_range h]; rfl
theorem seenTo_set {l : List Int} {n k x : Nat} (hk : k < l.length) (hx : l[k] = (x : Int)) : (seenTo l n k).set x true = seenTo l n (k + 1) := by
  apply List.ext_getElem?
  intro i
  by_cases hi : i < n
  · rw [List.getElem?_set, seenTo_at hi, seenTo_at hi, List.take_succ_eq_append_getElem hk, hx, seenTo_len]
    by_cases e : x = i
    · subst e; rw [if_pos rfl, if_pos hi]; simp
    · rw [if_neg e]
      have : ¬ ((i : Int) = (x : Int)) := by omega
      simp [this]
  · rw [List.getElem?_eq_none (by rw [List.length_set, seenTo_len]; omega), List.getElem?_eq_none (by rw [seenTo_len]; omega)]
theorem seenTo_new {l : List Int} {n k x : Nat} (hn : l.Nodup) (hk : k < l.length) (hx : l[k] = (x : Int)) (h : x < n) : (seenTo l n k)[x]? = some false := by
  rw [seenTo_at h]
  have := nodup_take hn hk
  rw [hx] at this
  simp [this]
end Go.Proofs.Ytpagcphebokkmaa.fns
