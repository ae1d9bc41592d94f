/- Marking what literals hang on, from the last variable down, purely. -/
import Derived.Test.YtbdmndhjbemenaaFnO
import Derived.Test.YtbdmndhjbemenaaFnV
namespace Go.Proofs.Ytbdmndhjbemenaa.agf
open Go.Proofs.Ytbdmndhjbemenaa.fns

/-- a literal's variable is marked -/
def markOne (b : List Bool) (z : Int) : List Bool := if 0 < litVar z ∧ litVar z < (b.length : Int) then b.set (litVar z).toNat true else b
def markTo (b : List Bool) (zs : List Int) : List Bool := zs.foldl markOne b
theorem markOne_len (b : List Bool) (z : Int) : (markOne b z).length = b.length := by unfold markOne; split <;> simp
theorem markTo_len (b : List Bool) (zs : List Int) : (markTo b zs).length = b.length := by
  unfold markTo
  induction zs generalizing b with
  | nil => rfl
  | cons z zs ih => rw [List.foldl_cons, ih, markOne_len]
theorem markTo_step (b : List Bool) {zs : List Int} {k : Nat} (h : k < zs.length) : markTo b (zs.take (k + 1)) = markOne (markTo b (zs.take k)) (zs.getD k 0) := by
  unfold markTo
  rw [List.take_succ_eq_append_getElem h, List.foldl_append]
  simp [List.getD, h]
theorem getB_set {b : List Bool} {i x : Nat} (h : i < b.length) : (b.set i true).getD x false = (b.getD x false || decide (x = i)) := by
  simp only [List.getD]
  rw [List.getElem?_set]
  by_cases e : i = x
  · subst e; simp [h]
  · rw [if_neg e, decide_eq_false (fun h => e h.symm)]; simp
theorem markOne_at (b : List Bool) (z : Int) (x : Nat) : (markOne b z).getD x false = true ↔ b.getD x false = true ∨ (1 ≤ x ∧ x < b.length ∧ litVar z = (x : Int)) := by
  unfold markOne
  by_cases h : 0 < litVar z ∧ litVar z < (b.length : Int)
  · rw [if_pos h, getB_set (by omega), Bool.or_eq_true, decide_eq_true_iff]
    constructor
    · rintro (h1 | h1)
      · exact .inl h1
      · exact .inr ⟨by omega, by omega, by omega⟩
    · rintro (h1 | h1)
      · exact .inl h1
      · exact .inr (by omega)
  · rw [if_neg h]
    constructor
    · exact .inl
    · rintro (h1 | h1)
      · exact h1
      · exact absurd ⟨by omega, by omega⟩ h
theorem markTo_at (zs : List Int) (b : List Bool) (x : Nat) : (markTo b zs).getD x false = true ↔ b.getD x false = true ∨ (1 ≤ x ∧ x < b.length ∧ ∃ z ∈ zs, litVar z = (x : Int)) := by
  unfold markTo
  induction zs generalizing b with
  | nil => simp
  | cons z zs ih =>
    rw [List.foldl_cons, ih, markOne_at, markOne_len]
    constructor
    · rintro ((h | ⟨h1, h2, h3⟩) | ⟨h1, h2, y, h3, h4⟩)
      · exact .inl h
      · exact .inr ⟨h1, h2, z, by simp, h3⟩
      · exact .inr ⟨h1, h2, y, by simp [h3], h4⟩
    · rintro (h | ⟨h1, h2, y, h3, h4⟩)
      · exact .inl (.inl h)
      · rcases List.mem_cons.1 h3 with rfl | h3
        · exact .inl (.inr ⟨h1, h2, h4⟩)
        · exact .inr ⟨h1, h2, y, h3, h4⟩
/-- what is marked when the variables above k have been looked at -/
structure Rch (N : Net) (zs : List Int) (k : Nat) (L : List Bool) : Prop where
  len : L.length = N.length + 1
  zero : L.getD 0 false = false
  sound : ∀ x, 1 ≤ x → x ≤ N.length → L.getD x false = true → ofB N zs (x - 1) = true
  top : ∀ z ∈ zs, ∀ x : Nat, 1 ≤ x → x ≤ N.length → litVar z = (x : Int) → L.getD x false = true
  down : ∀ i a b : Nat, k ≤ i → N[i]? = some (some (a, b)) → L.getD (i + 1) false = true → (1 ≤ a / 2 → L.getD (a / 2) false = true) ∧ (1 ≤ b / 2 → L.getD (b / 2) false = true)
theorem var_at {z : Int} {x : Nat} (h : litVar z = (x : Int)) (h1 : 1 ≤ x) : 2 ≤ z ∧ z / 2 = (x : Int) := by
  unfold litVar at h
  split at h <;> omega
theorem rep_no (n x : Nat) : (List.replicate n false).getD x false = false := by
  simp only [List.getD]
  by_cases hj : x < n
  · simp [hj]
  · rw [List.getElem?_eq_none (by simp; omega)]; rfl
theorem rch_start (N : Net) (zs : List Int) : Rch N zs N.length (markTo (List.replicate (N.length + 1) false) zs) := by
  have key := fun x => markTo_at zs (List.replicate (N.length + 1) false) x
  simp only [rep_no, List.length_replicate, Bool.false_eq_true, false_or] at key
  refine ⟨by rw [markTo_len]; simp, ?_, fun x h1 h2 h => ?_, fun z hz x h1 h2 h => (key x).2 ⟨h1, by omega, z, hz, h⟩, fun i a b h1 h2 => ?_⟩
  · cases h : (markTo (List.replicate (N.length + 1) false) zs).getD 0 false with
    | false => rfl
    | true => have := (key 0).1 h; omega
  · obtain ⟨-, -, z, hz, e⟩ := (key x).1 h
    obtain ⟨e1, e2⟩ := var_at e h1
    exact of_iff.2 ⟨z, hz, e1, by omega, by rw [e2, show ((x : Int)).toNat = x by omega, show x - 1 + 1 = x by omega]; exact hang_self h1 h2⟩
  · have := (List.getElem?_eq_some_iff.1 h2).1
    omega
theorem rch_skip {N : Net} {zs : List Int} {k : Nat} {L : List Bool} (r : Rch N zs (k + 1) L) (h : L.getD (k + 1) false = false ∨ N[k]? = some none) : Rch N zs k L := by
  refine ⟨r.len, r.zero, r.sound, r.top, fun i a b h1 h2 h3 => ?_⟩
  by_cases e : i = k
  · subst e
    rcases h with h | h
    · rw [h] at h3; cases h3
    · rw [h] at h2; cases h2
  · exact r.down i a b (by omega) h2 h3
theorem var_small {a : Nat} (h : a ≤ 33554433) : litVar (a : Int) = ((a / 2 : Nat) : Int) := by
  rw [var_yes (good_yes (by omega) (by omega))]; omega
theorem rch_mark {N : Net} (hN : Good N) (hl : N.length ≤ 1000000) {zs : List Int} {k a b : Nat} {L : List Bool} (r : Rch N zs (k + 1) L) (hm : L.getD (k + 1) false = true) (e : N[k]? = some (some (a, b))) : Rch N zs k (markTo L [(a : Int), (b : Int)]) := by
  have hk := (List.getElem?_eq_some_iff.1 e).1
  obtain ⟨g1, g2⟩ := hN k a b e
  have va := var_small (a := a) (by omega)
  have vb := var_small (a := b) (by omega)
  have key : ∀ x, (markTo L [(a : Int), (b : Int)]).getD x false = true ↔ L.getD x false = true ∨ (1 ≤ x ∧ (x = a / 2 ∨ x = b / 2)) := fun x => by
    rw [markTo_at, r.len]
    constructor
    · rintro (h | ⟨h1, h2, z, hz, h3⟩)
      · exact .inl h
      · simp at hz
        rcases hz with rfl | rfl
        · rw [va] at h3; exact .inr ⟨h1, .inl (by omega)⟩
        · rw [vb] at h3; exact .inr ⟨h1, .inr (by omega)⟩
    · rintro (h | ⟨h1, h2 | h2⟩)
      · exact .inl h
      · exact .inr ⟨h1, by omega, (a : Int), by simp, by rw [va, h2]⟩
      · exact .inr ⟨h1, by omega, (b : Int), by simp, by rw [vb, h2]⟩
  have hof := r.sound (k + 1) (by omega) (by omega) hm
  obtain ⟨d1, d2⟩ := of_down hN hof e
  refine ⟨by rw [markTo_len]; exact r.len, ?_, fun x h1 h2 h => ?_, fun z hz x h1 h2 h => (key x).2 (.inl (r.top z hz x h1 h2 h)), fun i p q h1 h2 h3 => ?_⟩
  · cases h : (markTo L [(a : Int), (b : Int)]).getD 0 false with
    | false => rfl
    | true =>
      rcases (key 0).1 h with h | h
      · rw [r.zero] at h; cases h
      · omega
  · rcases (key x).1 h with h | ⟨-, h | h⟩
    · exact r.sound x h1 h2 h
    · subst h; exact d1 h1
    · subst h; exact d2 h1
  · by_cases e2 : i = k
    · subst e2
      rw [e] at h2
      obtain ⟨rfl, rfl⟩ : a = p ∧ b = q := by simpa using h2
      exact ⟨fun g => (key _).2 (.inr ⟨g, .inl rfl⟩), fun g => (key _).2 (.inr ⟨g, .inr rfl⟩)⟩
    · have h4 : L.getD (i + 1) false = true := by
        rcases (key (i + 1)).1 h3 with h | ⟨-, h | h⟩
        · exact h
        · omega
        · omega
      obtain ⟨k1, k2⟩ := r.down i p q (by omega) h2 h4
      exact ⟨fun g => (key _).2 (.inl (k1 g)), fun g => (key _).2 (.inl (k2 g))⟩
/-- of each variable, from 0 on, whether literals hang on it -/
def reachL (N : Net) (zs : List Int) : List Bool := false :: (List.range N.length).map (ofB N zs)
theorem reach_len (N : Net) (zs : List Int) : (reachL N zs).length = N.length + 1 := by unfold reachL; simp
theorem reach_at {N : Net} (zs : List Int) {i : Nat} (h : i < N.length) : (reachL N zs).getD (i + 1) false = ofB N zs i := by
  unfold reachL
  simp [List.getD, h]
theorem rch_end {N : Net} (hN : Good N) (hl : N.length ≤ 1000000) {zs : List Int} {L : List Bool} (r : Rch N zs 0 L) : L = reachL N zs := by
  have key : ∀ i, i < N.length → L.getD (i + 1) false = ofB N zs i := by
    intro i hi
    rw [Bool.eq_iff_iff]
    constructor
    · exact r.sound (i + 1) (by omega) (by omega)
    · intro h
      obtain ⟨z, hz, h1, h2, h3⟩ := of_iff.1 h
      have hs := closed_hang hN (S := fun x => x = 0 ∨ L.getD x false = true) (fun j a b e hj => by
        rcases hj with hj | hj
        · omega
        · obtain ⟨k1, k2⟩ := r.down j a b (Nat.zero_le _) e hj
          exact ⟨by by_cases g : a / 2 = 0; exact .inl g; exact .inr (k1 (by omega)), by by_cases g : b / 2 = 0; exact .inl g; exact .inr (k2 (by omega))⟩)
        (z / 2).toNat (.inr (r.top z hz _ (by omega) (by omega) (by rw [var_yes (good_yes (by omega) (by omega))]; omega))) h3
      rcases hs with h | h
      · omega
      · exact h
  refine List.ext_getElem? fun x => ?_
  by_cases hx : x < N.length + 1
  · have e1 : L[x]? = some (L.getD x false) := by
      rw [List.getElem?_eq_getElem (by rw [r.len]; exact hx)]; simp [List.getD, r.len, hx]
    have e2 : (reachL N zs)[x]? = some ((reachL N zs).getD x false) := by
      rw [List.getElem?_eq_getElem (by rw [reach_len]; exact hx)]; simp [List.getD, reach_len, hx]
    rw [e1, e2]
    cases x with
    | zero => rw [r.zero]; rfl
    | succ i => rw [key i (by omega), reach_at zs (by omega)]
  · rw [List.getElem?_eq_none (by rw [r.len]; omega), List.getElem?_eq_none (by rw [reach_len]; omega)]
end Go.Proofs.Ytbdmndhjbemenaa.agf
