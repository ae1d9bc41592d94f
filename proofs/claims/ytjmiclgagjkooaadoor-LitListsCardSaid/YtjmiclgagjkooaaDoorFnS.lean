/- Plain functions: numbers that rise, each once; which are tied. -/
import Derived.Lib.SlicesCompact
import Derived.Test.YtjmiclgagjkooaaDoorFnV
namespace Go.Proofs.YtjmiclgagjkooaaDoor.fns

def Rising (l : List Int) : Prop := l.Pairwise (· < ·)
theorem rising_eq : ∀ {a b : List Int}, Rising a → Rising b → (∀ x, x ∈ a ↔ x ∈ b) → a = b
  | [], [], _, _, _ => rfl
  | [], y :: ys, _, _, h => absurd ((h y).2 (by simp)) (by simp)
  | x :: xs, [], _, _, h => absurd ((h x).1 (by simp)) (by simp)
  | x :: xs, y :: ys, ha, hb, h => by
    obtain ⟨ha1, ha2⟩ := List.pairwise_cons.1 ha
    obtain ⟨hb1, hb2⟩ := List.pairwise_cons.1 hb
    have e : x = y := by
      rcases List.mem_cons.1 ((h x).1 (by simp)) with e | e
      · exact e
      · rcases List.mem_cons.1 ((h y).2 (by simp)) with e' | e'
        · exact e'.symm
        · have := ha1 y e'; have := hb1 x e; omega
    subst e
    have ih := rising_eq (a := xs) (b := ys) ha2 hb2 (fun z => by
      constructor
      · intro hz
        rcases List.mem_cons.1 ((h z).1 (List.mem_cons_of_mem _ hz)) with e | e
        · have := ha1 z hz; omega
        · exact e
      · intro hz
        rcases List.mem_cons.1 ((h z).2 (List.mem_cons_of_mem _ hz)) with e | e
        · have := hb1 z hz; omega
        · exact e)
    rw [ih]

/-- one number more -/
def ins (out : List Int) (x : Int) : List Int := if out.contains x then out else out.filter (fun y => decide (y < x)) ++ x :: out.filter (fun y => decide (x < y))
def insR (l : List Int) : List Int := l.foldl ins []
theorem ins_yes {out : List Int} {x : Int} (h : out.contains x = true) : ins out x = out := by unfold ins; rw [if_pos h]
theorem ins_no {out : List Int} {x : Int} (h : out.contains x = false) : ins out x = out.filter (fun y => decide (y < x)) ++ x :: out.filter (fun y => decide (x < y)) := by unfold ins; rw [if_neg (by simp only [h]; decide)]
theorem mem_ins (out : List Int) (x y : Int) : y ∈ ins out x ↔ y ∈ out ∨ y = x := by
  cases h : out.contains x with
  | true =>
    rw [ins_yes h]
    have : x ∈ out := by simpa using h
    constructor
    · exact .inl
    · rintro (h | rfl)
      · exact h
      · exact this
  | false =>
    rw [ins_no h]
    simp only [List.mem_append, List.mem_filter, List.mem_cons, decide_eq_true_eq]
    constructor
    · rintro (⟨h, -⟩ | h | ⟨h, -⟩)
      · exact .inl h
      · exact .inr h
      · exact .inl h
    · rintro (h | h)
      · rcases Int.lt_trichotomy y x with h' | h' | h'
        · exact .inl ⟨h, h'⟩
        · exact .inr (.inl h')
        · exact .inr (.inr ⟨h, h'⟩)
      · exact .inr (.inl h)
theorem ins_rising {out : List Int} (h : Rising out) (x : Int) : Rising (ins out x) := by
  cases hc : out.contains x with
  | true => rw [ins_yes hc]; exact h
  | false =>
    rw [ins_no hc]
    refine List.pairwise_append.2 ⟨h.filter _, List.pairwise_cons.2 ⟨?_, h.filter _⟩, ?_⟩
    · intro y hy; simpa using (List.mem_filter.1 hy).2
    · intro y hy z hz
      have hy' : y < x := by simpa using (List.mem_filter.1 hy).2
      rcases List.mem_cons.1 hz with e | e
      · rw [e]; exact hy'
      · have : x < z := by simpa using (List.mem_filter.1 e).2
        omega
theorem ins_len (out : List Int) (x : Int) : (ins out x).length ≤ out.length + 1 := by
  cases hc : out.contains x with
  | true => rw [ins_yes hc]; omega
  | false =>
    rw [ins_no hc, List.length_append, List.length_cons]
    have gen : ∀ l : List Int, (l.filter (fun y => decide (y < x))).length + (l.filter (fun y => decide (x < y))).length ≤ l.length := by
      intro l
      induction l with
      | nil => simp
      | cons y ys ih =>
        by_cases h1 : y < x
        · rw [List.filter_cons_of_pos (by simpa using h1), List.filter_cons_of_neg (by simp; omega)]; simp only [List.length_cons]; omega
        · by_cases h2 : x < y
          · rw [List.filter_cons_of_neg (by simpa using h1), List.filter_cons_of_pos (by simpa using h2)]; simp only [List.length_cons]; omega
          · rw [List.filter_cons_of_neg (by simpa using h1), List.filter_cons_of_neg (by simpa using h2)]; simp only [List.length_cons]; omega
    have := gen out
    omega
theorem insR_snoc (l : List Int) (x : Int) : insR (l ++ [x]) = ins (insR l) x := by unfold insR; rw [List.foldl_append]; rfl
theorem insR_all (n : Nat) : ∀ l : List Int, l.length = n → Rising (insR l) ∧ (∀ y, y ∈ insR l ↔ y ∈ l) ∧ (insR l).length ≤ n := by
  induction n with
  | zero => intro l h; rw [List.length_eq_zero_iff.1 h]; exact ⟨List.Pairwise.nil, fun y => by simp [insR], by simp [insR]⟩
  | succ n ih =>
    intro l h
    have hne : l ≠ [] := fun e => by rw [e] at h; simp at h
    obtain ⟨l', c, hlc⟩ : ∃ l' c, l = l' ++ [c] := ⟨_, _, (List.dropLast_concat_getLast hne).symm⟩
    subst hlc
    obtain ⟨h1, h2, h3⟩ := ih l' (by simpa using h)
    rw [insR_snoc]
    refine ⟨ins_rising h1 c, fun y => ?_, ?_⟩
    · rw [mem_ins, h2]; simp
    · have := ins_len (insR l') c; omega
theorem insR_rising (l : List Int) : Rising (insR l) := (insR_all _ l rfl).1
theorem mem_insR (l : List Int) (y : Int) : y ∈ insR l ↔ y ∈ l := (insR_all _ l rfl).2.1 y
theorem insR_len (l : List Int) : (insR l).length ≤ l.length := (insR_all _ l rfl).2.2

/-- numbers in order, each once -/
def srt (l : List Int) : List Int := Lib.compact (l.mergeSort fun x y => decide (x ≤ y))
theorem compact_up (d : Array Int) (hd : ∀ i j, i ≤ j → j < d.size → d[i]! ≤ d[j]!) : ∀ m, m ≤ d.size →
    Rising (Lib.compactUpTo d m) ∧ ∀ x, x ∈ Lib.compactUpTo d m ↔ ∃ j, j < m ∧ d[j]! = x := by
  intro m
  induction m with
  | zero => intro _; exact ⟨by simp [Lib.compactUpTo, Rising], fun x => by simp [Lib.compactUpTo]⟩
  | succ m ih =>
    intro hm
    obtain ⟨h1, h2⟩ := ih (by omega)
    rw [Lib.compactUpTo_succ]
    by_cases hk : m = 0 ∨ d[m]! ≠ d[m - 1]!
    · have hk' : Lib.keeps d m = true := by unfold Lib.keeps; simpa using hk
      rw [hk', if_pos rfl]
      constructor
      · refine List.pairwise_append.2 ⟨h1, by simp, fun y hy z hz => ?_⟩
        simp only [List.mem_singleton] at hz
        obtain ⟨j, hj, rfl⟩ := (h2 y).1 hy
        rcases hk with hk | hk
        · omega
        · have a1 := hd j (m - 1) (by omega) (by omega)
          have a2 := hd (m - 1) m (by omega) (by omega)
          omega
      · intro x
        rw [List.mem_append, h2, List.mem_singleton]
        constructor
        · rintro (⟨j, hj, h⟩ | h)
          · exact ⟨j, by omega, h⟩
          · exact ⟨m, by omega, h.symm⟩
        · rintro ⟨j, hj, h⟩
          by_cases e : j = m
          · subst e; exact .inr h.symm
          · exact .inl ⟨j, by omega, h⟩
    · have hk' : Lib.keeps d m = false := by unfold Lib.keeps; simpa using hk
      rw [hk']
      simp only [Bool.false_eq_true, if_false, List.append_nil]
      refine ⟨h1, fun x => ?_⟩
      rw [h2]
      constructor
      · rintro ⟨j, hj, h⟩; exact ⟨j, by omega, h⟩
      · rintro ⟨j, hj, h⟩
        by_cases e : j = m
        · subst e; exact ⟨j - 1, by omega, by rw [← h]; omega⟩
        · exact ⟨j, by omega, h⟩
theorem sorted_get (l : List Int) (i j : Nat) (hij : i ≤ j) (hj : j < (l.mergeSort fun x y => decide (x ≤ y)).toArray.size) :
    (l.mergeSort fun x y => decide (x ≤ y)).toArray[i]! ≤ (l.mergeSort fun x y => decide (x ≤ y)).toArray[j]! := by
  have hp : (l.mergeSort fun x y => decide (x ≤ y)).Pairwise (fun a b => decide (a ≤ b) = true) :=
    List.pairwise_mergeSort (fun a b c h1 h2 => by simp at *; omega) (fun a b => by simp; omega) l
  have hj' : j < (l.mergeSort fun x y => decide (x ≤ y)).length := by simpa using hj
  rw [getElem!_pos _ i (by simpa using (by omega : i < (l.mergeSort fun x y => decide (x ≤ y)).length)), getElem!_pos _ j hj]
  simp only [List.getElem_toArray]
  by_cases e : i = j
  · subst e; exact Int.le_refl _
  · have := List.pairwise_iff_getElem.1 hp i j (by omega) hj' (by omega)
    simpa using this
theorem srt_all (l : List Int) : Rising (srt l) ∧ ∀ x, x ∈ srt l ↔ x ∈ l := by
  obtain ⟨h1, h2⟩ := compact_up (l.mergeSort fun x y => decide (x ≤ y)).toArray (sorted_get l) (l.mergeSort fun x y => decide (x ≤ y)).length (by simp)
  refine ⟨h1, fun x => (h2 x).trans ?_⟩
  rw [← (List.mergeSort_perm l fun x y => decide (x ≤ y)).mem_iff]
  constructor
  · rintro ⟨j, hj, h⟩
    rw [getElem!_pos _ j (by simpa using hj)] at h
    rw [← h]
    exact List.getElem_mem _
  · intro h
    obtain ⟨j, hj, h⟩ := List.getElem_of_mem h
    exact ⟨j, hj, by rw [getElem!_pos _ j (by simpa using hj)]; exact h⟩
theorem srt_ins (l : List Int) : srt l = insR l :=
  rising_eq (srt_all l).1 (insR_rising l) (fun x => by rw [(srt_all l).2, mem_insR])
theorem srt_nil : srt [] = [] := by rw [srt_ins]; rfl
theorem mergeSort_len (l : List Int) : (l.mergeSort fun x y => decide (x ≤ y)).length = l.length := List.length_mergeSort l

/-- are a literal and its inverse among some -/
def tiedB (l : List Int) : Bool := l.any fun x => goodB x && l.contains (litNot x)
theorem tied_yes {l : List Int} {x : Int} (h : x ∈ l) (hg : goodB x = true) (hn : l.contains (litNot x) = true) : tiedB l = true :=
  List.any_eq_true.2 ⟨x, h, by rw [hg, hn]; rfl⟩
theorem tied_no {l : List Int} (h : ∀ x ∈ l, (goodB x && l.contains (litNot x)) = false) : tiedB l = false := by
  cases ht : tiedB l with
  | false => rfl
  | true => obtain ⟨x, hx, hx'⟩ := List.any_eq_true.1 ht; rw [h x hx] at hx'; cases hx'
/-- a literal's inverse stands right before it -/
def hit (r : List Int) (i : Nat) : Bool := litNeg (r.getD i 0) && decide (r.getD (i - 1) 0 = litNot (r.getD i 0))
theorem getD_of {r : List Int} {i : Nat} (h : i < r.length) : r.getD i 0 = r[i] := by simp [List.getD, h]
theorem hit_tied {l : List Int} {i : Nat} (h0 : 1 ≤ i) (h1 : i < (srt l).length) (h : hit (srt l) i = true) : tiedB l = true := by
  unfold hit at h
  rw [Bool.and_eq_true, decide_eq_true_eq, getD_of h1, getD_of (by omega)] at h
  have hm : (srt l)[i] ∈ l := ((srt_all l).2 _).1 (List.getElem_mem _)
  have hm' : (srt l)[i - 1] ∈ l := ((srt_all l).2 _).1 (List.getElem_mem _)
  refine tied_yes hm ?_ (by rw [← h.2]; simpa using hm')
  have := h.1
  unfold litNeg at this
  rw [Bool.and_eq_true] at this
  exact this.1
theorem tied_hit {l : List Int} (h : tiedB l = true) : ∃ i, 1 ≤ i ∧ i < (srt l).length ∧ hit (srt l) i = true := by
  obtain ⟨x, hx, hx'⟩ := List.any_eq_true.1 h
  rw [Bool.and_eq_true] at hx'
  obtain ⟨hg, hn⟩ := hx'
  have hn' : litNot x ∈ l := by simpa using hn
  obtain ⟨g0, g1⟩ := good_iff.1 hg
  -- the pair, the greater one first
  obtain ⟨y, hy, hy', hgy, hodd⟩ : ∃ y, y ∈ l ∧ litNot y ∈ l ∧ goodB y = true ∧ y % 2 = 1 := by
    by_cases h2 : x % 2 = 1
    · exact ⟨x, hx, hn', hg, h2⟩
    · rw [not_even hg (by omega)] at hn'
      have hg' : goodB (x + 1) = true := good_yes (by omega) (by omega)
      exact ⟨x + 1, hn', by rw [not_odd hg' (by omega)]; simpa using hx, hg', by omega⟩
  have hny := not_odd hgy hodd
  obtain ⟨hr, hm⟩ := srt_all l
  obtain ⟨i, hi, ei⟩ := List.getElem_of_mem ((hm y).2 hy)
  obtain ⟨j, hj, ej⟩ := List.getElem_of_mem ((hm _).2 hy')
  have up : ∀ a b (ha : a < (srt l).length) (hb : b < (srt l).length), a < b → (srt l)[a] < (srt l)[b] := fun a b ha hb hab => List.pairwise_iff_getElem.1 hr a b ha hb hab
  have hji : j < i := by
    rcases Nat.lt_trichotomy j i with h | h | h
    · exact h
    · subst h; rw [ei] at ej; omega
    · have := up i j hi hj h; rw [ei, ej] at this; omega
  have hj1 : j = i - 1 := by
    by_cases e : j = i - 1
    · exact e
    · have a1 := up j (i - 1) hj (by omega) (by omega)
      have a2 := up (i - 1) i (by omega) hi (by omega)
      rw [ei] at a2; rw [ej] at a1; omega
  refine ⟨i, by omega, hi, ?_⟩
  unfold hit
  rw [getD_of hi, getD_of (show i - 1 < _ by omega), ei, neg_odd hgy hodd]
  subst hj1
  rw [ej]
  simp
theorem no_hit {l : List Int} (h : ∀ i, 1 ≤ i → i < (srt l).length → hit (srt l) i = false) : tiedB l = false := by
  cases ht : tiedB l with
  | false => rfl
  | true => obtain ⟨i, h0, h1, h2⟩ := tied_hit ht; rw [h i h0 h1] at h2; cases h2
end Go.Proofs.YtjmiclgagjkooaaDoor.fns
