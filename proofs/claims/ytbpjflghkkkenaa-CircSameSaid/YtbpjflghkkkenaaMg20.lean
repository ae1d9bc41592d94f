import Derived.Test.YtbpjflghkkkenaaMg17
import Derived.Test.YtbpjflghkkkenaaMg13
import Derived.Test.YtbpjflghkkkenaaMg19
import Derived.Test.YtbpjflghkkkenaaMg15
/- What look finds, purely. -/
namespace Go.Proofs.Ytbpjflghkkkenaa.row
open Go.Proofs.Ytbpjflghkkkenaa.fns

theorem getD_mem {l : List Int} {i : Nat} (h : i < l.length) : l.getD i 0 ∈ l := by
  have e : l.getD i 0 = l[i] := by simp [List.getD, h]
  rw [e]; exact List.getElem_mem h
theorem some_any (p : Int → Bool) (l : List Int) : someTo (fun i => p (l.getD i 0)) l.length = l.any p := by
  rw [Bool.eq_iff_iff]
  unfold someTo
  rw [List.any_eq_true, List.any_eq_true]
  constructor
  · rintro ⟨i, hi, h⟩
    exact ⟨_, getD_mem (List.mem_range.1 hi), h⟩
  · rintro ⟨x, hx, h⟩
    obtain ⟨i, hi, e⟩ := List.getElem_of_mem hx
    refine ⟨i, List.mem_range.2 hi, ?_⟩
    have e2 : l.getD i 0 = x := by simp [List.getD, hi, e]
    show p (l.getD i 0) = true
    rw [e2]; exact h
theorem some_anyT (p : Tri → Bool) (l : List Tri) : someTo (fun i => p (l.getD i (0, 0, 0))) l.length = l.any p := by
  rw [Bool.eq_iff_iff]
  unfold someTo
  rw [List.any_eq_true, List.any_eq_true]
  constructor
  · rintro ⟨i, hi, h⟩
    have hi := List.mem_range.1 hi
    have e : l.getD i (0, 0, 0) = l[i] := by simp [List.getD, hi]
    have h : p (l.getD i (0, 0, 0)) = true := h
    rw [e] at h
    exact ⟨_, List.getElem_mem hi, h⟩
  · rintro ⟨x, hx, h⟩
    obtain ⟨i, hi, e⟩ := List.getElem_of_mem hx
    refine ⟨i, List.mem_range.2 hi, ?_⟩
    have e2 : l.getD i (0, 0, 0) = x := by simp [List.getD, hi, e]
    show p (l.getD i (0, 0, 0)) = true
    rw [e2]; exact h
theorem own_bad {m x : Int} (h0 : 0 ≤ m) (h1 : m ≤ 16777216) : isOwnB m x = !badO m x := by
  unfold isOwnB isLitB badO litNeg
  by_cases hg : 0 ≤ x ∧ x ≤ 33554433
  · have g := good_yes hg.1 hg.2
    rw [var_yes g, g, Bool.eq_iff_iff]
    simp
    omega
  · have g := good_no hg
    rw [g, Bool.eq_iff_iff]
    simp
    omega
theorem lit_bad {m x : Int} (h0 : 0 ≤ m) (h1 : m ≤ 16777216) : isLitB m x = !badU m x := by
  unfold isLitB badU
  by_cases hg : 0 ≤ x ∧ x ≤ 33554433
  · have g := good_yes hg.1 hg.2
    rw [var_yes g, g, Bool.eq_iff_iff]
    simp
    omega
  · have g := good_no hg
    rw [g, Bool.eq_iff_iff]
    simp
    omega
theorem res_bad (t : Tri) : isResB t = !badR t := by
  unfold isResB badR
  rw [Bool.eq_iff_iff]
  simp
  by_cases h0 : t.2.2 = 0 <;> by_cases h1 : t.2.2 = 1 <;> by_cases h2 : t.2.2 = t.1 <;> simp [h0, h1, h2]
theorem use_mem (D : CD) (x : Int) : x ∈ useL D ↔ x ∈ usedL D := by
  unfold useL usedL
  simp only [List.mem_append]
  constructor
  · rintro (h | h | h | h | h)
    · exact .inl (.inr h)
    · exact .inr h
    · exact .inl (.inl (.inl (.inl h)))
    · exact .inl (.inl (.inl (.inr h)))
    · exact .inl (.inl (.inr h))
  · rintro ((((h | h) | h) | h) | h)
    · exact .inr (.inr (.inl h))
    · exact .inr (.inr (.inr (.inl h)))
    · exact .inr (.inr (.inr (.inr h)))
    · exact .inl h
    · exact .inr (.inl h)
theorem not_any {α : Type} (p : α → Bool) (l : List α) : l.all (fun x => !p x) = !l.any p := by
  induction l with
  | nil => rfl
  | cons x l ih => rw [List.all_cons, List.any_cons, ih]; cases p x <;> rfl
theorem all_congr {α : Type} {p q : α → Bool} (h : ∀ x, p x = q x) (l : List α) : l.all p = l.all q := by rw [show p = q from funext h]
theorem range_is (D : CD) : rangeB D = (!c1B D && (!c2B D && (!c3B D && !c4B D))) := by
  unfold rangeB
  cases h1 : c1B D with
  | true => rfl
  | false =>
    have hb : 0 ≤ D.max ∧ D.max ≤ 16777216 := by
      unfold c1B at h1
      simp only [Bool.or_eq_false_iff, decide_eq_false_iff_not] at h1
      omega
    have e2 : (ownedL D).all (isOwnB D.max) = !c2B D := by
      unfold c2B
      rw [some_any (badO D.max), ← not_any]
      exact all_congr (fun x => own_bad hb.1 hb.2) _
    have e3 : (useL D).all (isLitB D.max) = !c3B D := by
      unfold c3B
      rw [some_any (badU D.max), ← not_any, Bool.eq_iff_iff, List.all_eq_true, List.all_eq_true]
      constructor
      · intro h x hx; rw [← lit_bad hb.1 hb.2]; exact h x ((use_mem D x).2 hx)
      · intro h x hx; rw [lit_bad hb.1 hb.2]; exact h x ((use_mem D x).1 hx)
    have e4 : D.lats.all isResB = !c4B D := by
      unfold c4B
      rw [some_anyT badR, ← not_any]
      exact all_congr res_bad _
    rw [e2, e3, e4]
/-- what is so of a circuit whose numbers are in range -/
structure Ran (D : CD) : Prop where
  m : 0 ≤ D.max ∧ D.max ≤ 16777216
  o : ∀ x ∈ ownedL D, 2 ≤ x ∧ x % 2 = 0 ∧ x ≤ 2 * D.max
  u : ∀ x ∈ useL D, 0 ≤ x ∧ x ≤ 2 * D.max + 1
  c : c1B D = false ∧ c2B D = false ∧ c3B D = false ∧ c4B D = false
theorem ran_of {D : CD} (h : rangeB D = true) : Ran D := by
  rw [range_is] at h
  simp only [Bool.and_eq_true, Bool.not_eq_true'] at h
  obtain ⟨h1, h2, h3, h4⟩ := h
  have hb : 0 ≤ D.max ∧ D.max ≤ 16777216 := by
    have h1 := h1
    unfold c1B at h1
    simp only [Bool.or_eq_false_iff, decide_eq_false_iff_not] at h1
    omega
  refine ⟨hb, fun x hx => ?_, fun x hx => ?_, h1, h2, h3, h4⟩
  · have := some_mem h2 hx
    unfold badO at this
    simp only [Bool.or_eq_false_iff, decide_eq_false_iff_not] at this
    omega
  · have := some_mem h3 ((use_mem D x).1 hx)
    unfold badU at this
    simp only [Bool.or_eq_false_iff, decide_eq_false_iff_not] at this
    omega
theorem Ran.ov {D : CD} (h : Ran D) {x : Int} (hx : x ∈ ownedL D) : litVar x = x / 2 := by
  have := h.o x hx; have := h.m
  exact var_yes (good_yes (by omega) (by omega))
theorem Ran.uv {D : CD} (h : Ran D) {x : Int} (hx : x ∈ useL D) : litVar x = x / 2 := by
  have := h.u x hx; have := h.m
  exact var_yes (good_yes (by omega) (by omega))
/-! ## The greatest variable -/
theorem max_all : ∀ (l : List Int) (s : Int), (allS maxS s l).1 = true ∧ s ≤ (allS maxS s l).2 ∧ (∀ x ∈ l, litVar x ≤ (allS maxS s l).2) ∧ ∀ m, s ≤ m → (∀ x ∈ l, litVar x ≤ m) → (allS maxS s l).2 ≤ m := by
  intro l
  induction l with
  | nil => intro s; exact ⟨rfl, Int.le_refl _, fun x hx => by simp at hx, fun m h _ => h⟩
  | cons y l ih =>
    intro s
    rw [allS_cons]
    show (if true = true then allS maxS (max s (litVar y)) l else (false, _)).1 = true ∧ _
    simp only [if_true]
    obtain ⟨h1, h2, h3, h4⟩ := ih (max s (litVar y))
    have e : (maxS s y).1 = true := rfl
    have e2 : (maxS s y).2 = max s (litVar y) := rfl
    rw [e, e2]
    simp only [if_true]
    refine ⟨h1, by omega, fun x hx => ?_, fun m hm hx => h4 m ?_ (fun x hx2 => hx x (List.mem_cons_of_mem _ hx2))⟩
    · rcases List.mem_cons.1 hx with rfl | hx
      · omega
      · exact h3 x hx
    · have := hx y List.mem_cons_self
      omega
/-! ## One Lit twice -/
theorem new_all : ∀ (l : List Int) (s : List Bool), (∀ x ∈ l, 0 ≤ litVar x ∧ (litVar x).toNat < s.length) →
    ((allS newS s l).1 = true ↔ (∀ x ∈ l, s.getD (litVar x).toNat false = false) ∧ l.Pairwise (fun x y => litVar x ≠ litVar y)) ∧
    ((allS newS s l).1 = true → (allS newS s l).2.length = s.length ∧ ∀ v, (allS newS s l).2.getD v false = true ↔ s.getD v false = true ∨ ∃ x ∈ l, (litVar x).toNat = v) := by
  intro l
  induction l with
  | nil => intro s _; exact ⟨⟨fun _ => ⟨fun x hx => by simp at hx, List.Pairwise.nil⟩, fun _ => rfl⟩, fun _ => ⟨rfl, fun v => ⟨.inl, fun h => h.elim id (fun ⟨x, hx, _⟩ => by simp at hx)⟩⟩⟩
  | cons y l ih =>
    intro s hv
    obtain ⟨y0, y1⟩ := hv y List.mem_cons_self
    have e1 : (newS s y).1 = !s.getD (litVar y).toNat false := rfl
    have e2 : (newS s y).2 = s.set (litVar y).toNat true := rfl
    rw [allS_cons, e1, e2]
    have gs : ∀ v, (s.set (litVar y).toNat true).getD v false = true ↔ s.getD v false = true ∨ (litVar y).toNat = v := by
      intro v
      rw [getD_setG]
      by_cases e : (litVar y).toNat = v
      · rw [if_pos ⟨e, y1⟩]; simp [e]
      · rw [if_neg (fun e2 => e e2.1)]; simp [e]
    obtain ⟨h1, h2⟩ := ih (s.set (litVar y).toNat true) (fun x hx => by rw [List.length_set]; exact hv x (List.mem_cons_of_mem _ hx))
    cases hy : s.getD (litVar y).toNat false with
    | true =>
      simp only [Bool.not_true, Bool.false_eq_true, if_false]
      exact ⟨⟨(fun h => by cases h), (fun h => by have := h.1 y List.mem_cons_self; rw [hy] at this; cases this)⟩, (fun h => by cases h)⟩
    | false =>
      simp only [Bool.not_false, if_true]
      refine ⟨?_, fun h => ?_⟩
      · rw [h1, List.pairwise_cons]
        constructor
        · rintro ⟨a, b⟩
          have key : ∀ x ∈ l, s.getD (litVar x).toNat false = false ∧ litVar y ≠ litVar x := by
            intro x hx
            have ha := a x hx
            have : ¬ (s.set (litVar y).toNat true).getD (litVar x).toNat false = true := by rw [ha]; simp
            rw [gs] at this
            refine ⟨by cases hs : s.getD (litVar x).toNat false with
              | false => rfl
              | true => exact absurd (.inl hs) this, fun e => this (.inr (by rw [e]))⟩
          refine ⟨fun x hx => ?_, fun x hx => (key x hx).2, b⟩
          rcases List.mem_cons.1 hx with rfl | hx
          · exact hy
          · exact (key x hx).1
        · rintro ⟨a, b, c⟩
          refine ⟨fun x hx => ?_, c⟩
          cases hs : (s.set (litVar y).toNat true).getD (litVar x).toNat false with
          | false => rfl
          | true =>
            rcases (gs _).1 hs with e | e
            · rw [a x (List.mem_cons_of_mem _ hx)] at e; cases e
            · have h3 := b x hx
              have := (hv x (List.mem_cons_of_mem _ hx)).1
              omega
      · obtain ⟨g1, g2⟩ := h2 h
        refine ⟨by rw [g1, List.length_set], fun v => ?_⟩
        rw [g2 v, gs v]
        constructor
        · rintro ((a | a) | ⟨x, hx, a⟩)
          · exact .inl a
          · exact .inr ⟨y, List.mem_cons_self, a⟩
          · exact .inr ⟨x, List.mem_cons_of_mem _ hx, a⟩
        · rintro (a | ⟨x, hx, a⟩)
          · exact .inl (.inl a)
          · rcases List.mem_cons.1 hx with rfl | hx
            · exact .inl (.inr a)
            · exact .inr ⟨x, hx, a⟩
theorem dup_iff (own : List Int) : someTo (dupI own) own.length = false ↔ own.Nodup := by
  have gd : ∀ i (hi : i < own.length), own.getD i 0 = own[i] := fun i hi => by simp [List.getD, hi]
  constructor
  · intro h
    unfold List.Nodup
    rw [List.pairwise_iff_getElem]
    intro i j hi hj hij e
    have := some_not h hj
    unfold dupI hasI at this
    rw [decide_eq_false_iff_not, gd j hj, ← e] at this
    exact this (List.mem_take_iff_getElem.2 ⟨i, by omega, rfl⟩)
  · intro h
    cases hs : someTo (dupI own) own.length with
    | false => rfl
    | true =>
      exfalso
      unfold someTo at hs
      rw [List.any_eq_true] at hs
      obtain ⟨j, hj, hd⟩ := hs
      have hj := List.mem_range.1 hj
      unfold dupI hasI at hd
      rw [decide_eq_true_eq, gd j hj] at hd
      obtain ⟨i, hi, e⟩ := List.mem_take_iff_getElem.1 hd
      unfold List.Nodup at h
      rw [List.pairwise_iff_getElem] at h
      exact h i j (by omega) hj (by omega) e
/-! ## What look finds -/
theorem last_of {D : CD} (h : Ran D) : ∃ last : Nat, allS maxS 0 (ownedL D) = (true, (last : Int)) ∧ last ≤ 16777216 ∧ ∀ x ∈ ownedL D, VarIn (last + 1) x := by
  obtain ⟨h1, h2, h3, h4⟩ := max_all (ownedL D) 0
  have hm := h.m
  have h5 := h4 16777216 (by omega) (fun x hx => by rw [h.ov hx]; have := h.o x hx; omega)
  refine ⟨((allS maxS 0 (ownedL D)).2).toNat, ?_, by omega, fun x hx => ?_⟩
  · rw [Int.toNat_of_nonneg h2, ← h1]
  · have a := h3 x hx
    have b := h.ov hx
    have c := h.o x hx
    unfold VarIn
    omega
def mark0 (last : Nat) : List Bool := (List.replicate (last + 1) false).set 0 true
theorem mark0_at (last v : Nat) : (mark0 last).getD v false = decide (v = 0) := by
  unfold mark0
  rw [getD_setG, List.length_replicate, rep_getD]
  by_cases e : v = 0
  · subst e; simp
  · rw [if_neg (fun e2 => e e2.1.symm)]; simp [e]
theorem vars_in {D : CD} {last : Nat} (hv : ∀ x ∈ ownedL D, VarIn (last + 1) x) : ∀ x ∈ ownedL D, 0 ≤ litVar x ∧ (litVar x).toNat < (mark0 last).length := by
  intro x hx
  obtain ⟨a, b⟩ := hv x hx
  refine ⟨a, ?_⟩
  unfold mark0
  rw [List.length_set, List.length_replicate]
  omega
theorem pair_nodup {D : CD} (h : Ran D) : ∀ (l : List Int), (∀ x ∈ l, x ∈ ownedL D) → (l.Pairwise (fun x y => litVar x ≠ litVar y) ↔ l.Nodup) := by
  intro l
  induction l with
  | nil => intro _; simp
  | cons y l ih =>
    intro hl
    rw [List.pairwise_cons, List.nodup_cons, ih (fun x hx => hl x (List.mem_cons_of_mem _ hx))]
    have hy := hl y List.mem_cons_self
    have e1 := h.ov hy
    have e2 := h.o y hy
    constructor
    · rintro ⟨a, b⟩
      exact ⟨fun hm => a y hm rfl, b⟩
    · rintro ⟨a, b⟩
      refine ⟨fun x hx e => a ?_, b⟩
      have hx2 := hl x (List.mem_cons_of_mem _ hx)
      have e3 := h.ov hx2
      have e4 := h.o x hx2
      have : x = y := by omega
      rw [← this]; exact hx
theorem dup_of {D : CD} (h : Ran D) {last : Nat} (hv : ∀ x ∈ ownedL D, VarIn (last + 1) x) : (allS newS (mark0 last) (ownedL D)).1 = !c5B D := by
  obtain ⟨h1, -⟩ := new_all (ownedL D) (mark0 last) (vars_in hv)
  have hz : ∀ x ∈ ownedL D, (mark0 last).getD (litVar x).toNat false = false := by
    intro x hx
    rw [mark0_at]
    have a := h.ov hx
    have b := h.o x hx
    rw [decide_eq_false_iff_not]; omega
  rw [Bool.eq_iff_iff, h1, pair_nodup h _ (fun x hx => hx), Bool.not_eq_true']
  unfold c5B
  rw [dup_iff]
  exact ⟨fun a => a.2, fun a => ⟨hz, a⟩⟩
theorem marks_of {D : CD} {last : Nat} (hv : ∀ x ∈ ownedL D, VarIn (last + 1) x) (h1 : (allS newS (mark0 last) (ownedL D)).1 = true) :
    (allS newS (mark0 last) (ownedL D)).2.length = last + 1 ∧ ∀ v, (allS newS (mark0 last) (ownedL D)).2.getD v false = true ↔ v = 0 ∨ ∃ x ∈ ownedL D, (litVar x).toNat = v := by
  obtain ⟨-, h2⟩ := new_all (ownedL D) (mark0 last) (vars_in hv)
  obtain ⟨a, b⟩ := h2 h1
  refine ⟨by rw [a]; simp [mark0], fun v => ?_⟩
  rw [b v, mark0_at, decide_eq_true_eq]
theorem use_of {D : CD} (h : Ran D) {last : Nat} {s : List Bool} (hv : ∀ x ∈ ownedL D, VarIn (last + 1) x) (hs : ∀ v, s.getD v false = true ↔ v = 0 ∨ ∃ x ∈ ownedL D, (litVar x).toNat = v) : (useL D).all (isB last s) = !c6B D := by
  have key : ∀ l ∈ useL D, isB last s l = !misU (ownedL D) l := by
    intro l hl
    have e1 := h.uv hl
    have e2 := h.u l hl
    unfold isB misU hasI
    rw [e1, Bool.eq_iff_iff]
    simp only [Bool.and_eq_true, decide_eq_true_eq, Bool.not_and, Bool.or_eq_true, Bool.not_eq_true', decide_eq_false_iff_not, Bool.not_not]
    rw [hs]
    constructor
    · rintro ⟨-, e | ⟨x, hx, e⟩⟩
      · left; omega
      · right
        have a := h.ov hx
        have b := h.o x hx
        have : x = l - l % 2 := by omega
        rw [← this]; exact hx
    · rintro (e | e)
      · exact ⟨by omega, .inl (by omega)⟩
      · have a := h.ov e
        have b := h.o _ e
        have c := hv _ e
        unfold VarIn at c
        refine ⟨by omega, .inr ⟨_, e, by omega⟩⟩
  unfold c6B
  rw [some_any (misU (ownedL D)), ← not_any, Bool.eq_iff_iff, List.all_eq_true, List.all_eq_true]
  constructor
  · intro a x hx
    have hx2 := (use_mem D x).2 hx
    rw [← key x hx2]; exact a x hx2
  · intro a x hx
    rw [key x hx]; exact a x ((use_mem D x).1 hx)
theorem gg_of {D : CD} (h : Ran D) {last : Nat} (hv : ∀ x ∈ ownedL D, VarIn (last + 1) x) (h5 : c5B D = false) (h6 : c6B D = false) : GG D.gates (last + 1) := by
  have gm : ∀ i, i < D.gates.length → D.gates.getD i (0, 0, 0) ∈ D.gates := fun i hi => by
    have e : D.gates.getD i (0, 0, 0) = D.gates[i] := by simp [List.getD, hi]
    rw [e]; exact List.getElem_mem hi
  have own : ∀ x ∈ ownedL D, 0 ≤ x / 2 ∧ x / 2 < ((last + 1 : Nat) : Int) := by
    intro x hx
    have a := h.ov hx
    have b := hv x hx
    unfold VarIn at b
    rw [a] at b
    exact b
  have use : ∀ l ∈ usedL D, 0 ≤ l / 2 ∧ l / 2 < ((last + 1 : Nat) : Int) := by
    intro l hl
    have e2 := h.u l ((use_mem D l).2 hl)
    have h6 := h6
    unfold c6B at h6
    have := some_mem h6 hl
    unfold misU hasI at this
    simp only [Bool.and_eq_false_iff, decide_eq_false_iff_not, Bool.not_eq_false', decide_eq_true_eq] at this
    rcases this with e | e
    · omega
    · have a := own _ e
      omega
  refine ⟨fun i hi => own _ (owned_mem (gm i hi)), fun i hi => use _ (used_mem (gm i hi)).1, fun i hi => use _ (used_mem (gm i hi)).2, fun i j hi hj e => ?_⟩
  have hnd : (D.gates.map (fun t => t.1)).Nodup := by
    have h5 := h5
    unfold c5B at h5
    have := (dup_iff _).1 h5
    unfold ownedL at this
    exact (List.nodup_append.1 this).2.1
  have a := h.o _ (owned_mem (gm i hi))
  have b := h.o _ (owned_mem (gm j hj))
  unfold vL at e
  have e3 : (D.gates.getD i (0, 0, 0)).1 = (D.gates.getD j (0, 0, 0)).1 := by omega
  unfold List.Nodup at hnd
  rw [List.pairwise_iff_getElem] at hnd
  have gi : (D.gates.map (fun t => t.1))[i]'(by simpa using hi) = (D.gates.getD i (0, 0, 0)).1 := by simp [List.getD, hi]
  have gj : (D.gates.map (fun t => t.1))[j]'(by simpa using hj) = (D.gates.getD j (0, 0, 0)).1 := by simp [List.getD, hj]
  rcases Nat.lt_trichotomy i j with e4 | e4 | e4
  · exact absurd (by rw [gi, gj, e3]) (hnd i j (by simpa using hi) (by simpa using hj) e4)
  · exact e4
  · exact absurd (by rw [gi, gj, e3]) (hnd j i (by simpa using hj) (by simpa using hi) e4)
theorem ran_lit {D : CD} (h : Ran D) : ∀ t ∈ D.gates, Lit3 t := gates_lit h.c.1 h.c.2.1 h.c.2.2.1
end Go.Proofs.Ytbpjflghkkkenaa.row

/- look; Check and Order. -/
namespace Go.Proofs.Ytbpjflghkkkenaa.row
set_option maxRecDepth 100000
open Go.RowKit
open Go.Proofs.Ytbpjflghkkkenaa.aig (Only)
open Go.Proofs.Ytbpjflghkkkenaa.heap Go.Proofs.Ytbpjflghkkkenaa.hpf Go.Proofs.Ytbpjflghkkkenaa.fns

theorem sorted_of (last : Nat) (gs : List Tri) (ga : Option Addr) (gc : Nat) (w : World) (hn : gs.length ≤ 1000) (hl : last ≤ 50000000) (hgg : GG gs (last + 1)) (hl3 : ∀ t ∈ gs, Lit3 t) (hg : Rw enc3 3 (fun k => w.heap.size ≤ k) w (.slice ga gs.length gc) gs) :
    Calls Try.prog 46 #[.slice ga gs.length gc, .int .i64 (last : Int)] w (Sorted gs w) := by
  by_cases h0 : gs.length = 0
  · obtain rfl : gs = [] := List.eq_nil_of_length_eq_zero h0
    exact sorted_none last ga gc w hl
  · exact sorted_any gs.length last gs ga gc w (by omega) hn hl rfl hgg hl3 hg
theorem InC.low {W : Nat} {Q : Nat → Prop} {w w' : World} {D : CD} {F : CF} (h : InC (fun k => W ≤ k) w D F) (hq : ∀ k, Q k → W ≤ k) (o : Only Q w w') : InC (fun k => W ≤ k) w' D F :=
  ⟨rw_low h.i hq o, rw_low h.l hq o, rw_low h.o hq o, rw_low h.b hq o, rw_low h.c hq o, rw_low h.g hq o, rw_low h.s hq o⟩
theorem mk_bools2 (n : Nat) (w : World) (hn : n ≤ 1000000000) : (Instr.makeSlice 56 (.int .i64 (n : Int)) (.int .i64 (n : Int))).run Try.prog w =
    .ok (.slice (some ⟨w.heap.size, 0, none⟩) n n) (w.alloc (.cells (madeCells #[.bool false] n) 4)) := by
  obtain ⟨i0, hi, hz0, hz1, hz2⟩ := info_parts infoB1
  have h := run_make (P := Try.prog) w 56 4 i0 _ Try.underlying56 hi hz0 .i64 .i64 n n (by omega) (Int.le_refl _) (by rw [hz2]; omega) (by omega)
  rw [hz1, Nat.mul_one, Int.toNat_natCast] at h
  exact h
/-- what look hands back: an order, where nothing is wrong, and what is wrong -/
def Looked (D : CD) (w : World) (e : Ending) (w' : World) : Prop := ∃ ov, e = .returned (.tuple #[ov, .int .i64 (checkF D)]) ∧ (checkF D = 0 → w'.ownsRow w.heap.size 3 1 ov (orderL D.gates).length ((orderL D.gates).map (Value.int .i64))) ∧ Below w.heap.size w w'
theorem looked_bad {D : CD} {w w' : World} {z : Int} (hz : checkF D = z) (h0 : z ≠ 0) (hb : Below w.heap.size w w') : Looked D w (.returned (.tuple #[.slice none 0 0, .int .i64 z])) w' :=
  ⟨_, by rw [hz], fun h => absurd (hz.symm.trans h) h0, hb⟩
/-- what was new to an earlier world, too -/
theorem below_only {W : Nat} {Q : Nat → Prop} {w0 w w' : World} (h : Below W w0 w) (o : Only Q w w') (hq : ∀ k, Q k → W ≤ k) (hs : W ≤ w.heap.size) : Below W w0 w' :=
  h.trans ⟨o.os, o.tape, o.output, o.size, fun k hk => o.block k (by omega) (fun e => by have := hq k e; omega)⟩
set_option maxHeartbeats 6400000 in
theorem look_any (D : CD) (F : CF) (P : Nat → Prop) (w : World) (hc : InC P w D F) (hl : Lens D) : Calls Try.prog 21 #[cval D F] w (Looked D w) := by
  have hmf : ∀ (fn : Fn) (first cap : Array Value) (w : World), (Instr.makeFunc fn first cap).run Try.prog w = .ok (.func fn first cap) w := fun _ _ _ _ => rfl
  have hgl : D.gates.length ≤ 1000 := hl.g
  have B0 : Below w.heap.size w (w.alloc (.cells (ccells D F) 27)) := (Below.refl _ _).alloc (Nat.le_refl _) _
  have HC := Lib.hid ((hc.weak (Q := fun k => w.heap.size ≤ k) (fun k hk hq => absurd hq (by omega))).low (fun k (e : False) => e.elim) (only_of (P := fun _ => False) B0))
  have HX := Lib.hid (blk_new w (ccells D F) 27)
  have HB := Lib.hid B0
  obtain ⟨v, hv⟩ : ∃ v, v = w.alloc (.cells (ccells D F) 27) := ⟨_, rfl⟩
  obtain ⟨X, hX⟩ : ∃ X, X = w.heap.size := ⟨_, rfl⟩
  rw [← hv] at HC HX HB
  have HVW := Lib.hid hv
  have HXW := Lib.hid hX
  rw [← hX] at HX
  clear B0 hc hl hv hX
  go_enter Try.func21, Try.ntmps21
  go_upto_region 1 with fail
  rw [← HVW.out, ← HXW.out]
  have lX := HX.out.lt
  have k0 : v.cell? ⟨X, 0, none⟩ = some (.int .i64 D.max) := (HX.out.cell 0).1
  have k1 : v.cell? ⟨X, 1, none⟩ = some (.slice F.ai D.ins.length F.ci) := (HX.out.cell 1).1
  have k2 : v.cell? ⟨X, 2, none⟩ = some (.slice F.al D.lats.length F.cl) := (HX.out.cell 2).1
  have k3 : v.cell? ⟨X, 3, none⟩ = some (.slice F.ao D.outs.length F.co) := (HX.out.cell 3).1
  have k4 : v.cell? ⟨X, 4, none⟩ = some (.slice F.ab D.bads.length F.cb) := (HX.out.cell 4).1
  have k5 : v.cell? ⟨X, 5, none⟩ = some (.slice F.ac D.cons.length F.cc) := (HX.out.cell 5).1
  have k6 : v.cell? ⟨X, 6, none⟩ = some (.slice F.ag D.gates.length F.cg) := (HX.out.cell 6).1
  have k7 : v.cell? ⟨X, 7, none⟩ = some (.slice F.as_ D.syms.length F.cs) := (HX.out.cell 7).1
  have k8 : v.cell? ⟨X, 8, none⟩ = some (.string D.com) := (HX.out.cell 8).1
  cases hr : rangeB D with
  | false =>
    have HR := Lib.hid hr
    have HZ : Hid (checkF D = 5) := Lib.hid (by
      have h := hr
      rw [range_is] at h
      cases h1 : c1B D with
      | true => exact ck1 h1
      | false => cases h2 : c2B D with
        | true => exact ck2 h1 h2
        | false => cases h3 : c3B D with
          | true => exact ck3 h1 h2 h3
          | false => cases h4 : c4B D with
            | true => exact ck4 h1 h2 h3 h4
            | false => rw [h1, h2, h3, h4] at h; cases h)
    clear hr
    go_wp2_with fail
    go_at_call 40; refine (inRange_any D F _ v HC.out HR.out).mono ?_; rintro e w1 ⟨rfl, b1⟩
    have HE : Hid (Looked D w (.returned (.tuple #[.slice none 0 0, .int .i64 5])) w1) := Lib.hid (looked_bad HZ.out (by decide) (HB.out.trans (b1.mono HB.out.size)))
    clear b1
    go_wp2_with fail
    go_ret2
    exact HE.out
  | true =>
    have HR := Lib.hid hr
    have HRAN := Lib.hid (ran_of hr)
    clear hr
    obtain ⟨last, hlast, hl16, hvi⟩ := last_of HRAN.out
    have HLAST := Lib.hid hlast
    have HVI := Lib.hid hvi
    clear hlast hvi
    go_wp2_with fail
    go_at_call 40; refine (inRange_any D F _ v HC.out HR.out).mono ?_; rintro e w1 ⟨rfl, b1⟩
    -- last
    have bl : Below w1.heap.size w1 (w1.alloc (.cells #[.int .i64 0] 3)) := (Below.refl _ _).alloc (Nat.le_refl _) _
    have HL2 := Lib.hid (blk_new w1 #[.int .i64 0] 3)
    have HX2 := Lib.hid ((HX.out.on b1).on bl)
    have HC2 := Lib.hid ((HC.out.low (fun k (e : False) => e.elim) (only_of (P := fun _ => False) b1)).low (fun k (e : False) => e.elim) (only_of (P := fun _ => False) bl))
    have HB2 := Lib.hid ((HB.out.trans (b1.mono HB.out.size)).trans (bl.mono (by have := HB.out.size; have := b1.size; omega)))
    have HLW := Lib.hid (show w.heap.size ≤ w1.heap.size by have := HB.out.size; have := b1.size; omega)
    have HLV := Lib.hid (show v.heap.size ≤ w1.heap.size from b1.size)
    obtain ⟨v2, hv2⟩ : ∃ v2, v2 = w1.alloc (.cells #[.int .i64 0] 3) := ⟨_, rfl⟩
    obtain ⟨L, hL⟩ : ∃ L, L = w1.heap.size := ⟨_, rfl⟩
    rw [← hv2] at HL2 HX2 HC2 HB2
    rw [← hL] at HL2 HLW HLV
    have HV2 := Lib.hid hv2
    have HLE := Lib.hid hL
    clear b1 bl hv2 hL k0 k1 k2 k3 k4 k5 k6 k7 k8 lX
    go_upto_region 4 with fail
    rw [← HV2.out, ← HLE.out]
    have k0 : v2.cell? ⟨X, 0, none⟩ = some (.int .i64 D.max) := (HX2.out.cell 0).1
    have k1 : v2.cell? ⟨X, 1, none⟩ = some (.slice F.ai D.ins.length F.ci) := (HX2.out.cell 1).1
    have k2 : v2.cell? ⟨X, 2, none⟩ = some (.slice F.al D.lats.length F.cl) := (HX2.out.cell 2).1
    have k3 : v2.cell? ⟨X, 3, none⟩ = some (.slice F.ao D.outs.length F.co) := (HX2.out.cell 3).1
    have k4 : v2.cell? ⟨X, 4, none⟩ = some (.slice F.ab D.bads.length F.cb) := (HX2.out.cell 4).1
    have k5 : v2.cell? ⟨X, 5, none⟩ = some (.slice F.ac D.cons.length F.cc) := (HX2.out.cell 5).1
    have k6 : v2.cell? ⟨X, 6, none⟩ = some (.slice F.ag D.gates.length F.cg) := (HX2.out.cell 6).1
    have k7 : v2.cell? ⟨X, 7, none⟩ = some (.slice F.as_ D.syms.length F.cs) := (HX2.out.cell 7).1
    have k8 : v2.cell? ⟨X, 8, none⟩ = some (.string D.com) := (HX2.out.cell 8).1
    have lX := HX2.out.lt
    have lL := HL2.out.lt
    have HML := Lib.hid (max_acts L)
    have HMC : Hid (InC (fun k => k = L) v2 D F) := Lib.hid (HC2.out.weak (fun k _ e => by have := HLW.out; omega))
    go_wp2_with fail
    go_at_call 41; refine (everyLit_any HML.out D F v2 0 HMC.out (fun _ _ => trivial) HL2.out (fun k e => by have := HL2.out.lt; omega) HLAST.out).mono ?_; rintro e w2 ⟨rfl, r2, o2⟩
    have hnX : ¬ X = L := fun e => by have := HX.out.lt; have := HLV.out; omega
    have HL3 := Lib.hid r2
    have HX3 := Lib.hid (HX2.out.only hnX o2)
    have HC3 := Lib.hid (HC2.out.low (fun k e => by rw [e]; exact HLW.out) o2)
    have HB3 := Lib.hid (below_only HB2.out o2 (fun k e => by rw [e]; exact HLW.out) HB2.out.size)
    have HNX := Lib.hid hnX
    clear r2 o2 hnX k0 k1 k2 k3 k4 k5 k6 k7 k8 lX lL HMC HML
    have hmk := mk_bools2 (last + 1) w2 (by omega)
    have hw1 : IntKind.i64.wrap ((last : Int) + 1) = ((last + 1 : Nat) : Int) := by rw [IntWalk.i64_in _ (by omega)]; rfl
    have c0 : w2.cell? ⟨L, 0, none⟩ = some (.int .i64 (last : Int)) := (HL3.out.cell 0).1
    have lL := HL3.out.lt
    have lX := HX3.out.lt
    obtain ⟨n, hn⟩ : ∃ n, n = last + 1 := ⟨_, rfl⟩
    rw [← hn] at hmk hw1
    have HN := Lib.hid hn
    have n0 : 0 < (n : Int) := by omega
    have n1 : 0 < n := by omega
    clear hn
    go_upto_region 6 with fail
    have ba : Below w2.heap.size w2 (w2.alloc (.cells (madeCells #[.bool false] n) 4)) := (Below.refl _ _).alloc (Nat.le_refl _) _
    have bb : Below (w2.alloc (.cells (madeCells #[.bool false] n) 4)).heap.size (w2.alloc (.cells (madeCells #[.bool false] n) 4)) ((w2.alloc (.cells (madeCells #[.bool false] n) 4)).alloc (.cells #[.slice (some ⟨w2.heap.size, 0, none⟩) n n] 56)) := (Below.refl _ _).alloc (Nat.le_refl _) _
    have s1 : (w2.alloc (.cells (madeCells #[.bool false] n) 4)).heap.size = w2.heap.size + 1 := by simp
    have g1 := (blk_new w2 (madeCells #[.bool false] n) 4).on bb
    have o1 := blk_new (w2.alloc (.cells (madeCells #[.bool false] n) 4)) #[.slice (some ⟨w2.heap.size, 0, none⟩) n n] 56
    rw [s1] at o1
    have b3 := ba.trans (bb.mono ba.size)
    have HOW : Hid (Ow (w2.heap.size + 1) w2.heap.size n (List.replicate n false) ((w2.alloc (.cells (madeCells #[.bool false] n) 4)).alloc (.cells #[.slice (some ⟨w2.heap.size, 0, none⟩) n n] 56))) := Lib.hid ⟨o1, by rw [← made_t]; exact g1, by simp, by omega⟩
    have HL4 := Lib.hid (HL3.out.on b3)
    have HX4 := Lib.hid (HX3.out.on b3)
    have HC4 := Lib.hid (HC3.out.low (fun k (e : False) => e.elim) (only_of (P := fun _ => False) b3))
    have HB4 := Lib.hid (HB3.out.trans (b3.mono (by have := HLW.out; have := HL3.out.lt; omega)))
    have HGW := Lib.hid (show w.heap.size ≤ w2.heap.size ∧ X < w2.heap.size ∧ L < w2.heap.size from ⟨by have := HLW.out; have := HL3.out.lt; omega, HX3.out.lt, HL3.out.lt⟩)
    obtain ⟨v3, hv3⟩ : ∃ v3, v3 = ((w2.alloc (.cells (madeCells #[.bool false] n) 4)).alloc (.cells #[.slice (some ⟨w2.heap.size, 0, none⟩) n n] 56)) := ⟨_, rfl⟩
    obtain ⟨O, hO⟩ : ∃ O, O = w2.heap.size + 1 := ⟨_, rfl⟩
    obtain ⟨G, hG⟩ : ∃ G, G = w2.heap.size := ⟨_, rfl⟩
    rw [← hv3, ← hO] at HOW ⊢
    rw [← hv3] at HL4 HX4 HC4 HB4
    rw [← hG] at HOW HGW ⊢
    clear hv3 hO hG g1 o1 ba bb b3 s1 hmk hw1 c0 lL lX
    have c0 : v3.cell? ⟨O, 0, none⟩ = some (.slice (some ⟨G, 0, none⟩) n n) := (HOW.out.o.cell 0).1
    obtain ⟨g0, f0⟩ := HOW.out.at_ n1
    have lO := HOW.out.o.lt
    have lG := HOW.out.g.lt
    obtain ⟨z, hz⟩ : ∃ z, z = (List.replicate n false).getD 0 false := ⟨_, rfl⟩
    rw [← hz] at g0
    clear hz
    have og : Only (fun k => k = G) v3 (v3.setCell ⟨G, 0, none⟩ (.bool true)) := only_set (P := fun k => k = G) rfl _
    have HOW5 : Hid (Ow O G n (mark0 last) (v3.setCell ⟨G, 0, none⟩ (.bool true))) := Lib.hid (by
      have := HOW.out.set 0
      have e : (List.replicate n false).set 0 true = mark0 last := by rw [HN.out]; rfl
      rwa [e] at this)
    have HL5 := Lib.hid (HL4.out.only (fun e => by have := HGW.out; omega) og)
    have HX5 := Lib.hid (HX4.out.only (fun e => by have := HGW.out; omega) og)
    have HC5 := Lib.hid (HC4.out.low (fun k e => by rw [e]; exact HGW.out.1) og)
    have HB5 := Lib.hid (below_only HB4.out og (fun k e => by rw [e]; exact HGW.out.1) HB4.out.size)
    clear og
    go_upto_region 9 with fail
    obtain ⟨v5, hv5⟩ : ∃ v5, v5 = v3.setCell ⟨G, 0, none⟩ (.bool true) := ⟨_, rfl⟩
    rw [← hv5] at HOW5 HL5 HX5 HC5 HB5 ⊢
    clear hv5 c0 g0 f0 lO lG HOW HL4 HX4 HC4 HB4 HL3 HX3 HC3 HB3
    have k0 : v5.cell? ⟨X, 0, none⟩ = some (.int .i64 D.max) := (HX5.out.cell 0).1
    have k1 : v5.cell? ⟨X, 1, none⟩ = some (.slice F.ai D.ins.length F.ci) := (HX5.out.cell 1).1
    have k2 : v5.cell? ⟨X, 2, none⟩ = some (.slice F.al D.lats.length F.cl) := (HX5.out.cell 2).1
    have k3 : v5.cell? ⟨X, 3, none⟩ = some (.slice F.ao D.outs.length F.co) := (HX5.out.cell 3).1
    have k4 : v5.cell? ⟨X, 4, none⟩ = some (.slice F.ab D.bads.length F.cb) := (HX5.out.cell 4).1
    have k5 : v5.cell? ⟨X, 5, none⟩ = some (.slice F.ac D.cons.length F.cc) := (HX5.out.cell 5).1
    have k6 : v5.cell? ⟨X, 6, none⟩ = some (.slice F.ag D.gates.length F.cg) := (HX5.out.cell 6).1
    have k7 : v5.cell? ⟨X, 7, none⟩ = some (.slice F.as_ D.syms.length F.cs) := (HX5.out.cell 7).1
    have k8 : v5.cell? ⟨X, 8, none⟩ = some (.string D.com) := (HX5.out.cell 8).1
    have lX := HX5.out.lt
    have lG : G < v5.heap.size := HOW5.out.g.lt
    have hdup := dup_of HRAN.out HVI.out
    have HMK := Lib.hid (marks_of HVI.out)
    cases hq : allS newS (mark0 last) (ownedL D) with
    | mk b5 s5 =>
      rw [hq] at hdup HMK
      have HQ := Lib.hid hq
      have HNC : Hid (InC (fun k => k = G) v5 D F) := Lib.hid (HC5.out.weak (fun k _ e => by have := HGW.out; omega))
      have HVN : Hid (∀ x ∈ ownedL D, VarIn n x) := Lib.hid (by rw [HN.out]; exact HVI.out)
      clear hq
      cases b5 with
      | false =>
        have HZ : Hid (checkF D = 7) := Lib.hid (by
          obtain ⟨q1, q2, q3, q4⟩ := HRAN.out.c
          exact ck5 q1 q2 q3 q4 (by have h : false = !c5B D := hdup; cases h5 : c5B D with
            | true => rfl
            | false => rw [h5] at h; cases h))
        clear hdup HMK
        go_wp2_with fail
        go_at_call 41; refine (everyLit_any (new_acts O G n) D F v5 (mark0 last) HNC.out HVN.out HOW5.out (fun k e => by have := HOW5.out.g.lt; omega) HQ.out).mono ?_; rintro e w3 ⟨rfl, r3, o3⟩
        have HE : Hid (Looked D w (.returned (.tuple #[.slice none 0 0, .int .i64 7])) w3) := Lib.hid (looked_bad HZ.out (by decide) (below_only HB5.out o3 (fun k e => by rw [e]; exact HGW.out.1) HB5.out.size))
        clear r3 o3
        go_wp2_with fail
        go_ret2
        exact HE.out
      | true =>
        have H5 : Hid (c5B D = false) := Lib.hid (by have h : true = !c5B D := hdup; cases h5 : c5B D with
          | true => rw [h5] at h; cases h
          | false => rfl)
        have HM2 := Lib.hid (HMK.out rfl)
        have huse := use_of HRAN.out HVI.out HM2.out.2
        clear hdup HMK
        go_wp2_with fail
        go_at_call 41; refine (everyLit_any (new_acts O G n) D F v5 (mark0 last) HNC.out HVN.out HOW5.out (fun k e => by have := HOW5.out.g.lt; omega) HQ.out).mono ?_; rintro e w3 ⟨rfl, r3, o3⟩
        have HOW6 := Lib.hid r3
        have HL6 := Lib.hid (HL5.out.only (fun e => by have := HGW.out; omega) o3)
        have HX6 := Lib.hid (HX5.out.only (fun e => by have := HGW.out; omega) o3)
        have HC6 := Lib.hid (HC5.out.low (fun k e => by rw [e]; exact HGW.out.1) o3)
        have HB6 := Lib.hid (below_only HB5.out o3 (fun k e => by rw [e]; exact HGW.out.1) HB5.out.size)
        clear r3 o3 k0 k1 k2 k3 k4 k5 k6 k7 k8 lX lG HOW5 HL5 HX5 HC5 HB5 HNC
        have k0 : w3.cell? ⟨X, 0, none⟩ = some (.int .i64 D.max) := (HX6.out.cell 0).1
        have k1 : w3.cell? ⟨X, 1, none⟩ = some (.slice F.ai D.ins.length F.ci) := (HX6.out.cell 1).1
        have k2 : w3.cell? ⟨X, 2, none⟩ = some (.slice F.al D.lats.length F.cl) := (HX6.out.cell 2).1
        have k3 : w3.cell? ⟨X, 3, none⟩ = some (.slice F.ao D.outs.length F.co) := (HX6.out.cell 3).1
        have k4 : w3.cell? ⟨X, 4, none⟩ = some (.slice F.ab D.bads.length F.cb) := (HX6.out.cell 4).1
        have k5 : w3.cell? ⟨X, 5, none⟩ = some (.slice F.ac D.cons.length F.cc) := (HX6.out.cell 5).1
        have k6 : w3.cell? ⟨X, 6, none⟩ = some (.slice F.ag D.gates.length F.cg) := (HX6.out.cell 6).1
        have k7 : w3.cell? ⟨X, 7, none⟩ = some (.slice F.as_ D.syms.length F.cs) := (HX6.out.cell 7).1
        have k8 : w3.cell? ⟨X, 8, none⟩ = some (.string D.com) := (HX6.out.cell 8).1
        have lX := HX6.out.lt
        have HUC : Hid (InC (fun _ => False) w3 D F) := Lib.hid (HC6.out.weak (fun k _ e => e.elim))
        have HUV : Hid (∀ x ∈ useL D, 0 ≤ litVar x) := Lib.hid (fun x hx => by rw [HRAN.out.uv hx]; have := HRAN.out.u x hx; omega)
        have HAL := Lib.hid (all_pure (isB last s5) (useL D))
        have HLR : Hid (lookR L O G n last s5 () w3) := Lib.hid ⟨HL6.out, HOW6.out⟩
        rw [huse] at HAL
        cases h6 : c6B D with
        | true =>
          rw [h6] at HAL
          have HZ : Hid (checkF D = 9) := Lib.hid (by
            obtain ⟨q1, q2, q3, q4⟩ := HRAN.out.c
            exact ck6 q1 q2 q3 q4 H5.out h6)
          clear huse h6
          go_wp2_with fail
          go_at_call 45; refine (everyUse_any (own_acts (fun _ => False) L O G n last s5 HN.out.symm) D F w3 () HUC.out HUV.out HLR.out (fun k e => e.elim) HAL.out).mono ?_; rintro e w4 ⟨rfl, r4, o4⟩
          have HE : Hid (Looked D w (.returned (.tuple #[.slice none 0 0, .int .i64 9])) w4) := Lib.hid (looked_bad HZ.out (by decide) (below_only HB6.out o4 (fun k e => e.elim) HB6.out.size))
          clear r4 o4
          go_wp2_with fail
          go_ret2
          exact HE.out
        | false =>
          rw [h6] at HAL
          have HGG := Lib.hid (gg_of HRAN.out HVI.out H5.out h6)
          have HZ : Hid (checkF D = if c7B D = true then 8 else 0) := Lib.hid (by
            obtain ⟨q1, q2, q3, q4⟩ := HRAN.out.c
            exact ck7 q1 q2 q3 q4 H5.out h6)
          clear huse h6
          go_wp2_with fail
          go_at_call 45; refine (everyUse_any (own_acts (fun _ => False) L O G n last s5 HN.out.symm) D F w3 () HUC.out HUV.out HLR.out (fun k e => e.elim) HAL.out).mono ?_; rintro e w4 ⟨rfl, r4, o4⟩
          have HX7 := Lib.hid (HX6.out.only (fun e => e.elim) o4)
          have HL7 := Lib.hid r4.1
          have HC7 := Lib.hid (HC6.out.low (fun k e => e.elim) o4)
          have HB7 := Lib.hid (below_only HB6.out o4 (fun k e => e.elim) HB6.out.size)
          clear r4 o4 k0 k1 k2 k3 k4 k5 k6 k7 k8 lX HOW6 HL6 HX6 HC6 HB6 HUC HLR
          have k6 : w4.cell? ⟨X, 6, none⟩ = some (.slice F.ag D.gates.length F.cg) := (HX7.out.cell 6).1
          have kl : w4.cell? ⟨L, 0, none⟩ = some (.int .i64 (last : Int)) := (HL7.out.cell 0).1
          have lX := HX7.out.lt
          have lL := HL7.out.lt
          have HSO := Lib.hid (sorted_of last D.gates F.ag F.cg w4 hgl (by omega) HGG.out (ran_lit HRAN.out) (HC7.out.g.weak (fun k _ e => by have := HB7.out.size; omega)))
          go_wp2_with fail
          go_at_call 46; refine HSO.out.mono ?_; rintro e w5 ⟨ov, rfl, ho, b5⟩
          obtain ⟨oa, oc, rfl⟩ := owns_form ho
          have HO := Lib.hid ho
          have k6 : w5.cell? ⟨X, 6, none⟩ = some (.slice F.ag D.gates.length F.cg) := ((HX7.out.on b5).cell 6).1
          have lX5 := (HX7.out.on b5).lt
          have HB8 := Lib.hid (HB7.out.trans (b5.mono HB7.out.size))
          clear ho b5
          cases h7 : c7B D with
          | true =>
            have HE : Hid (Looked D w (.returned (.tuple #[.slice none 0 0, .int .i64 8])) w5) := Lib.hid (looked_bad (by rw [HZ.out, h7]; rfl) (by decide) HB8.out)
            have e7 : (orderL D.gates).length < D.gates.length := by
              unfold c7B at h7; simpa using h7
            have t7 : decide ((orderL D.gates).length < D.gates.length) = true := by simpa using e7
            clear h7 e7
            go_wp2_with fail
            go_ret2
            exact HE.out
          | false =>
            have HE : Hid (Looked D w (.returned (.tuple #[.slice oa (orderL D.gates).length oc, .int .i64 0])) w5) := Lib.hid ⟨_, by rw [HZ.out, h7]; rfl, fun _ => Joins.ownsRow_le HO.out HB7.out.size, HB8.out⟩
            have e7 : ¬ (orderL D.gates).length < D.gates.length := by
              unfold c7B at h7; simpa using h7
            have t7 : decide ((orderL D.gates).length < D.gates.length) = false := by simpa using e7
            clear h7 e7
            go_wp2_with fail
            go_ret2
            exact HE.out
end Go.Proofs.Ytbpjflghkkkenaa.row

/- The walk of the statements' Small. -/
namespace Go.Proofs.Ytbpjflghkkkenaa.row
open Go.RowKit
open Go.Proofs.Ytbpjflghkkkenaa.mem (own_on addr_add)

theorem few_lens {D : CD} {m : Int} (h : fewB D m = true) (hm : m ≤ 1000) : Lens D := by
  unfold fewB at h
  simp only [Bool.and_eq_true, decide_eq_true_eq] at h
  obtain ⟨⟨⟨⟨⟨⟨⟨h1, h2⟩, h3⟩, h4⟩, h5⟩, h6⟩, h7⟩, -⟩ := h
  exact ⟨by omega, by omega, by omega, by omega, by omega, by omega, by omega⟩
def smallB (D : CD) (m : Int) : Bool := fewB D m && (decide (D.max ≤ 300) && decide (checkF D = 0))
theorem few_of {D : CD} {m : Int} {b : Bool} (h : fewB D m = b) (F : CF) (w : World) : Calls Try.prog 6 #[cval D F, .int .i64 m] w fun e w' => e = .returned (.bool b) ∧ Below w.heap.size w w' := by
  have := few_any D F m w; rw [h] at this; exact this
set_option maxHeartbeats 1600000 in
theorem small_any (D : CD) (F : CF) (P : Nat → Prop) (m : Int) (w : World) (hc : InC P w D F) (hf : Fits D) (hm : m ≤ 1000) :
    Calls Try.prog 11 #[cval D F, .int .i64 m] w (SaysW (smallB D m) w) := by
  have HC := Lib.hid hc
  have HF := Lib.hid hf
  have HM := Lib.hid hm
  clear hc hf hm
  go_enter Try.func11, Try.ntmps11
  go_upto_region 1 with fail
  have X0 := blk_new w (ccells D F) 27
  have B0 : Below w.heap.size w (w.alloc (.cells (ccells D F) 27)) := (Below.refl _ _).alloc (Nat.le_refl _) _
  have I0 := HC.out.on B0
  clear HC
  generalize w.alloc (.cells (ccells D F) 27) = v at *
  have HX := Lib.hid X0
  have HB := Lib.hid B0
  have HI := Lib.hid I0
  have hX := X0.lt
  have c0 := (X0.cell 0).1
  have c1 := (X0.cell 1).1
  have c2 := (X0.cell 2).1
  have c3 := (X0.cell 3).1
  have c4 := (X0.cell 4).1
  have c5 := (X0.cell 5).1
  have c6 := (X0.cell 6).1
  have c7 := (X0.cell 7).1
  have c8 := (X0.cell 8).1
  simp at c0 c1 c2 c3 c4 c5 c6 c7 c8
  clear X0 B0 I0
  cases hfw : fewB D m with
  | false =>
    have HFW := Lib.hid hfw
    have HS : Hid (smallB D m = false) := Lib.hid (by unfold smallB; rw [hfw]; rfl)
    clear hfw
    go_wp2_with fail
    go_at_call 6; refine (few_of HFW.out F _).mono ?_; rintro e w1 ⟨rfl, b1⟩
    have HT : Hid (SaysW (smallB D m) w (.returned (.bool false)) w1) := Lib.hid (by rw [HS.out]; exact ⟨rfl, HB.out.trans (b1.mono HB.out.size)⟩)
    clear b1
    go_wp2_with fail
    go_ret
    exact HT.out
  | true =>
    have HFW := Lib.hid hfw
    clear hfw
    go_wp2_with fail
    go_at_call 6; refine (few_of HFW.out F _).mono ?_; rintro e w1 ⟨rfl, b1⟩
    have HB1 := Lib.hid (HB.out.trans (b1.mono HB.out.size))
    have HX1 := Lib.hid (HX.out.on b1)
    have HI1 := Lib.hid (HI.out.on b1)
    have hX1 := HX1.out.lt
    clear b1 c0 c1 c2 c3 c4 c5 c6 c7 c8
    have c0 := (HX1.out.cell 0).1
    have c1 := (HX1.out.cell 1).1
    have c2 := (HX1.out.cell 2).1
    have c3 := (HX1.out.cell 3).1
    have c4 := (HX1.out.cell 4).1
    have c5 := (HX1.out.cell 5).1
    have c6 := (HX1.out.cell 6).1
    have c7 := (HX1.out.cell 7).1
    have c8 := (HX1.out.cell 8).1
    simp at c0 c1 c2 c3 c4 c5 c6 c7 c8
    cases hmx : decide (D.max ≤ 300) with
    | false =>
      have HT : Hid (SaysW (smallB D m) w (.returned (.bool false)) w1) := Lib.hid (by
        rw [show smallB D m = false by unfold smallB; rw [hmx]; simp]
        exact ⟨rfl, HB1.out⟩)
      go_wp2_with fail
      go_ret
      exact HT.out
    | true =>
      have HL := Lib.hid (few_lens HFW.out HM.out)
      cases hck : (checkF D == 0) with
      | false =>
        have HT : Hid (∀ u, Below w.heap.size w u → SaysW (smallB D m) w (.returned (.bool false)) u) := Lib.hid (fun u hu => by
          rw [show smallB D m = false by unfold smallB; rw [show decide (checkF D = 0) = false by simpa using hck]; simp]
          exact ⟨rfl, hu⟩)
        go_wp2_with fail
        go_at_call 10; refine (refCheck_any D F P _ HI1.out HL.out HF.out).mono ?_; rintro e w2 ⟨rfl, b2⟩
        have HT2 := Lib.hid (HT.out _ (HB1.out.trans (b2.mono HB1.out.size)))
        clear b2
        go_wp2_with fail
        go_ret
        exact HT2.out
      | true =>
        have HT : Hid (∀ u, Below w.heap.size w u → SaysW (smallB D m) w (.returned (.bool true)) u) := Lib.hid (fun u hu => by
          rw [show smallB D m = true by unfold smallB; rw [HFW.out, hmx, show decide (checkF D = 0) = true by simpa using hck]; rfl]
          exact ⟨rfl, hu⟩)
        go_wp2_with fail
        go_at_call 10; refine (refCheck_any D F P _ HI1.out HL.out HF.out).mono ?_; rintro e w2 ⟨rfl, b2⟩
        have HT2 := Lib.hid (HT.out _ (HB1.out.trans (b2.mono HB1.out.size)))
        clear b2
        go_wp2_with fail
        go_ret
        exact HT2.out
end Go.Proofs.Ytbpjflghkkkenaa.row
