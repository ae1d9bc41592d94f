/- On what variables of a net hang, purely. -/
import Derived.Test.YtoacedadfjoneaaFnB
namespace Go.Proofs.Ytoacedadfjoneaa.agf

/-- whether node i is a gate that has a marked variable -/
def gateB (N : Net) (p : List Bool) (i : Nat) : Bool := match N[i]? with
  | some (some (a, b)) => p.getD (a / 2) false || p.getD (b / 2) false
  | _ => false
/-- which of the variables 0 to k hang on v -/
def upL (N : Net) (v : Nat) : Nat → List Bool
  | 0 => [false]
  | k + 1 => upL N v k ++ [decide (k + 1 = v) || gateB N (upL N v k) k]
theorem up_len (N : Net) (v k : Nat) : (upL N v k).length = k + 1 := by
  induction k with
  | zero => rfl
  | succ k ih => simp [upL, ih]
theorem snocB_l {l : List Bool} {x : Bool} {j : Nat} (h : j < l.length) : (l ++ [x]).getD j false = l.getD j false := by simp [List.getD, List.getElem?_append_left h]
theorem snocB_r (l : List Bool) (x : Bool) : (l ++ [x]).getD l.length false = x := by simp [List.getD]
theorem up_ext (N : Net) (v : Nat) {k m : Nat} (h : k ≤ m) {j : Nat} (hj : j ≤ k) : (upL N v m).getD j false = (upL N v k).getD j false := by
  induction m with
  | zero =>
    obtain rfl : k = 0 := by omega
    rfl
  | succ m ih =>
    by_cases e : k = m + 1
    · rw [e]
    · refine Eq.trans ?_ (ih (by omega))
      show (upL N v m ++ _).getD j false = _
      exact snocB_l (by rw [up_len]; omega)
/-- whether variable x hangs on variable v -/
def hangV (N : Net) (x v : Nat) : Bool := (upL N v N.length).getD x false
theorem hang_zero (N : Net) (v : Nat) : hangV N 0 v = false := by
  unfold hangV; rw [up_ext N v (Nat.zero_le _) (Nat.le_refl 0)]; rfl
theorem hang_up {N : Net} {x v k : Nat} (hx : x ≤ k) (hk : k ≤ N.length) : (upL N v k).getD x false = hangV N x v := (up_ext N v hk hx).symm
theorem hang_succ {N : Net} (v : Nat) {i : Nat} (hi : i < N.length) : hangV N (i + 1) v = (decide (i + 1 = v) || gateB N (upL N v i) i) := by
  unfold hangV
  rw [up_ext N v (k := i + 1) (by omega) (Nat.le_refl _)]
  have := snocB_r (upL N v i) (decide (i + 1 = v) || gateB N (upL N v i) i)
  rw [up_len] at this
  exact this
theorem hang_gate {N : Net} (hN : Good N) (v : Nat) {i a b : Nat} (h : N[i]? = some (some (a, b))) : hangV N (i + 1) v = (decide (i + 1 = v) || (hangV N (a / 2) v || hangV N (b / 2) v)) := by
  have hi := (List.getElem?_eq_some_iff.1 h).1
  obtain ⟨h1, h2⟩ := hN i a b h
  rw [hang_succ v hi]
  unfold gateB
  rw [h]
  simp only
  rw [hang_up (by omega) (by omega), hang_up (by omega) (by omega)]
theorem hang_input {N : Net} (v : Nat) {i : Nat} (h : N[i]? = some none) : hangV N (i + 1) v = decide (i + 1 = v) := by
  have hi := (List.getElem?_eq_some_iff.1 h).1
  rw [hang_succ v hi]
  unfold gateB
  rw [h]; simp
theorem hang_self {N : Net} {v : Nat} (h0 : 1 ≤ v) (h : v ≤ N.length) : hangV N v v = true := by
  obtain ⟨i, rfl⟩ : ∃ i, v = i + 1 := ⟨v - 1, by omega⟩
  rw [hang_succ _ (by omega), decide_eq_true rfl]; rfl
theorem hang_out {N : Net} {x v : Nat} (h : N.length < x) : hangV N x v = false := by
  unfold hangV
  simp only [List.getD]
  rw [List.getElem?_eq_none (by rw [up_len]; omega)]; rfl
theorem node_at {N : Net} {i : Nat} (hi : i < N.length) : N[i]? = some none ∨ ∃ a b, N[i]? = some (some (a, b)) := by
  rw [List.getElem?_eq_getElem hi]
  cases h : N[i] with
  | none => exact .inl rfl
  | some g => obtain ⟨a, b⟩ := g; exact .inr ⟨a, b, rfl⟩
theorem hang_le {N : Net} (hN : Good N) {v : Nat} : ∀ x, hangV N x v = true → v ≤ x := by
  intro x
  induction x using Nat.strongRecOn with
  | ind x ih =>
    intro h
    cases x with
    | zero => rw [hang_zero] at h; cases h
    | succ i =>
      by_cases hi : i < N.length
      · rcases node_at hi with e | ⟨a, b, e⟩
        · rw [hang_input v e, decide_eq_true_iff] at h; omega
        · obtain ⟨h1, h2⟩ := hN i a b e
          rw [hang_gate hN v e, Bool.or_eq_true, Bool.or_eq_true, decide_eq_true_iff] at h
          rcases h with h | h | h
          · omega
          · have := ih (a / 2) (by omega) h; omega
          · have := ih (b / 2) (by omega) h; omega
      · rw [hang_out (by omega)] at h; cases h
/-- what is marked downwards is all on which something marked hangs -/
theorem closed_hang {N : Net} (hN : Good N) {S : Nat → Prop} (hS : ∀ i a b : Nat, N[i]? = some (some (a, b)) → S (i + 1) → S (a / 2) ∧ S (b / 2)) {v : Nat} : ∀ x, S x → hangV N x v = true → S v := by
  intro x
  induction x using Nat.strongRecOn with
  | ind x ih =>
    intro hx h
    cases x with
    | zero => rw [hang_zero] at h; cases h
    | succ i =>
      by_cases hi : i < N.length
      · rcases node_at hi with e | ⟨a, b, e⟩
        · rw [hang_input v e, decide_eq_true_iff] at h; rw [← h]; exact hx
        · obtain ⟨h1, h2⟩ := hN i a b e
          obtain ⟨s1, s2⟩ := hS i a b e hx
          rw [hang_gate hN v e, Bool.or_eq_true, Bool.or_eq_true, decide_eq_true_iff] at h
          rcases h with h | h | h
          · rw [← h]; exact hx
          · exact ih (a / 2) (by omega) s1 h
          · exact ih (b / 2) (by omega) s2 h
      · rw [hang_out (by omega)] at h; cases h
/-- hanging goes on downwards -/
theorem hang_down {N : Net} (hN : Good N) {x i a b : Nat} (h : hangV N x (i + 1) = true) (e : N[i]? = some (some (a, b))) :
    (1 ≤ a / 2 → hangV N x (a / 2) = true) ∧ (1 ≤ b / 2 → hangV N x (b / 2) = true) := by
  have key : ∀ y, (y = a / 2 ∨ y = b / 2) → 1 ≤ y → ∀ x, hangV N x (i + 1) = true → hangV N x y = true := by
    intro y hy h1 x
    obtain ⟨g1, g2⟩ := hN i a b e
    induction x using Nat.strongRecOn with
    | ind x ih =>
      intro h
      cases x with
      | zero => rw [hang_zero] at h; cases h
      | succ j =>
        by_cases hj : j < N.length
        · rcases node_at hj with e' | ⟨a', b', e'⟩
          · rw [hang_input _ e', decide_eq_true_iff] at h
            obtain rfl : j = i := by omega
            rw [e] at e'; cases e'
          · obtain ⟨h3, h4⟩ := hN j a' b' e'
            rw [hang_gate hN _ e', Bool.or_eq_true, Bool.or_eq_true, decide_eq_true_iff] at h
            rw [hang_gate hN _ e', Bool.or_eq_true, Bool.or_eq_true]
            rcases h with h | h | h
            · obtain rfl : j = i := by omega
              rw [e] at e'
              obtain ⟨rfl, rfl⟩ : a = a' ∧ b = b' := by simpa using e'
              have hs : hangV N y y = true := hang_self h1 (by omega)
              rcases hy with rfl | rfl
              · exact .inr (.inl hs)
              · exact .inr (.inr hs)
            · exact .inr (.inl (ih _ (by omega) h))
            · exact .inr (.inr (ih _ (by omega) h))
        · rw [hang_out (by omega)] at h; cases h
  exact ⟨fun h1 => key _ (.inl rfl) h1 x h, fun h1 => key _ (.inr rfl) h1 x h⟩

/-- whether a literal hangs on a variable -/
def hangsB (N : Net) (l v : Int) : Bool := decide (2 ≤ l) && (decide (l / 2 ≤ (N.length : Int)) && (decide (1 ≤ v) && hangV N (l / 2).toNat v.toNat))
theorem hangs_iff {N : Net} {l v : Int} : hangsB N l v = true ↔ 2 ≤ l ∧ l / 2 ≤ (N.length : Int) ∧ 1 ≤ v ∧ hangV N (l / 2).toNat v.toNat = true := by
  simp [hangsB]
/-- on which variables literals hang -/
def ofB (N : Net) (l : List Int) (i : Nat) : Bool := l.any fun x => hangsB N x ((i : Int) + 1)
theorem of_iff {N : Net} {l : List Int} {i : Nat} : ofB N l i = true ↔ ∃ x ∈ l, 2 ≤ x ∧ x / 2 ≤ (N.length : Int) ∧ hangV N (x / 2).toNat (i + 1) = true := by
  unfold ofB
  rw [List.any_eq_true]
  constructor
  · rintro ⟨x, hx, h⟩
    obtain ⟨h1, h2, -, h4⟩ := hangs_iff.1 h
    exact ⟨x, hx, h1, h2, by rw [show ((i : Int) + 1).toNat = i + 1 by omega] at h4; exact h4⟩
  · rintro ⟨x, hx, h1, h2, h3⟩
    exact ⟨x, hx, hangs_iff.2 ⟨h1, h2, by omega, by rw [show ((i : Int) + 1).toNat = i + 1 by omega]; exact h3⟩⟩
theorem of_down {N : Net} (hN : Good N) {l : List Int} {i a b : Nat} (h : ofB N l i = true) (e : N[i]? = some (some (a, b))) :
    (1 ≤ a / 2 → ofB N l (a / 2 - 1) = true) ∧ (1 ≤ b / 2 → ofB N l (b / 2 - 1) = true) := by
  obtain ⟨x, hx, h1, h2, h3⟩ := of_iff.1 h
  obtain ⟨d1, d2⟩ := hang_down hN h3 e
  exact ⟨fun g => of_iff.2 ⟨x, hx, h1, h2, by rw [show a / 2 - 1 + 1 = a / 2 by omega]; exact d1 g⟩, fun g => of_iff.2 ⟨x, hx, h1, h2, by rw [show b / 2 - 1 + 1 = b / 2 by omega]; exact d2 g⟩⟩
/-- the variables, among the first k, that f takes -/
def selTo (f : Nat → Bool) (k : Nat) : List Int := ((List.range k).filter f).map fun i : Nat => (i : Int) + 1
theorem sel_step (f : Nat → Bool) (k : Nat) : selTo f (k + 1) = selTo f k ++ (if f k then [(k : Int) + 1] else []) := by
  unfold selTo
  rw [List.range_succ, List.filter_append, List.map_append]
  cases h : f k <;> simp [h]
theorem sel_len (f : Nat → Bool) (k : Nat) : (selTo f k).length ≤ k := by
  unfold selTo; rw [List.length_map]
  exact Nat.le_trans (List.length_filter_le _ _) (by simp)
theorem sel_congr {f g : Nat → Bool} {k : Nat} (h : ∀ i, i < k → f i = g i) : selTo f k = selTo g k := by
  unfold selTo
  congr 1
  exact List.filter_congr fun i hi => h i (List.mem_range.1 hi)
theorem sel_mem {f : Nat → Bool} {k i : Nat} : ((i : Int) + 1) ∈ selTo f k ↔ i < k ∧ f i = true := by
  unfold selTo
  rw [List.mem_map]
  constructor
  · rintro ⟨j, hj, e⟩
    obtain rfl : j = i := by omega
    have := List.mem_filter.1 hj
    exact ⟨List.mem_range.1 this.1, this.2⟩
  · rintro ⟨h1, h2⟩
    exact ⟨i, List.mem_filter.2 ⟨List.mem_range.2 h1, h2⟩, rfl⟩

/-! ## Values by what is hung on -/
/-- how many inputs are ahead -/
def cntI (N : Net) (i : Nat) : Nat := ((List.range i).filter fun j => N[j]? == some none).length
theorem cntI_step (N : Net) (i : Nat) : cntI N (i + 1) = cntI N i + if N[i]? = some none then 1 else 0 := by
  unfold cntI
  rw [List.range_succ, List.filter_append, List.length_append]
  by_cases h : N[i]? = some none <;> simp [h]
theorem st_cnt (ins : List Bool) (N : Net) : ∀ i, i ≤ N.length → (st ins (N.take i)).2 = cntI N i := by
  intro i
  induction i with
  | zero => intro _; rfl
  | succ i ih =>
    intro hi
    have e := List.getElem?_eq_getElem (show i < N.length by omega)
    rw [take_snoc e, st_snoc, cntI_step, e]
    have := ih (by omega)
    cases h : N[i] with
    | none => simp [valStep, this]
    | some g => obtain ⟨a, b⟩ := g; simp [valStep, this]
theorem st_input (ins : List Bool) {N : Net} {i : Nat} (h : N[i]? = some none) : (st ins N).1.getD (i + 1) false = ins.getD (cntI N i) false := by
  have hi := (List.getElem?_eq_some_iff.1 h).1
  have h1 := st_at ins (take_ext N (i + 1)) (i := i + 1) (by rw [List.length_take]; omega)
  rw [h1, take_snoc h]
  have h2 := st_last ins (N.take i) none
  rw [show (N.take i).length = i by rw [List.length_take]; omega] at h2
  rw [h2, ← st_cnt ins N i (by omega)]
/-- inputs on which a variable does not hang play no part for it -/
theorem st_support {N : Net} (hN : Good N) (a b : List Bool) : ∀ x, (∀ i, N[i]? = some none → hangV N x (i + 1) = true → a.getD (cntI N i) false = b.getD (cntI N i) false) → (st a N).1.getD x false = (st b N).1.getD x false := by
  intro x
  induction x using Nat.strongRecOn with
  | ind x ih =>
    intro h
    cases x with
    | zero => rw [st_zero, st_zero]
    | succ i =>
      by_cases hi : i < N.length
      · rcases node_at hi with e | ⟨p, q, e⟩
        · rw [st_input a e, st_input b e]
          exact h i e (by rw [hang_input _ e, decide_eq_true rfl])
        · obtain ⟨h1, h2⟩ := hN i p q e
          rw [st_gate a hN e, st_gate b hN e]
          have k1 := ih (p / 2) (by omega) (fun j ej hj => h j ej (by rw [hang_gate hN _ e, hj]; simp))
          have k2 := ih (q / 2) (by omega) (fun j ej hj => h j ej (by rw [hang_gate hN _ e, hj]; simp))
          unfold ev
          rw [k1, k2]
      · simp only [List.getD]
        rw [List.getElem?_eq_none (by rw [st_len]; omega), List.getElem?_eq_none (by rw [st_len]; omega)]

/-! ## What is cut -/
/-- one node more of what is cut: the net, and where each variable is -/
def cutStep (N : Net) (S : Nat → Bool) (s : Net × List Int) (i : Nat) : Net × List Int :=
  if S i then
    (s.1 ++ [match N[i]? with | some (some (a, b)) => some ((litAt s.2 a).toNat, (litAt s.2 b).toNat) | _ => none], s.2 ++ [2 * ((s.1.length : Int) + 1)])
  else (s.1, s.2 ++ [-1])
def cutTo (N : Net) (S : Nat → Bool) : Nat → Net × List Int
  | 0 => ([], [0])
  | k + 1 => cutStep N S (cutTo N S k) k
/-- how things are cut so far -/
structure CutOk (N : Net) (S : Nat → Bool) (k : Nat) (M : Net) (at_ : List Int) : Prop where
  len : at_.length = k + 1
  good : Good M
  no : ∀ v, 1 ≤ v → v ≤ k → S (v - 1) = false → at_.getD v 0 = -1
  yes : ∀ v, 1 ≤ v → v ≤ k → S (v - 1) = true → 2 ≤ at_.getD v 0 ∧ at_.getD v 0 % 2 = 0 ∧ at_.getD v 0 ≤ 2 * (M.length : Int) + 1
  zero : at_.getD 0 0 = 0
  few : M.length ≤ k
theorem CutOk.lit {N : Net} {S : Nat → Bool} {k : Nat} {M : Net} {at_ : List Int} (c : CutOk N S k M at_) {a : Nat} (ha : a / 2 ≤ k) (hs : 1 ≤ a / 2 → S (a / 2 - 1) = true) : hasB M.length (litAt at_ a) = true ∧ (litAt at_ a = if a % 2 = 1 then at_.getD (a / 2) 0 + 1 else at_.getD (a / 2) 0) := by
  have h : 0 ≤ at_.getD (a / 2) 0 ∧ at_.getD (a / 2) 0 % 2 = 0 ∧ at_.getD (a / 2) 0 ≤ 2 * (M.length : Int) + 1 := by
    by_cases e : a / 2 = 0
    · rw [e, c.zero]; omega
    · have := c.yes (a / 2) (by omega) ha (hs (by omega)); omega
  obtain ⟨h1, h2, h3⟩ := h
  unfold litAt
  by_cases o : a % 2 = 1
  · rw [if_pos o, if_pos o]
    have e : nt (at_.getD (a / 2) 0) = at_.getD (a / 2) 0 + 1 := by unfold nt; rw [if_neg (by omega), if_neg (by omega)]
    rw [e, has_iff]
    exact ⟨by omega, rfl⟩
  · rw [if_neg o, if_neg o, has_iff]
    exact ⟨by omega, rfl⟩
theorem cut_ok {N : Net} (hN : Good N) {S : Nat → Bool} (hS : ∀ i a b : Nat, N[i]? = some (some (a, b)) → S i = true → (1 ≤ a / 2 → S (a / 2 - 1) = true) ∧ (1 ≤ b / 2 → S (b / 2 - 1) = true)) :
    ∀ k, k ≤ N.length → CutOk N S k (cutTo N S k).1 (cutTo N S k).2 := by
  intro k
  induction k with
  | zero => intro _; exact ⟨rfl, good_nil, fun v h1 h2 => by omega, fun v h1 h2 => by omega, rfl, Nat.le_refl _⟩
  | succ k ih =>
    intro hk
    have c := ih (by omega)
    unfold cutTo cutStep
    generalize (cutTo N S k).1 = M at *
    generalize (cutTo N S k).2 = L at *
    cases hs : S k with
    | false =>
      simp only [Bool.false_eq_true, if_false]
      refine ⟨by simp [c.len], c.good, fun v h1 h2 h3 => ?_, fun v h1 h2 h3 => ?_, by rw [snocI_l (by rw [c.len]; omega)]; exact c.zero, by have := c.few; omega⟩
      · by_cases e : v = k + 1
        · subst e
          have := snocI_r L (-1)
          rw [c.len] at this; exact this
        · rw [snocI_l (by rw [c.len]; omega)]; exact c.no v h1 (by omega) h3
      · by_cases e : v = k + 1
        · subst e; rw [show k + 1 - 1 = k by omega, hs] at h3; cases h3
        · rw [snocI_l (by rw [c.len]; omega)]; exact c.yes v h1 (by omega) h3
    | true =>
      simp only [if_true]
      have hr := snocI_r L (2 * ((M.length : Int) + 1))
      rw [c.len] at hr
      refine ⟨by simp [c.len], ?_, fun v h1 h2 h3 => ?_, fun v h1 h2 h3 => ?_, by rw [snocI_l (by rw [c.len]; omega)]; exact c.zero, by have := c.few; simp; omega⟩
      · rcases node_at (show k < N.length by omega) with e | ⟨a, b, e⟩
        · rw [e]; exact good_input c.good
        · rw [e]
          obtain ⟨g1, g2⟩ := hN k a b e
          obtain ⟨s1, s2⟩ := hS k a b e hs
          have ha := has_iff.1 (c.lit (a := a) (by omega) s1).1
          have hb := has_iff.1 (c.lit (a := b) (by omega) s2).1
          intro i x y hi
          rcases snoc_gate hi with ⟨-, e'⟩ | ⟨rfl, e'⟩
          · exact c.good i x y e'
          · simp only [Option.some.injEq, Prod.mk.injEq] at e'
            omega
      · by_cases e : v = k + 1
        · subst e; rw [show k + 1 - 1 = k by omega, hs] at h3; cases h3
        · rw [snocI_l (by rw [c.len]; omega)]; exact c.no v h1 (by omega) h3
      · by_cases e : v = k + 1
        · subst e; rw [hr, List.length_append, List.length_singleton]; omega
        · rw [snocI_l (by rw [c.len]; omega)]
          have := c.yes v h1 (by omega) h3
          rw [List.length_append, List.length_singleton]; omega
/-- the inputs that are kept, among the first k nodes -/
def fewTo (N : Net) (S : Nat → Bool) (ins : List Bool) (k : Nat) : List Bool := ((List.range k).filter fun i => (N[i]? == some none) && S i).map fun i => ins.getD (cntI N i) false
theorem few_step (N : Net) (S : Nat → Bool) (ins : List Bool) (k : Nat) : fewTo N S ins (k + 1) = fewTo N S ins k ++ if N[k]? = some none ∧ S k = true then [ins.getD (cntI N k) false] else [] := by
  unfold fewTo
  rw [List.range_succ, List.filter_append, List.map_append]
  by_cases h : N[k]? = some none ∧ S k = true
  · rw [if_pos h]; simp [h.1, h.2]
  · rw [if_neg h]
    have : ((N[k]? == some none) && S k) = false := by
      cases hs : S k with
      | false => simp
      | true => simp only [Bool.and_true]; simpa [hs] using h
    simp [this]
theorem few_pre (N : Net) (S : Nat → Bool) (ins : List Bool) {k m : Nat} (h : k ≤ m) : ∃ r, fewTo N S ins m = fewTo N S ins k ++ r := by
  induction m with
  | zero =>
    obtain rfl : k = 0 := by omega
    exact ⟨[], by simp⟩
  | succ m ih =>
    by_cases e : k = m + 1
    · rw [e]; exact ⟨[], by simp⟩
    · obtain ⟨r, hr⟩ := ih (by omega)
      rw [few_step, hr, List.append_assoc]; exact ⟨_, rfl⟩
/-- what is cut is worth what it was -/
theorem cut_means {N : Net} (hN : Good N) {S : Nat → Bool} (hS : ∀ i a b : Nat, N[i]? = some (some (a, b)) → S i = true → (1 ≤ a / 2 → S (a / 2 - 1) = true) ∧ (1 ≤ b / 2 → S (b / 2 - 1) = true)) (ins : List Bool) (fw : List Bool)
    (hfw : ∃ r, fw = fewTo N S ins N.length ++ r) :
    ∀ k, k ≤ N.length → (st fw (cutTo N S k).1).2 = (fewTo N S ins k).length ∧ ∀ v, v ≤ k → (v = 0 ∨ S (v - 1) = true) → evI (st fw (cutTo N S k).1).1 ((cutTo N S k).2.getD v 0) = (st ins N).1.getD v false := by
  intro k
  induction k with
  | zero =>
    intro _
    refine ⟨rfl, fun v hv _ => ?_⟩
    obtain rfl : v = 0 := by omega
    rw [st_zero]
    simp [cutTo, evI, ev, st]
  | succ k ih =>
    intro hk
    obtain ⟨i1, i2⟩ := ih (by omega)
    have c := cut_ok hN hS k (by omega)
    have c2 := cut_ok hN hS (k + 1) hk
    unfold cutTo cutStep at c2 ⊢
    generalize (cutTo N S k).1 = M at *
    generalize (cutTo N S k).2 = L at *
    cases hs : S k with
    | false =>
      simp only [Bool.false_eq_true, if_false]
      refine ⟨?_, fun v hv hsv => ?_⟩
      · rw [few_step, if_neg (by rw [hs]; simp), List.append_nil]; exact i1
      · by_cases e : v = k + 1
        · subst e
          rcases hsv with h | h
          · omega
          · rw [show k + 1 - 1 = k by omega, hs] at h; cases h
        · rw [snocI_l (by rw [c.len]; omega)]; exact i2 v (by omega) hsv
    | true =>
      rw [hs] at c2
      simp only [if_true] at c2 ⊢
      have hr := snocI_r L (2 * ((M.length : Int) + 1))
      rw [c.len] at hr
      have old : ∀ x : Nd, ∀ v, v ≤ k → (v = 0 ∨ S (v - 1) = true) → evI (st fw (M ++ [x])).1 ((L ++ [2 * ((M.length : Int) + 1)]).getD v 0) = (st ins N).1.getD v false := by
        intro x v hv hsv
        rw [snocI_l (by rw [c.len]; omega), ← i2 v hv hsv]
        refine evI_ext fw (ext_snoc _ _) ?_
        rw [has_iff]
        rcases hsv with h | h
        · rw [h, c.zero]; omega
        · by_cases e : v = 0
          · rw [e, c.zero]; omega
          · have := c.yes v (by omega) hv h; omega
      have hlast : ∀ x : Nd, evI (st fw (M ++ [x])).1 (2 * ((M.length : Int) + 1)) = (st fw (M ++ [x])).1.getD (M.length + 1) false := by
        intro x
        unfold evI ev
        rw [show (2 * ((M.length : Int) + 1)).toNat / 2 = M.length + 1 by omega, show (2 * ((M.length : Int) + 1)).toNat % 2 = 0 by omega]
        cases (st fw (M ++ [x])).1.getD (M.length + 1) false <;> rfl
      rcases node_at (show k < N.length by omega) with e | ⟨a, b, e⟩
      · rw [e]
        refine ⟨?_, fun v hv hsv => ?_⟩
        · rw [st_snoc, few_step, if_pos ⟨e, hs⟩, List.length_append, ← i1]; rfl
        · by_cases ev : v = k + 1
          · subst ev
            rw [hr, hlast, st_last, st_input ins e]
            have hp : ∃ r, fw = fewTo N S ins (k + 1) ++ r := by
              obtain ⟨r, hr⟩ := hfw
              obtain ⟨r', hr'⟩ := few_pre N S ins hk
              exact ⟨r' ++ r, by rw [hr, hr', List.append_assoc]⟩
            obtain ⟨r, hr⟩ := hp
            rw [i1, hr, few_step, if_pos ⟨e, hs⟩]
            simp [List.getD]
          · exact old _ v (by omega) hsv
      · rw [e]
        refine ⟨?_, fun v hv hsv => ?_⟩
        · rw [st_snoc, few_step, if_neg (by rw [e]; simp), List.append_nil]; exact i1
        · by_cases ev : v = k + 1
          · subst ev
            obtain ⟨g1, g2⟩ := hN k a b e
            obtain ⟨s1, s2⟩ := hS k a b e hs
            have la := c.lit (a := a) (by omega) s1
            have lb := c.lit (a := b) (by omega) s2
            rw [hr, hlast, st_last, st_gate ins hN e]
            have val : ∀ z : Nat, z / 2 ≤ k → (1 ≤ z / 2 → S (z / 2 - 1) = true) → evI (st fw M).1 (litAt L z) = Go.Proofs.Ytoacedadfjoneaa.agf.ev (st ins N).1 z := by
              intro z hz hsz
              have h0 := i2 (z / 2) hz (by by_cases e0 : z / 2 = 0; exact .inl e0; exact .inr (hsz (by omega)))
              have hb : 0 ≤ L.getD (z / 2) 0 := by
                by_cases e0 : z / 2 = 0
                · rw [e0, c.zero]; omega
                · have := c.yes (z / 2) (by omega) hz (hsz (by omega)); omega
              unfold litAt
              by_cases o : z % 2 = 1
              · rw [if_pos o, evI_nt _ hb, h0]
                unfold Go.Proofs.Ytoacedadfjoneaa.agf.ev
                rw [o]
                cases (st ins N).1.getD (z / 2) false <;> rfl
              · rw [if_neg o, h0]
                unfold Go.Proofs.Ytoacedadfjoneaa.agf.ev
                rw [show z % 2 = 0 by omega]
                cases (st ins N).1.getD (z / 2) false <;> rfl
            rw [← val a (by omega) s1, ← val b (by omega) s2]
            rfl
          · exact old _ v (by omega) hsv
end Go.Proofs.Ytoacedadfjoneaa.agf
