import Derived.Test.YtbpjflghkkkenaaMg21
/- A circuit's net, purely: its nodes, and where its variables are. -/
namespace Go.Proofs.Ytbpjflghkkkenaa.row
open Go.RowKit

abbrev NS := List (Int × Int) × List Int
/-- a variable's literal there -/
def atV (at_ : List Int) (l : Int) : Int := at_.getD (l / 2).toNat 0
def inS (s : NS) (l : Int) : NS := (s.1 ++ [(-1, 0)], s.2.set (l / 2).toNat (2 * ((s.1.length : Int) + 1)))
def gateS (s : NS) (g : Tri) : NS := (s.1 ++ [(litP s.2 g.2.1, litP s.2 g.2.2)], s.2.set (g.1 / 2).toNat (2 * ((s.1.length : Int) + 1)))
def at0 (k : Nat) : List Int := 0 :: List.replicate k (-1)
theorem at0_snoc (k : Nat) : at0 k ++ [-1] = at0 (k + 1) := by unfold at0; rw [List.replicate_succ']; rfl
theorem at0_len (k : Nat) : (at0 k).length = k + 1 := by simp [at0]
def insS (D : CD) (k : Nat) : NS := (D.ins.take k).foldl inS ([], at0 D.max.toNat)
def latS (D : CD) (k : Nat) : NS := (D.lats.take k).foldl (fun s t => inS s t.1) (insS D D.ins.length)
def ordS (D : CD) (k : Nat) : NS := ((orderL D.gates).take k).foldl (fun s i => gateS s (D.gates.getD i.toNat (0, 0, 0))) (latS D D.lats.length)
def netF (D : CD) : NS := ordS D (orderL D.gates).length
theorem ins_step (D : CD) {k : Nat} (h : k < D.ins.length) : insS D (k + 1) = inS (insS D k) (D.ins.getD k 0) := by
  have e : D.ins[k] = D.ins.getD k 0 := by simp [List.getD, h]
  unfold insS
  rw [List.take_succ_eq_append_getElem h, List.foldl_append, e]; rfl
theorem lat_step (D : CD) {k : Nat} (h : k < D.lats.length) : latS D (k + 1) = inS (latS D k) (D.lats.getD k (0, 0, 0)).1 := by
  have e : D.lats[k] = D.lats.getD k (0, 0, 0) := by simp [List.getD, h]
  unfold latS
  rw [List.take_succ_eq_append_getElem h, List.foldl_append, e]; rfl
theorem ordS_step (D : CD) {k : Nat} (h : k < (orderL D.gates).length) : ordS D (k + 1) = gateS (ordS D k) (D.gates.getD ((orderL D.gates).getD k 0).toNat (0, 0, 0)) := by
  have e : (orderL D.gates)[k] = (orderL D.gates).getD k 0 := by simp [List.getD, h]
  unfold ordS
  rw [List.take_succ_eq_append_getElem h, List.foldl_append, e]; rfl
/-! ## What is told, as the order goes on -/
def toldAt (told : List Bool) (L : List Int) : List Bool := L.foldl (fun b i => b.set i.toNat true) told
theorem ord_at (gs : List Tri) : ∀ (m : Nat) (told : List Bool) (k : Nat), k < (ordF gs m told).length →
    ∃ i : Nat, (ordF gs m told).getD k 0 = (i : Int) ∧ i < gs.length ∧ freeB gs (toldAt told ((ordF gs m told).take k)) i = true := by
  intro m
  induction m with
  | zero => intro told k h; simp [ordF] at h
  | succ m ih =>
    intro told k h
    cases hn : nextTo gs told gs.length with
    | none => rw [ord_none hn] at h; simp at h
    | some i =>
      rw [ord_some hn] at h ⊢
      cases k with
      | zero =>
        obtain ⟨h1, h2⟩ := next_spec hn
        exact ⟨i, rfl, h1, h2⟩
      | succ k =>
        obtain ⟨j, h1, h2, h3⟩ := ih (told.set i true) k (by simpa using h)
        exact ⟨j, by simpa using h1, h2, by rw [List.take_succ_cons]; exact h3⟩
theorem told_mem : ∀ (L : List Int) (told : List Bool) (j : Nat), (toldAt told L).getD j false = true → told.getD j false = true ∨ ∃ x ∈ L, x.toNat = j := by
  intro L
  induction L with
  | nil => intro told j h; exact .inl h
  | cons x L ih =>
    intro told j h
    rcases ih (told.set x.toNat true) j h with h1 | ⟨y, h1, h2⟩
    · by_cases e : x.toNat = j
      · exact .inr ⟨x, by simp, e⟩
      · refine .inl ?_
        simp only [List.getD] at h1 ⊢
        rw [List.getElem?_set_ne e] at h1; exact h1
    · exact .inr ⟨y, by simp [h1], h2⟩
theorem order_at (gs : List Tri) {k : Nat} (h : k < (orderL gs).length) : ∃ i : Nat, (orderL gs).getD k 0 = (i : Int) ∧ i < gs.length ∧
    ∀ x, (x = (gs.getD i (0, 0, 0)).2.1 ∨ x = (gs.getD i (0, 0, 0)).2.2) → ∀ j, j < gs.length → (gs.getD j (0, 0, 0)).1 / 2 = x / 2 → ∃ y ∈ (orderL gs).take k, y.toNat = j := by
  obtain ⟨i, h1, h2, h3⟩ := ord_at gs gs.length (List.replicate gs.length false) k h
  refine ⟨i, h1, h2, fun x hx j hj he => ?_⟩
  unfold freeB at h3
  simp only [Bool.and_eq_true, Bool.not_eq_true'] at h3
  have hw : waitsB gs (toldAt (List.replicate gs.length false) ((orderL gs).take k)) x = false := by
    rcases hx with rfl | rfl
    · exact h3.2.1
    · exact h3.2.2
  unfold waitsB waitsTo at hw
  rw [List.any_eq_false] at hw
  have := hw j (List.mem_range.2 hj)
  rw [decide_eq_true he, Bool.and_true] at this
  simp only [Bool.not_eq_true', Bool.not_eq_false] at this
  rcases told_mem _ _ _ this with h4 | h4
  · simp only [List.getD, List.getElem?_replicate] at h4
    split at h4 <;> simp at h4
  · exact h4
/-! ## The net is good -/
structure NetI (M : Nat) (s : NS) : Prop where
  len : s.2.length = M + 1
  zero : s.2.getD 0 0 = 0
  bd : ∀ v, -1 ≤ s.2.getD v 0 ∧ s.2.getD v 0 ≤ 2 * (s.1.length : Int) ∧ (0 ≤ s.2.getD v 0 → s.2.getD v 0 % 2 = 0)
  good : ∀ i, i < s.1.length → 0 ≤ (s.1.getD i (0, 0)).1 → (s.1.getD i (0, 0)).1 ≤ 2 * (i : Int) + 1 ∧ 0 ≤ (s.1.getD i (0, 0)).2 ∧ (s.1.getD i (0, 0)).2 ≤ 2 * (i : Int) + 1
theorem getD_setI {l : List Int} {i j : Nat} {x : Int} : (l.set i x).getD j 0 = if i = j ∧ i < l.length then x else l.getD j 0 := by
  simp only [List.getD]
  by_cases e : i = j
  · subst e
    by_cases h : i < l.length
    · rw [if_pos ⟨rfl, h⟩, List.getElem?_set_self h]; rfl
    · rw [if_neg (by omega), List.getElem?_eq_none (by simp; omega), List.getElem?_eq_none (by omega)]
  · rw [if_neg (by omega), List.getElem?_set_ne e]
theorem getD_app1 {l : List (Int × Int)} {x : Int × Int} {i : Nat} (h : i < l.length + 1) : (l ++ [x]).getD i (0, 0) = if i = l.length then x else l.getD i (0, 0) := by
  simp only [List.getD]
  by_cases e : i = l.length
  · subst e; rw [if_pos rfl, List.getElem?_append_right (Nat.le_refl _), Nat.sub_self]; rfl
  · rw [if_neg e, List.getElem?_append_left (by omega)]
theorem NetI.put {M : Nat} {s : NS} (h : NetI M s) {l : Int} (h2 : 2 ≤ l) {x : Int × Int} (hx : 0 ≤ x.1 → x.1 ≤ 2 * (s.1.length : Int) + 1 ∧ 0 ≤ x.2 ∧ x.2 ≤ 2 * (s.1.length : Int) + 1) :
    NetI M (s.1 ++ [x], s.2.set (l / 2).toNat (2 * ((s.1.length : Int) + 1))) := by
  refine ⟨by simp [h.len], ?_, fun v => ?_, fun i hi hp => ?_⟩
  · show (s.2.set _ _).getD 0 0 = 0
    rw [getD_setI, if_neg (by omega), h.zero]
  · show -1 ≤ (s.2.set _ _).getD v 0 ∧ (s.2.set _ _).getD v 0 ≤ 2 * ((s.1 ++ [x]).length : Int) ∧ (0 ≤ (s.2.set _ _).getD v 0 → (s.2.set _ _).getD v 0 % 2 = 0)
    obtain ⟨b1, b2, b3⟩ := h.bd v
    rw [getD_setI, List.length_append, List.length_singleton]
    split
    · exact ⟨by omega, by omega, fun _ => by omega⟩
    · exact ⟨b1, by omega, b3⟩
  · have hi' : i < s.1.length + 1 := by simpa using hi
    have hp' : 0 ≤ ((s.1 ++ [x]).getD i (0, 0)).1 := hp
    show ((s.1 ++ [x]).getD i (0, 0)).1 ≤ _ ∧ 0 ≤ ((s.1 ++ [x]).getD i (0, 0)).2 ∧ ((s.1 ++ [x]).getD i (0, 0)).2 ≤ _
    rw [getD_app1 hi'] at hp' ⊢
    by_cases e : i = s.1.length
    · rw [if_pos e] at hp' ⊢; rw [e]; exact hx hp'
    · rw [if_neg e] at hp' ⊢; exact h.good i (by omega) hp'
theorem NetI.ins {M : Nat} {s : NS} (h : NetI M s) {l : Int} (h2 : 2 ≤ l) : NetI M (inS s l) := h.put h2 (fun hp => by simp at hp)
theorem litP_in {M : Nat} {s : NS} (h : NetI M s) {l : Int} (hk : 0 ≤ atV s.2 l) : 0 ≤ litP s.2 l ∧ litP s.2 l ≤ 2 * (s.1.length : Int) + 1 := by
  obtain ⟨b1, b2, b3⟩ := h.bd (l / 2).toNat
  unfold atV at hk
  have := b3 hk
  unfold litP
  split <;> omega
theorem NetI.gate {M : Nat} {s : NS} (h : NetI M s) {g : Tri} (h2 : 2 ≤ g.1) (ha : 0 ≤ atV s.2 g.2.1) (hb : 0 ≤ atV s.2 g.2.2) : NetI M (gateS s g) :=
  h.put h2 (fun _ => ⟨(litP_in h ha).2, (litP_in h hb).1, (litP_in h hb).2⟩)
theorem known_put {s : NS} {x : Int × Int} {l m : Int} (h : 0 ≤ atV s.2 m) : 0 ≤ atV (s.1 ++ [x], s.2.set (l / 2).toNat (2 * ((s.1.length : Int) + 1))).2 m := by
  show 0 ≤ (s.2.set _ _).getD _ 0
  rw [getD_setI]
  split
  · omega
  · exact h
theorem known_new {M : Nat} {s : NS} (h : NetI M s) {x : Int × Int} {l : Int} (_h2 : 2 ≤ l) (h3 : l ≤ 2 * (M : Int)) : 0 ≤ atV (s.1 ++ [x], s.2.set (l / 2).toNat (2 * ((s.1.length : Int) + 1))).2 l := by
  show 0 ≤ (s.2.set _ _).getD _ 0
  rw [getD_setI, if_pos ⟨rfl, by rw [h.len]; omega⟩]; omega
theorem net0 (M : Nat) : NetI M ([], at0 M) := by
  refine ⟨by simp [at0], rfl, fun v => ?_, fun i hi => by simp at hi⟩
  show -1 ≤ (at0 M).getD v 0 ∧ (at0 M).getD v 0 ≤ _ ∧ (0 ≤ (at0 M).getD v 0 → (at0 M).getD v 0 % 2 = 0)
  unfold at0
  cases v with
  | zero => simp
  | succ v =>
    by_cases h : v < M
    · have e : (0 :: List.replicate M (-1 : Int)).getD (v + 1) 0 = -1 := by simp [List.getD, h]
      rw [e]; simp
    · have e : (0 :: List.replicate M (-1 : Int)).getD (v + 1) 0 = 0 := by simp [List.getD, h]
      rw [e]; simp
/-- what a good circuit's literals are -/
structure GoodC (D : CD) : Prop where
  max : 0 ≤ D.max ∧ D.max ≤ 16777216
  own : ∀ l ∈ ownedL D, 2 ≤ l ∧ l % 2 = 0 ∧ l ≤ 2 * D.max
  used : ∀ l ∈ usedL D, 0 ≤ l ∧ l ≤ 2 * D.max + 1
  has : ∀ l ∈ usedL D, 1 < l → l - l % 2 ∈ ownedL D
  once : ∀ i, i < (ownedL D).length → (ownedL D).getD i 0 ∉ (ownedL D).take i
  full : (orderL D.gates).length = D.gates.length
theorem goodC {D : CD} (h : checkF D = 0) : GoodC D := by
  unfold checkF at h
  split at h
  · cases h
  split at h
  · cases h
  split at h
  · cases h
  split at h
  · cases h
  split at h
  · cases h
  split at h
  · cases h
  split at h
  · cases h
  next n1 n2 n3 n4 n5 n6 n7 =>
  rw [Bool.not_eq_true] at n1 n2 n3 n5 n6 n7
  refine ⟨?_, fun l hl => ?_, fun l hl => ?_, fun l hl h1 => ?_, fun i hi hm => ?_, ?_⟩
  · unfold c1B at n1
    simp only [Bool.or_eq_false_iff, decide_eq_false_iff_not] at n1
    omega
  · have := some_mem n2 hl
    unfold badO at this
    simp only [Bool.or_eq_false_iff, decide_eq_false_iff_not] at this
    omega
  · have := some_mem n3 hl
    unfold badU at this
    simp only [Bool.or_eq_false_iff, decide_eq_false_iff_not] at this
    omega
  · have := some_mem n6 hl
    unfold misU at this
    rw [decide_eq_true h1, Bool.true_and] at this
    simp only [Bool.not_eq_false'] at this
    unfold hasI at this
    exact of_decide_eq_true this
  · have := some_not n5 hi
    unfold dupI hasI at this
    exact (of_decide_eq_false this) hm
  · unfold c7B at n7
    have h1 := of_decide_eq_false n7
    have h2 := ord_len D.gates D.gates.length (List.replicate D.gates.length false)
    have h3 : (orderL D.gates).length ≤ D.gates.length := h2
    omega
/-- what is known behind k inputs, k latches, k gates -/
theorem ins_all {D : CD} (h : GoodC D) : ∀ k, k ≤ D.ins.length → NetI D.max.toNat (insS D k) ∧ (insS D k).1.length = k ∧ ∀ l ∈ D.ins.take k, 0 ≤ atV (insS D k).2 l := by
  intro k
  induction k with
  | zero => intro _; exact ⟨net0 _, rfl, fun l hl => by simp at hl⟩
  | succ k ih =>
    intro hk
    obtain ⟨h1, h2, h3⟩ := ih (by omega)
    have hm : D.ins.getD k 0 ∈ ownedL D := by
      have e : D.ins.getD k 0 = D.ins[k] := by simp [List.getD, show k < D.ins.length by omega]
      rw [e]; unfold ownedL
      exact List.mem_append_left _ (List.mem_append_left _ (List.getElem_mem _))
    obtain ⟨g1, g2, g3⟩ := h.own _ hm
    have hM : ((D.max.toNat : Nat) : Int) = D.max := Int.toNat_of_nonneg h.max.1
    rw [ins_step D (by omega)]
    refine ⟨h1.ins g1, by show ((insS D k).1 ++ [_]).length = _; simp [h2], fun l hl => ?_⟩
    rw [List.take_succ_eq_append_getElem (by omega)] at hl
    rcases List.mem_append.1 hl with hl | hl
    · exact known_put (h3 l hl)
    · have e : D.ins.getD k 0 = D.ins[k] := by simp [List.getD, show k < D.ins.length by omega]
      have : l = D.ins.getD k 0 := by rw [e]; simpa using hl
      rw [this]
      exact known_new h1 g1 (by omega)
theorem lat_all {D : CD} (h : GoodC D) : ∀ k, k ≤ D.lats.length → NetI D.max.toNat (latS D k) ∧ (latS D k).1.length = D.ins.length + k ∧ (∀ l ∈ D.ins, 0 ≤ atV (latS D k).2 l) ∧ ∀ t ∈ D.lats.take k, 0 ≤ atV (latS D k).2 t.1 := by
  intro k
  induction k with
  | zero =>
    intro _
    obtain ⟨h1, h2, h3⟩ := ins_all h D.ins.length (Nat.le_refl _)
    rw [List.take_length] at h3
    exact ⟨h1, by rw [Nat.add_zero]; exact h2, h3, fun t ht => by simp at ht⟩
  | succ k ih =>
    intro hk
    obtain ⟨h1, h2, h3, h4⟩ := ih (by omega)
    have e : D.lats.getD k (0, 0, 0) = D.lats[k] := by simp [List.getD, show k < D.lats.length by omega]
    have hm : (D.lats.getD k (0, 0, 0)).1 ∈ ownedL D := by
      rw [e]; unfold ownedL
      exact List.mem_append_left _ (List.mem_append_right _ (List.mem_map.2 ⟨_, List.getElem_mem _, rfl⟩))
    obtain ⟨g1, g2, g3⟩ := h.own _ hm
    have hM : ((D.max.toNat : Nat) : Int) = D.max := Int.toNat_of_nonneg h.max.1
    rw [lat_step D (by omega)]
    refine ⟨h1.ins g1, by show ((latS D k).1 ++ [_]).length = _; simp [h2]; omega, fun l hl => known_put (h3 l hl), fun t ht => ?_⟩
    rw [List.take_succ_eq_append_getElem (by omega)] at ht
    rcases List.mem_append.1 ht with ht | ht
    · exact known_put (h4 t ht)
    · have : t = D.lats.getD k (0, 0, 0) := by rw [e]; simpa using ht
      rw [this]
      exact known_new h1 g1 (by omega)
structure OrdI (D : CD) (k : Nat) : Prop where
  net : NetI D.max.toNat (ordS D k)
  len : (ordS D k).1.length = D.ins.length + D.lats.length + k
  ins : ∀ l ∈ D.ins, 0 ≤ atV (ordS D k).2 l
  lats : ∀ t ∈ D.lats, 0 ≤ atV (ordS D k).2 t.1
  gates : ∀ y ∈ (orderL D.gates).take k, 0 ≤ atV (ordS D k).2 (D.gates.getD y.toNat (0, 0, 0)).1
/-- a gate's literals are known when its turn comes -/
theorem ord_known {D : CD} (h : GoodC D) {k : Nat} (hk : k < (orderL D.gates).length) (H : OrdI D k) : ∃ i : Nat, (orderL D.gates).getD k 0 = (i : Int) ∧ i < D.gates.length ∧
    (2 ≤ (D.gates.getD i (0, 0, 0)).1 ∧ (D.gates.getD i (0, 0, 0)).1 ≤ 2 * D.max) ∧
    ∀ x, (x = (D.gates.getD i (0, 0, 0)).2.1 ∨ x = (D.gates.getD i (0, 0, 0)).2.2) → (0 ≤ x ∧ x ≤ 2 * D.max + 1) ∧ 0 ≤ atV (ordS D k).2 x := by
  obtain ⟨i, h1, h2, h3⟩ := order_at D.gates hk
  have e : D.gates.getD i (0, 0, 0) = D.gates[i] := by simp [List.getD, h2]
  have hm : D.gates.getD i (0, 0, 0) ∈ D.gates := by rw [e]; exact List.getElem_mem _
  have ho := h.own _ (owned_mem hm)
  refine ⟨i, h1, h2, ⟨ho.1, ho.2.2⟩, fun x hx => ?_⟩
  have hu : x ∈ usedL D := by
    rcases hx with rfl | rfl
    · exact (used_mem hm).1
    · exact (used_mem hm).2
  have hb := h.used x hu
  refine ⟨hb, ?_⟩
  by_cases h4 : x ≤ 1
  · unfold atV
    rw [show (x / 2).toNat = 0 by omega, H.net.zero]; omega
  · have ho := h.has x hu (by omega)
    have same : ∀ y : Int, y = x - x % 2 → 0 ≤ atV (ordS D k).2 y → 0 ≤ atV (ordS D k).2 x := fun y hy h => by
      unfold atV at h ⊢
      rw [show (x / 2) = y / 2 by omega]; exact h
    unfold ownedL at ho
    rcases List.mem_append.1 ho with ho | ho
    · rcases List.mem_append.1 ho with ho | ho
      · exact same _ rfl (H.ins _ ho)
      · obtain ⟨t, ht, ht2⟩ := List.mem_map.1 ho
        exact same _ ht2 (H.lats t ht)
    · obtain ⟨t, ht, ht2⟩ := List.mem_map.1 ho
      obtain ⟨j, hj, hj2⟩ := List.getElem_of_mem ht
      have ej : D.gates.getD j (0, 0, 0) = t := by simp [List.getD, hj, hj2]
      obtain ⟨y, hy, hy2⟩ := h3 x hx j hj (by rw [ej, ht2]; omega)
      have := H.gates y hy
      rw [hy2, ej] at this
      exact same _ ht2 this
theorem ord_all {D : CD} (h : GoodC D) : ∀ k, k ≤ (orderL D.gates).length → OrdI D k := by
  intro k
  induction k with
  | zero =>
    intro _
    obtain ⟨h1, h2, h3, h4⟩ := lat_all h D.lats.length (Nat.le_refl _)
    rw [List.take_length] at h4
    exact ⟨h1, h2, h3, h4, fun y hy => by simp at hy⟩
  | succ k ih =>
    intro hk
    have H := ih (by omega)
    obtain ⟨i, h1, h2, h3, h4⟩ := ord_known h (k := k) (by omega) H
    have hM : ((D.max.toNat : Nat) : Int) = D.max := Int.toNat_of_nonneg h.max.1
    have hs := ordS_step D (k := k) (by omega)
    rw [h1, Int.toNat_natCast] at hs
    obtain ⟨g, hg⟩ : ∃ g, g = D.gates.getD i (0, 0, 0) := ⟨_, rfl⟩
    rw [← hg] at hs h3 h4
    refine ⟨by rw [hs]; exact H.net.gate h3.1 (h4 _ (.inl rfl)).2 (h4 _ (.inr rfl)).2, by rw [hs]; show ((ordS D k).1 ++ [_]).length = _; simp [H.len]; omega,
      fun l hl => by rw [hs]; exact known_put (H.ins l hl), fun t ht => by rw [hs]; exact known_put (H.lats t ht), fun y hy => ?_⟩
    rw [hs]
    rw [List.take_succ_eq_append_getElem (by omega)] at hy
    rcases List.mem_append.1 hy with hy | hy
    · exact known_put (H.gates y hy)
    · have e : (orderL D.gates)[k] = (orderL D.gates).getD k 0 := by simp [List.getD, show k < (orderL D.gates).length by omega]
      have : y = (i : Int) := by rw [← h1, ← e]; simpa using hy
      rw [this, Int.toNat_natCast, ← hg]
      exact known_new H.net h3.1 (by omega)
end Go.Proofs.Ytbpjflghkkkenaa.row

/- The walk of the document's Net. (Printed by mkN18.py.) -/
namespace Go.Proofs.Ytbpjflghkkkenaa.row
open Go.RowKit
open Go.Proofs.Ytbpjflghkkkenaa.mem (own_on addr_add)
open Go.Proofs.Ytbpjflghkkkenaa.ints (Ints ints_cell below_drewN ints_of_owned)
open Go.Proofs.Ytbpjflghkkkenaa.aig (row_end news1 one_cell infoN nodeCells nodeCells_len nodeCells_snoc nodeCells_at KNds)

theorem knds_own {w : World} {E : Nat} {v : Value} {ns : List (Int × Int)} {P : Nat → Prop} (h : w.ownsRow E 42 2 v ns.length (nodeCells ns)) (hP : ∀ k, P k → k < E) : KNds P w v ns := by
  rcases h.2 with ⟨rfl, h0⟩ | ⟨g, cap, cur, rfl, hb, hg, hn, hm, hs, ht⟩
  · exact ⟨none, 0, by rw [h0], by omega, by unfold maxLen; omega, fun hp => by omega⟩
  · refine ⟨some ⟨g, 0, none⟩, cap, rfl, hn, hm, fun hp => ⟨g, 0, rfl, (Array.getElem?_eq_some_iff.1 hg).1, fun e => by have := hP g e; omega, fun i hi => ?_⟩⟩
    obtain ⟨k1, k2⟩ := nodeCells_at ns i hi
    exact ⟨by rw [Nat.zero_add, h.cellAt _ (by omega), k1], by rw [Nat.zero_add, h.cellAt _ (by omega), k2]⟩
theorem own_grown {B sz n : Nat} {e : TypeId} {u : Value} {xs : List Value} {w w' : World} {ob : Option Nat} (h : w.ownsRow B e sz u n xs) (hg : w.grownBy w' ob) (hne : ∀ g, u.ownBlock = some g → ob ≠ some g) : w'.ownsRow B e sz u n xs := by
  rcases h.2 with h0 | ⟨g, cap, cur, hv, hb, hgg, r⟩
  · exact ⟨h.1, .inl h0⟩
  · exact ⟨h.1, .inr ⟨g, cap, cur, hv, hb, (hg.block g (Array.getElem?_eq_some_iff.1 hgg).1 (fun e => hne g (by rw [hv]; rfl) e.symm)).trans hgg, r⟩⟩
/-- two lists of one's own, side by side: nodes, and literals -/
structure NT (v : World) (nv av : Value) (s : NS) (w : World) : Prop where
  rn : w.ownsRow v.heap.size 42 2 nv s.1.length (nodeCells s.1)
  ra : w.ownsRow v.heap.size 3 1 av s.2.length (s.2.map (Value.int .i64))
  bel : Below v.heap.size v w
  ne : ∀ g, nv.ownBlock = some g → av.ownBlock ≠ some g
section
variable {v w w3 : World} {nv av : Value} {s : NS}
theorem NT.on {w' : World} (h : NT v nv av s w) (hb : Below w.heap.size w w') : NT v nv av s w' :=
  ⟨own_on h.rn hb, own_on h.ra hb, h.bel.trans (hb.mono h.bel.size), h.ne⟩
theorem NT.addA {o : Obj} {t c : Nat} {z : Int} (h : NT v nv av s w) (hown : w3.ownsRow v.heap.size 3 1 (.slice (some ⟨t, 0, none⟩) (s.2.length + 1) c) (s.2.length + 1) (s.2.map (Value.int .i64) ++ [.int .i64 z]))
    (hg : (w.alloc o).grownBy w3 av.ownBlock) (hat : av.ownBlock = some t ∨ w.heap.size ≤ t) : NT v nv (.slice (some ⟨t, 0, none⟩) (s.2.length + 1) c) (s.1, s.2 ++ [z]) w3 := by
  have ha : Below w.heap.size w (w.alloc o) := (Below.refl _ _).alloc (Nat.le_refl _) _
  have he := row_end h.bel h.bel.size h.ra hown hg
  refine ⟨own_grown (own_on h.rn ha) hg (fun g e => h.ne g e), he.1, he.2, fun g e e2 => ?_⟩
  have e3 : t = g := by simpa [Value.ownBlock] using e2
  rcases hat with hat | hat
  · exact h.ne g e (e3 ▸ hat)
  · have := (h.rn.lt g e).2; omega
theorem NT.addN {o : Obj} {t c : Nat} {a b : Int} (h : NT v nv av s w) (hown : w3.ownsRow v.heap.size 42 2 (.slice (some ⟨t, 0, none⟩) (s.1.length + 1) c) (s.1.length + 1) (nodeCells s.1 ++ [.int .i64 a, .int .i64 b]))
    (hg : (w.alloc o).grownBy w3 nv.ownBlock) (hat : nv.ownBlock = some t ∨ w.heap.size ≤ t) : NT v (.slice (some ⟨t, 0, none⟩) (s.1.length + 1) c) av (s.1 ++ [(a, b)], s.2) w3 := by
  have ha : Below w.heap.size w (w.alloc o) := (Below.refl _ _).alloc (Nat.le_refl _) _
  have hb : Below v.heap.size v w3 := (h.bel.trans (ha.mono h.bel.size)).grown hg (by have := h.bel.size; have := ha.size; omega) (fun k hk => (h.rn.lt k hk).1)
  refine ⟨?_, own_grown (own_on h.ra ha) hg (fun g e e2 => h.ne g e2 e), hb, fun g e e2 => ?_⟩
  · rw [nodeCells_snoc] at hown
    show w3.ownsRow _ _ _ _ (s.1 ++ [(a, b)]).length (nodeCells (s.1 ++ [(a, b)]))
    rw [List.length_append, List.length_singleton]; exact hown
  · have e3 : t = g := by simpa [Value.ownBlock] using e
    rcases hat with hat | hat
    · exact h.ne g (e3 ▸ hat) e2
    · have := (h.ra.lt g e2).2; omega
theorem NT.put {ga n c : Nat} (h : NT v nv (.slice (some ⟨ga, 0, none⟩) n c) s w) (j : Nat) (z : Int) : NT v nv (.slice (some ⟨ga, 0, none⟩) n c) (s.1, s.2.set j z) (w.setCell ⟨ga, j, none⟩ (.int .i64 z)) := by
  have hn : s.2.length = n := by
    rcases h.ra.2 with ⟨h1, -⟩ | ⟨g, cap, cur, h1, -⟩
    · cases h1
    · exact (Value.slice.inj h1).2.1.symm
  subst hn
  have hlt := (h.ra.lt ga rfl).1
  refine ⟨own_away h.rn (fun e => h.ne ga e rfl) (fun k _ hk => Below.heap_setCell w ⟨ga, j, none⟩ _ k hk), ?_, h.bel.setCell (p := ⟨ga, j, none⟩) hlt _, h.ne⟩
  have s1 := (h.ra.stored j (.int .i64 z)).1
  rw [← List.map_set] at s1
  show (w.setCell _ _).ownsRow _ _ _ _ (s.2.set j z).length _
  rw [List.length_set]; exact s1
end
end Go.Proofs.Ytbpjflghkkkenaa.row

/- The walk of the document's Net. (Printed by mkN19.py.) -/
namespace Go.Proofs.Ytbpjflghkkkenaa.row
open Go.RowKit
open Go.Proofs.Ytbpjflghkkkenaa.mem (own_on addr_add)
open Go.Proofs.Ytbpjflghkkkenaa.ints (Ints ints_cell below_drewN ints_of_owned)
open Go.Proofs.Ytbpjflghkkkenaa.aig (row_end news1 one_cell infoN nodeCells nodeCells_len nodeCells_snoc nodeCells_at KNds)

/-- how a net is told -/
def TellsN (s : NS) (w : World) (e : Ending) (w' : World) : Prop := ∃ nv av, e = .returned (.tuple #[nv, av]) ∧ KNds (fun _ => False) w' nv s.1 ∧ Ints w' av s.2 ∧ Below w.heap.size w w'
theorem nt0 (v : World) : NT v (.slice (some ⟨v.heap.size, 0, none⟩) 0 0) (.slice (some ⟨v.heap.size + 1, 0, none⟩) 1 1) ([], at0 0) ((v.alloc (.cells #[] 42)).alloc (.cells #[.int .i64 0] 3)) := by
  have s1 : (v.alloc (.cells #[] 42)).heap.size = v.heap.size + 1 := by simp
  have q : ∀ (w : World) (b : Obj), Below w.heap.size w (w.alloc b) := fun w b => (Below.refl _ _).alloc (Nat.le_refl _) _
  have hr : ((v.alloc (.cells #[] 42)).alloc (.cells #[.int .i64 0] 3)).ownsRow (v.heap.size + 1) 3 1 (.slice (some ⟨v.heap.size + 1, 0, none⟩) 1 1) 1 [.int .i64 0] := by
    have := World.ownsRow_lit (v.alloc (.cells #[] 42)) (e := 3) (base := (v.alloc (.cells #[] 42)).heap.size) (size := 1) #[.int .i64 0] 1 (Nat.le_refl _) (by unfold maxLen; omega) rfl
    rw [s1] at this
    exact this
  refine ⟨own_on (World.ownsRow_made _ #[] 0 (Nat.le_refl _) (by unfold maxLen; omega) rfl) (q _ _), Joins.ownsRow_le hr (by omega), (q _ _).trans ((q _ _).mono (by omega)), fun g e e2 => ?_⟩
  have e3 : v.heap.size = g := by simpa [Value.ownBlock] using e
  have e4 : v.heap.size + 1 = g := by simpa [Value.ownBlock] using e2
  omega
theorem owns_some {w : World} {B sz n : Nat} {e : TypeId} {u : Value} {xs : List Value} (h : w.ownsRow B e sz u n xs) (hn : 0 < n) : ∃ g c, u = .slice (some ⟨g, 0, none⟩) n c ∧ B ≤ g := by
  rcases h.2 with ⟨-, h0⟩ | ⟨g, cap, cur, h1, hb, -⟩
  · omega
  · exact ⟨g, cap, h1, hb⟩
theorem get_int {A : List Int} {j : Nat} (h : j < A.length) : (A.map (Value.int .i64))[j]? = some (.int .i64 (A.getD j 0)) := by
  rw [List.getElem?_map, List.getElem?_eq_getElem h]; simp [List.getD, h]
/-- the cell of a row of ints that is to be stored -/
theorem NT.cellA {v w : World} {nv : Value} {ga n c : Nat} {s : NS} (h : NT v nv (.slice (some ⟨ga, 0, none⟩) n c) s w) (hn : s.2.length = n) {j : Nat} (hj : j < n) : w.cell? ⟨ga, j, none⟩ = some (.int .i64 (s.2.getD j 0)) ∧ w.frozen? ⟨ga, j, none⟩ = false := by
  subst hn
  exact ⟨(h.ra.cellAt j (by omega)).trans (get_int hj), h.ra.frozenAt j⟩
theorem NT.ints {v w : World} {nv av : Value} {s : NS} (h : NT v nv av s w) : Ints w av s.2 := ints_of_owned h.ra
theorem ins_mem {D : CD} {k : Nat} (h : k < D.ins.length) : D.ins.getD k 0 ∈ ownedL D := by
  have e : D.ins.getD k 0 = D.ins[k] := by simp [List.getD, h]
  rw [e]; unfold ownedL
  exact List.mem_append_left _ (List.mem_append_left _ (List.getElem_mem _))
theorem lat_mem {D : CD} {k : Nat} (h : k < D.lats.length) : (D.lats.getD k (0, 0, 0)).1 ∈ ownedL D := by
  have e : D.lats.getD k (0, 0, 0) = D.lats[k] := by simp [List.getD, h]
  rw [e]; unfold ownedL
  exact List.mem_append_left _ (List.mem_append_right _ (List.mem_map.2 ⟨_, List.getElem_mem _, rfl⟩))
/-- .. and a third one, that stays -/
structure NT4 (v : World) (nv av : Value) (s : NS) (T : Nat) (ov : Value) (os : List Int) (w : World) : Prop where
  nt : NT v nv av s w
  ro : w.ownsRow T 3 1 ov os.length (os.map (Value.int .i64))
  nn : ∀ g, ov.ownBlock = some g → nv.ownBlock ≠ some g
  na : ∀ g, ov.ownBlock = some g → av.ownBlock ≠ some g
section
variable {v w w3 : World} {nv av ov : Value} {s : NS} {T : Nat} {os : List Int}
theorem NT4.on {w' : World} (h : NT4 v nv av s T ov os w) (hb : Below w.heap.size w w') : NT4 v nv av s T ov os w' := ⟨h.nt.on hb, own_on h.ro hb, h.nn, h.na⟩
theorem NT4.addN {o : Obj} {t c : Nat} {a b : Int} (h : NT4 v nv av s T ov os w) (hown : w3.ownsRow v.heap.size 42 2 (.slice (some ⟨t, 0, none⟩) (s.1.length + 1) c) (s.1.length + 1) (nodeCells s.1 ++ [.int .i64 a, .int .i64 b]))
    (hg : (w.alloc o).grownBy w3 nv.ownBlock) (hat : nv.ownBlock = some t ∨ w.heap.size ≤ t) : NT4 v (.slice (some ⟨t, 0, none⟩) (s.1.length + 1) c) av (s.1 ++ [(a, b)], s.2) T ov os w3 := by
  have ha : Below w.heap.size w (w.alloc o) := (Below.refl _ _).alloc (Nat.le_refl _) _
  refine ⟨h.nt.addN hown hg hat, own_grown (own_on h.ro ha) hg (fun g e => h.nn g e), fun g e e2 => ?_, h.na⟩
  have e3 : t = g := by simpa [Value.ownBlock] using e2
  rcases hat with hat | hat
  · exact h.nn g e (e3 ▸ hat)
  · have := (h.ro.lt g e).2; omega
theorem NT4.put {ga n c : Nat} (h : NT4 v nv (.slice (some ⟨ga, 0, none⟩) n c) s T ov os w) (j : Nat) (z : Int) : NT4 v nv (.slice (some ⟨ga, 0, none⟩) n c) (s.1, s.2.set j z) T ov os (w.setCell ⟨ga, j, none⟩ (.int .i64 z)) :=
  ⟨h.nt.put j z, own_away h.ro (fun e => h.na ga e rfl) (fun k _ hk => Below.heap_setCell w ⟨ga, j, none⟩ _ k hk), h.nn, h.na⟩
theorem NT4.ord (h : NT4 v nv av s T ov os w) : Ints w ov os := ints_of_owned h.ro
end
theorem hat_le {w : World} {o : Obj} {ob : Option Nat} {t : Nat} (h : ob = some t ∨ t = (w.alloc o).heap.size) : ob = some t ∨ w.heap.size ≤ t := h.imp id (fun e => by rw [e]; simp)
theorem Blk.grown {w w3 : World} {o : Obj} {X : Nat} {cs : Array Value} {ob : Option Nat} (h : Blk w X cs) (hg : (w.alloc o).grownBy w3 ob) (hne : ob ≠ some X) : Blk w3 X cs := by
  have ha : Below w.heap.size w (w.alloc o) := (Below.refl _ _).alloc (Nat.le_refl _) _
  have hl := h.lt
  obtain ⟨t, h1⟩ := h.on ha
  exact ⟨t, (hg.block X (by have := ha.size; omega) (fun e => hne e.symm)).trans h1⟩
theorem lits_of {D : CD} (h : GoodC D) : ∀ t ∈ D.gates, Lit3 t := by
  intro t ht
  have a := h.own _ (owned_mem ht)
  have b := h.used _ (used_mem ht).1
  have c := h.used _ (used_mem ht).2
  have m := h.max
  unfold Lit3
  omega
set_option maxRecDepth 100000 in
set_option maxHeartbeats 6400000 in
theorem refNet_any (D : CD) (F : CF) (P : Nat → Prop) (w : World) (hc : InC P w D F) (hl : Lens D) (hg : GoodC D) :
    Calls Try.prog 13 #[cval D F] w (TellsN (netF D) w) := by
  obtain ⟨i0, hi, hz0, hz1, hz2⟩ := info_parts infoI1
  obtain ⟨iN, hiN, hzN0, hzN1, hzN2⟩ := info_parts infoN
  have HL := Lib.hid hl
  have HC := Lib.hid hc
  have HG := Lib.hid hg
  obtain ⟨M, hM⟩ : ∃ M : Nat, D.max = (M : Int) := ⟨D.max.toNat, (Int.toNat_of_nonneg hg.max.1).symm⟩
  have hM1 : M ≤ 16777216 := by have := hg.max.2; omega
  have HMN : Hid (D.max.toNat = M) := Lib.hid (by omega)
  have HM := Lib.hid hM
  clear hc hl hg hM
  go_enter Try.func13, Try.ntmps13
  go_upto_region 1 with fail
  have X0 := blk_new w (ccells D F) 27
  have B0 : Below w.heap.size w (w.alloc (.cells (ccells D F) 27)) := (Below.refl _ _).alloc (Nat.le_refl _) _
  have I0 := HC.out.on B0
  clear HC
  generalize w.alloc (.cells (ccells D F) 27) = v at *
  have HX := Lib.hid X0
  have HB := Lib.hid B0
  have HI := Lib.hid I0
  have HN0 := Lib.hid (nt0 v)
  clear X0 B0 I0
  have KC : Hid (∀ u, Below v.heap.size v u → u.cell? ⟨w.heap.size, 0, none⟩ = some (.int .i64 (M : Int)) ∧ u.cell? ⟨w.heap.size, 1, none⟩ = some (.slice F.ai D.ins.length F.ci) ∧ u.cell? ⟨w.heap.size, 2, none⟩ = some (.slice F.al D.lats.length F.cl) ∧ u.cell? ⟨w.heap.size, 6, none⟩ = some (.slice F.ag D.gates.length F.cg)) := Lib.hid (fun u hu => by
    have h := HX.out.on hu
    have h0 := (h.cell 0).1
    simp at h0
    rw [HM.out] at h0
    exact ⟨h0, (h.cell 1).1, (h.cell 2).1, (h.cell 6).1⟩)
  go_wp2_with fail
  go_loopw [5, 6] (fun a i wr => ∃ (k : Nat) (av : Value) (A : List Int), 1 ≤ k ∧ k ≤ M + 1 ∧ i = .int .i64 k ∧ a = av ∧ A.length = k ∧ Hid (A = at0 (k - 1)) ∧ Hid (NT v (.slice (some ⟨v.heap.size, 0, none⟩) 0 0) av ([], A) wr)) (fun _ i _ => M + 1 - (intOf i).toNat)
  case atStart => exact ⟨1, _, _, Nat.le_refl _, by omega, rfl, rfl, at0_len 0, Lib.hid rfl, HN0⟩
  case round =>
    clear HN0
    obtain ⟨k, av, A, hk1, hk, rfl, hav, hA, HA, HW⟩ := hrel
    obtain rfl : av = _ := hav.symm
    obtain ⟨wo, rfl⟩ : ∃ wo : World, wo = wr := ⟨_, rfl⟩
    obtain ⟨x0, -, -, -⟩ := KC.out wo HW.out.bel
    have hsz := HW.out.bel.size
    by_cases hlt : k ≤ M
    · have d1 : (k : Int) ≤ (M : Int) := by omega
      have HROW := Lib.hid (own_on HW.out.ra ((Below.refl _ wo).alloc (Nat.le_refl _) (.cells #[.int .i64 (-1)] 3)))
      have HNA : Hid (A ++ [-1] = at0 (k + 1 - 1)) := Lib.hid (by rw [HA.out, at0_snoc]; congr 1; omega)
      have HAL := Lib.hid hA
      have hAb : A.length ≤ 16777217 := by omega
      clear hA
      go_wp2_with (at_builtin; refine wpList_append_lies _ rfl (.tmp 20) (.tmp 21) 22 rfl v.heap.size 3 i0 (.int .i64 0) 1 8 Try.underlying22 hi hz0 hz1 hz2 rfl (by decide) av A.length (A.map (Value.int .i64)) rfl HROW.out ⟨wo.heap.size, 0, none⟩ 1 1 [.int .i64 (-1)] rfl rfl (news1 _ _ _) (one_cell _) (by omega) (by unfold maxLen; omega) (by omega) (by simp; omega) _ rfl ?_)
      intro t2 c2 w3 hown hgrow hat _
      have HE := Lib.hid (HW.out.addA hown hgrow (hat.imp id (fun e => by omega)))
      clear hown hgrow hat
      go_wp2_with fail
      go_roundw
      case rel => exact ⟨k + 1, .slice (some ⟨t2, 0, none⟩) (A.length + 1) c2, A ++ [-1], by omega, by omega, by go_num, rfl, by rw [List.length_append, List.length_singleton, HAL.out], HNA, HE⟩
      case measure => simp [intOf]; omega
    · have d1 : decide ((k : Int) ≤ (M : Int)) = false := by simp; omega
      have d2 : decide (k ≤ M) = false := by simp; omega
      have hkM : k = M + 1 := by omega
      have hAM : A = at0 M := by rw [HA.out, hkM]; rfl
      obtain ⟨ga, ac, rfl, hga⟩ := owns_some HW.out.ra (by show 0 < A.length; omega)
      have hAl : A.length = M + 1 := by omega
      have HGA := Lib.hid hga
      have HE : Hid (NT v (.slice (some ⟨v.heap.size, 0, none⟩) 0 0) (.slice (some ⟨ga, 0, none⟩) A.length ac) (insS D 0) wo) := Lib.hid (by
        have h := HW.out
        rw [show insS D 0 = ([], A) by rw [hAM]; unfold insS; rw [HMN.out]; rfl]
        exact h)
      obtain ⟨q, hq⟩ : ∃ q, q = A.length := ⟨_, rfl⟩
      rw [← hq] at HE ⊢
      have hqM : q = M + 1 := by omega
      have HQ := Lib.hid hqM
      clear HW hA hAM hAl HA hlt hk hk1 hkM hga hq hqM
      obtain ⟨ni, hni⟩ : ∃ n, n = D.ins.length := ⟨_, rfl⟩
      have HNI := Lib.hid hni
      have hni1 : ni ≤ 1000 := by rw [hni]; exact HL.out.i
      obtain ⟨nl, hnl⟩ : ∃ n, n = D.lats.length := ⟨_, rfl⟩
      have HNL := Lib.hid hnl
      have hnl1 : nl ≤ 1000 := by rw [hnl]; exact HL.out.l
      rw [← hni, ← hnl] at KC
      clear hni hnl
      go_wp2_with fail
      go_loopw [4, 7] (fun nn i wr => ∃ (k : Nat) (nv : Value) (N : List (Int × Int)) (A : List Int), k ≤ ni ∧ i = .int .i64 k ∧ nn = nv ∧ N.length = k ∧ A.length = q ∧ Hid (insS D k = (N, A)) ∧ Hid (NT v nv (.slice (some ⟨ga, 0, none⟩) q ac) (N, A) wr)) (fun _ i _ => ni - (intOf i).toNat)
      case atStart => exact ⟨0, _, _, _, Nat.zero_le _, rfl, rfl, rfl, by show (insS D 0).2.length = q; rw [(ins_all HG.out 0 (Nat.zero_le _)).1.len, HMN.out, HQ.out], Lib.hid rfl, HE⟩
      case round =>
        clear HE
        obtain ⟨k, nv, N, A, hk, rfl, hnv, hN, hA, HS, HW⟩ := hrel
        obtain rfl : nv = _ := hnv.symm
        obtain ⟨wo, rfl⟩ : ∃ wo : World, wo = wr := ⟨_, rfl⟩
        obtain ⟨-, x1, -, -⟩ := KC.out wo HW.out.bel
        have hsz := HW.out.bel.size
        by_cases hlt0 : k < ni
        · have d1 : (k : Int) < (ni : Int) := by omega
          have d2 : 0 ≤ (k : Int) := by omega
          have hlt : k < D.ins.length := by rw [← HNI.out]; exact hlt0
          have HROW := Lib.hid (own_on HW.out.rn ((Below.refl _ wo).alloc (Nat.le_refl _) (.cells #[.int .i64 (-1), .int .i64 0] 42)))
          have HLT := Lib.hid hlt
          have HNN := Lib.hid hN
          have HAA := Lib.hid hA
          have hNb : N.length ≤ 3000 := by omega
          clear hlt hN hA
          go_wp2_with (at_builtin; refine wpList_append_lies _ rfl (.tmp 30) (.tmp 32) 35 rfl v.heap.size 42 iN _ 2 16 Try.underlying35 hiN hzN0 hzN1 hzN2 rfl (by decide) nv N.length (nodeCells N) rfl HROW.out ⟨wo.heap.size, 0, none⟩ 1 1 [.int .i64 (-1), .int .i64 0] rfl rfl (news2 _ _ _ _) (two_cell _ _) (by omega) (by unfold maxLen; omega) (by omega) (by simp; omega) _ rfl ?_)
          intro t2 c2 w3 hown hgrow hat _
          have HE1 := Lib.hid (HW.out.addN hown hgrow (hat.imp id (fun e => by omega)))
          have hlt := HLT.out
          obtain ⟨b, off, hba, hlb, e1⟩ := ints_cell (HI.out.on HE1.out.bel).i.ints hlt
          obtain ⟨-, x1, -, -⟩ := KC.out w3 HE1.out.bel
          obtain ⟨y, hy⟩ : ∃ y, y = (D.ins.getD k 0) := ⟨_, rfl⟩
          have hyo : y ∈ ownedL D := by rw [hy]; exact ins_mem hlt
          obtain ⟨y1, -, y3⟩ := HG.out.own y hyo
          have HST := Lib.hid (ins_step D hlt)
          rw [← hy] at e1 HST
          obtain ⟨Y, rfl⟩ : ∃ Y : Nat, y = (Y : Int) := ⟨y.toNat, (Int.toNat_of_nonneg (by omega)).symm⟩
          obtain ⟨j, hj⟩ : ∃ j : Nat, j = ((Y : Int) / 2).toNat := ⟨_, rfl⟩
          have hjq : j < q := by rw [hj, HQ.out]; rw [HM.out] at y3; omega
          obtain ⟨z1, z2⟩ := HE1.out.cellA HAA.out hjq
          have HN2 : Hid (insS D (k + 1) = (N ++ [(-1, 0)], A.set j (2 * ((N.length : Int) + 1)))) := Lib.hid (by rw [HST.out, HS.out, hj]; rfl)
          have g1 : ((Y : Int) / 2).toNat = j := hj.symm
          have g2 : 0 ≤ (Y : Int) / 2 := by omega
          have g5 : (Y : Int) ≤ 33554432 := by rw [HM.out] at y3; omega
          have g3 : (Y : Int) / 2 < (q : Int) := by omega
          have g4 : IntKind.i64.wrap (2 * ((N.length : Int) + 1)) = 2 * ((N.length : Int) + 1) := IntWalk.i64_in _ (by omega)
          rw [hba] at x1
          have HPUT := Lib.hid (HE1.out.put j (2 * ((N.length : Int) + 1)))
          clear hown hgrow hat hlt hy hyo hj HST hba y1 y3
          go_wp2_with fail
          go_roundw
          case rel => exact ⟨k + 1, .slice (some ⟨t2, 0, none⟩) (N.length + 1) c2, N ++ [(-1, 0)], A.set j (2 * ((N.length : Int) + 1)), by omega, by go_num, rfl, by rw [List.length_append, List.length_singleton, HNN.out], by rw [List.length_set, HAA.out], HN2, HPUT⟩
          case measure => simp [intOf]; omega
        · have d1 : decide ((k : Int) < (ni : Int)) = false := by simp; omega
          have d2 : decide (k < ni) = false := by simp; omega
          obtain rfl : ni = k := by omega
          have HE : Hid (NT v nv (.slice (some ⟨ga, 0, none⟩) q ac) (latS D 0) wo) := Lib.hid (by
            have h := HW.out
            rw [← HS.out] at h
            rw [show latS D 0 = insS D ni by unfold latS; rw [← HNI.out]; rfl]
            exact h)
          clear HW HS hN hA hlt0 hk
          go_wp2_with fail
          go_loopw [4, 8] (fun nn i wr => ∃ (k : Nat) (nv : Value) (N : List (Int × Int)) (A : List Int), k ≤ nl ∧ i = .int .i64 k ∧ nn = nv ∧ N.length = ni + k ∧ A.length = q ∧ Hid (latS D k = (N, A)) ∧ Hid (NT v nv (.slice (some ⟨ga, 0, none⟩) q ac) (N, A) wr)) (fun _ i _ => nl - (intOf i).toNat)
          case atStart => exact ⟨0, _, _, _, Nat.zero_le _, rfl, rfl, by show (latS D 0).1.length = ni + 0; rw [(lat_all HG.out 0 (Nat.zero_le _)).2.1, HNI.out], by show (latS D 0).2.length = q; rw [(lat_all HG.out 0 (Nat.zero_le _)).1.len, HMN.out, HQ.out], Lib.hid rfl, HE⟩
          case round =>
            clear HE
            obtain ⟨k, nv, N, A, hk, rfl, hnv, hN, hA, HS, HW⟩ := hrel
            obtain rfl : nv = _ := hnv.symm
            obtain ⟨wo, rfl⟩ : ∃ wo : World, wo = wr := ⟨_, rfl⟩
            obtain ⟨-, -, x1, -⟩ := KC.out wo HW.out.bel
            have hsz := HW.out.bel.size
            by_cases hlt0 : k < nl
            · have d1 : (k : Int) < (nl : Int) := by omega
              have d2 : 0 ≤ (k : Int) := by omega
              have hlt : k < D.lats.length := by rw [← HNL.out]; exact hlt0
              have HROW := Lib.hid (own_on HW.out.rn ((Below.refl _ wo).alloc (Nat.le_refl _) (.cells #[.int .i64 (-1), .int .i64 0] 42)))
              have HLT := Lib.hid hlt
              have HNN := Lib.hid hN
              have HAA := Lib.hid hA
              have hNb : N.length ≤ 3000 := by omega
              clear hlt hN hA
              go_wp2_with (at_builtin; refine wpList_append_lies _ rfl (.tmp 52) (.tmp 54) 35 rfl v.heap.size 42 iN _ 2 16 Try.underlying35 hiN hzN0 hzN1 hzN2 rfl (by decide) nv N.length (nodeCells N) rfl HROW.out ⟨wo.heap.size, 0, none⟩ 1 1 [.int .i64 (-1), .int .i64 0] rfl rfl (news2 _ _ _ _) (two_cell _ _) (by omega) (by unfold maxLen; omega) (by omega) (by simp; omega) _ rfl ?_)
              intro t2 c2 w3 hown hgrow hat _
              have HE1 := Lib.hid (HW.out.addN hown hgrow (hat.imp id (fun e => by omega)))
              have hlt := HLT.out
              obtain ⟨b, off, hba, hlb, e1, -, -⟩ := Rw.at3 (HI.out.on HE1.out.bel).l hlt
              obtain ⟨-, -, x1, -⟩ := KC.out w3 HE1.out.bel
              obtain ⟨y, hy⟩ : ∃ y, y = (D.lats.getD k (0, 0, 0)).1 := ⟨_, rfl⟩
              have hyo : y ∈ ownedL D := by rw [hy]; exact lat_mem hlt
              obtain ⟨y1, -, y3⟩ := HG.out.own y hyo
              have HST := Lib.hid (lat_step D hlt)
              rw [← hy] at e1 HST
              obtain ⟨Y, rfl⟩ : ∃ Y : Nat, y = (Y : Int) := ⟨y.toNat, (Int.toNat_of_nonneg (by omega)).symm⟩
              obtain ⟨j, hj⟩ : ∃ j : Nat, j = ((Y : Int) / 2).toNat := ⟨_, rfl⟩
              have hjq : j < q := by rw [hj, HQ.out]; rw [HM.out] at y3; omega
              obtain ⟨z1, z2⟩ := HE1.out.cellA HAA.out hjq
              have HN2 : Hid (latS D (k + 1) = (N ++ [(-1, 0)], A.set j (2 * ((N.length : Int) + 1)))) := Lib.hid (by rw [HST.out, HS.out, hj]; rfl)
              have g1 : ((Y : Int) / 2).toNat = j := hj.symm
              have g2 : 0 ≤ (Y : Int) / 2 := by omega
              have g5 : (Y : Int) ≤ 33554432 := by rw [HM.out] at y3; omega
              have g3 : (Y : Int) / 2 < (q : Int) := by omega
              have g4 : IntKind.i64.wrap (2 * ((N.length : Int) + 1)) = 2 * ((N.length : Int) + 1) := IntWalk.i64_in _ (by omega)
              rw [hba] at x1
              have HPUT := Lib.hid (HE1.out.put j (2 * ((N.length : Int) + 1)))
              clear hown hgrow hat hlt hy hyo hj HST hba y1 y3
              go_wp2_with fail
              go_roundw
              case rel => exact ⟨k + 1, .slice (some ⟨t2, 0, none⟩) (N.length + 1) c2, N ++ [(-1, 0)], A.set j (2 * ((N.length : Int) + 1)), by omega, by go_num, rfl, by rw [List.length_append, List.length_singleton, HNN.out]; omega, by rw [List.length_set, HAA.out], HN2, HPUT⟩
              case measure => simp [intOf]; omega
            · have d1 : decide ((k : Int) < (D.lats.length : Int)) = false := by rw [← HNL.out]; simp; omega
              have d2 : decide (k < D.lats.length) = false := by rw [← HNL.out]; simp; omega
              rw [HNL.out] at x1
              obtain rfl : nl = k := by omega
              have HE : Hid (NT v nv (.slice (some ⟨ga, 0, none⟩) q ac) (ordS D 0) wo) := Lib.hid (by
                have h := HW.out
                rw [← HS.out] at h
                rw [show ordS D 0 = latS D nl by unfold ordS; rw [← HNL.out]; rfl]
                exact h)
              have hxo := HX.out.on HE.out.bel
              have c0 := (hxo.cell 0).1
              have c1 := (hxo.cell 1).1
              have c3 := (hxo.cell 3).1
              have c4 := (hxo.cell 4).1
              have c5 := (hxo.cell 5).1
              have c6 := (hxo.cell 6).1
              have c7 := (hxo.cell 7).1
              have c8 := (hxo.cell 8).1
              simp at c0 c1 c3 c4 c5 c6 c7 c8
              clear HW HS hN hA hlt0 hk hxo
              go_wp2_with fail
              go_at_call 16; refine (refOrder_any D F P _ (HI.out.on HE.out.bel) HL.out.g (lits_of HG.out)).mono ?_; rintro e w4 ⟨ov, rfl, ro, bo⟩
              obtain ⟨m, hm⟩ : ∃ m, m = (orderL D.gates).length := ⟨_, rfl⟩
              have HMO := Lib.hid hm
              have hm1 : m ≤ 1000 := by rw [hm, HG.out.full]; exact HL.out.g
              have h4 : Hid (NT4 v nv (.slice (some ⟨ga, 0, none⟩) q ac) (ordS D 0) wo.heap.size ov (orderL D.gates) w4) := Lib.hid ⟨HE.out.on bo, ro, (fun g e e2 => by have a := (ro.lt g e).1; have b := (HE.out.rn.lt g e2).2; omega), (fun g e e2 => by have a := (ro.lt g e).1; have b := (HE.out.ra.lt g e2).2; omega)⟩
              obtain ⟨T, hT⟩ : ∃ T, T = wo.heap.size := ⟨_, rfl⟩
              rw [← hT] at h4
              have hs0 : ∃ N A, ordS D 0 = (N, A) ∧ N.length = ni + nl ∧ A.length = q := by
                have h := ord_all HG.out 0 (Nat.zero_le _)
                exact ⟨(ordS D 0).1, (ordS D 0).2, rfl, by rw [h.len, HNI.out, HNL.out]; rfl, by rw [h.net.len, HMN.out, HQ.out]⟩
              obtain ⟨N0, A0, HS0, hN0, hA0⟩ := hs0
              have HS0 := Lib.hid HS0
              rw [HS0.out] at h4
              obtain ⟨oa, oc, rfl⟩ := owns_form ro
              rw [← hm] at h4 ⊢
              clear HE ro bo c0 c1 c3 c4 c5 c6 c7 c8 hm hT
              go_wp2_with fail
              go_loopw [4, 10] (fun nn i wr => ∃ (k : Nat) (nv : Value) (N : List (Int × Int)) (A : List Int), k ≤ m ∧ i = .int .i64 k ∧ nn = nv ∧ N.length = ni + nl + k ∧ A.length = q ∧ Hid (ordS D k = (N, A)) ∧ Hid (NT4 v nv (.slice (some ⟨ga, 0, none⟩) q ac) (N, A) T (.slice oa m oc) (orderL D.gates) wr)) (fun _ i _ => m - (intOf i).toNat)
              case atStart => exact ⟨0, _, N0, A0, Nat.zero_le _, rfl, rfl, hN0, hA0, HS0, h4⟩
              case round =>
                clear h4 HS0 hN0 hA0
                obtain ⟨k, nv, N, A, hk, rfl, hnv, hN, hA, HS, HW⟩ := hrel
                obtain rfl : nv = _ := hnv.symm
                obtain ⟨wo, rfl⟩ : ∃ wo : World, wo = wr := ⟨_, rfl⟩
                have hbel := HW.out.nt.bel
                obtain ⟨-, -, -, x6⟩ := KC.out wo hbel
                have hsz := hbel.size
                by_cases hlt0 : k < m
                · have d1 : (k : Int) < (m : Int) := by omega
                  have d2 : 0 ≤ (k : Int) := by omega
                  have hlt : k < (orderL D.gates).length := by rw [← HMO.out]; exact hlt0
                  have HO := ord_all HG.out k (by omega)
                  obtain ⟨i, hi1, hi2, hi3, hi4⟩ := ord_known HG.out hlt HO
                  have HNB := Lib.hid HO.net.bd
                  have HST := Lib.hid (ordS_step D hlt)
                  rw [hi1, Int.toNat_natCast] at HST
                  obtain ⟨b, off, hba, hlb, e0, e1, e2⟩ := Rw.at3 (HI.out.on hbel).g hi2
                  obtain ⟨gn, hgn⟩ : ∃ n, n = D.gates.length := ⟨_, rfl⟩
                  have d3 : (i : Int) < (gn : Int) := by omega
                  have d4 : 0 ≤ (i : Int) := by omega
                  obtain ⟨ob, ooff, rfl, hob, eo⟩ := ints_cell HW.out.ord hlt0
                  rw [hi1] at eo
                  rw [hba, ← hgn] at x6
                  obtain ⟨g, hg⟩ : ∃ g, g = D.gates.getD i (0, 0, 0) := ⟨_, rfl⟩
                  rw [← hg] at e0 e1 e2 hi3 hi4 HST
                  obtain ⟨gl, ga1, gb1⟩ := g
                  obtain ⟨pa1, pa2⟩ := hi4 ga1 (.inl rfl)
                  obtain ⟨pb1, pb2⟩ := hi4 gb1 (.inr rfl)
                  simp only at e0 e1 e2 hi3
                  have HNN := Lib.hid hN
                  have HAA := Lib.hid hA
                  have hNb : N.length ≤ 3000 := by omega
                  have hal : Below wo.heap.size wo (wo.alloc (.cells #[.int .i64 0, .int .i64 0, .int .i64 0] 47)) := (Below.refl _ _).alloc (Nat.le_refl _) _
                  have eo' := (hal.cell (p := ⟨ob, ooff + k, none⟩) hob).trans eo
                  have e0' := (hal.cell (p := ⟨b, off + i * 3, none⟩) hlb).trans e0
                  have e1' := (hal.cell (p := ⟨b, off + i * 3 + 1, none⟩) hlb).trans e1
                  have e2' := (hal.cell (p := ⟨b, off + i * 3 + 2, none⟩) hlb).trans e2
                  obtain ⟨-, -, -, x6'⟩ := KC.out _ (hbel.trans (hal.mono hsz))
                  rw [hba, ← hgn] at x6'
                  clear hi1 hi2 hi4 hba hlb hob hg hN hA hlt HO hgn hal
                  go_upto_region 20 with fail
                  go_cut [11] (fun s11 wx => ∃ X, s11 = .pointer (some ⟨X, 0, none⟩) ∧ Hid (Blk wx X #[.int .i64 gl, .int .i64 ga1, .int .i64 gb1] ∧ Below wo.heap.size wo wx ∧ wo.heap.size ≤ X))
                  case first =>
                    go_region
                    all_goals
                      go_wp2_with fail
                      go_meet
                      exact ⟨_, rfl, Lib.hid ⟨blk_new _ _ _, ((Below.refl _ _).alloc (Nat.le_refl _) _).drew, Nat.le_refl _⟩⟩
                  case rest =>
                    clear eo eo' e0 e0' e1 e1' e2 e2' x6 x6'
                    obtain ⟨X, rfl, hcut⟩ := hcut
                    obtain ⟨wx, rfl⟩ : ∃ wx : World, wx = wc := ⟨_, rfl⟩
                    obtain ⟨hxg, hbx, hxo⟩ := hcut.out
                    have HXG := Lib.hid hxg
                    have HW1 := Lib.hid (HW.out.on hbx)
                    have HXN : Hid (nv.ownBlock ≠ some X) := Lib.hid (fun e => by have := (HW.out.nt.rn.lt X e).2; omega)
                    have KG : Hid (∀ u, Below wx.heap.size wx u → u.cell? ⟨X, 1, none⟩ = some (.int .i64 ga1) ∧ u.cell? ⟨X, 2, none⟩ = some (.int .i64 gb1)) := Lib.hid (fun u hu => ⟨((HXG.out.on hu).cell 1).1, ((HXG.out.on hu).cell 2).1⟩)
                    have HIA : Hid (∀ u, Below wx.heap.size wx u → Ints u (.slice (some ⟨ga, 0, none⟩) q ac) A) := Lib.hid (fun u hu => (HW1.out.on hu).nt.ints)
                    have LB : Hid (∀ x : Int, 0 ≤ x ∧ x ≤ 2 * D.max + 1 → 0 ≤ atV (ordS D k).2 x → (0 ≤ x ∧ x ≤ 33554433) ∧ (x / 2).toNat < A.length ∧ 0 ≤ A.getD (x / 2).toNat 0 ∧ A.getD (x / 2).toNat 0 ≤ 33554433) := Lib.hid (fun x h1 h2 => by
                      have h3 := (HNB.out (x / 2).toNat).2.1
                      rw [HS.out] at h2 h3
                      have h5 : 0 ≤ A.getD (x / 2).toNat 0 := h2
                      have h6 : A.getD (x / 2).toNat 0 ≤ 2 * (N.length : Int) := h3
                      rw [HM.out] at h1
                      refine ⟨by omega, ?_, h5, by omega⟩
                      rw [HAA.out, HQ.out]; omega)
                    have LA := Lib.hid (LB.out ga1 pa1 pa2)
                    have LBB := Lib.hid (LB.out gb1 pb1 pb2)
                    have hgl : 0 ≤ gl ∧ gl ≤ 33554432 := by have := hi3.2; rw [HM.out] at this; omega
                    obtain ⟨Y, rfl⟩ : ∃ Y : Nat, gl = (Y : Int) := ⟨gl.toNat, (Int.toNat_of_nonneg hgl.1).symm⟩
                    obtain ⟨j, hj⟩ : ∃ j : Nat, j = ((Y : Int) / 2).toNat := ⟨_, rfl⟩
                    have hjq : j < q := by have := hi3.2; rw [HM.out] at this; rw [hj, HQ.out]; omega
                    have HJQ := Lib.hid hjq
                    have HCA : Hid (∀ u, Below wx.heap.size wx u → Calls Try.prog 30 #[.slice (some ⟨ga, 0, none⟩) q ac, .int .i64 ga1] u (SaysI (litP A ga1) u)) := Lib.hid (fun u hu => refLitP_any _ A ga1 u (HIA.out u hu) LA.out.1 LA.out.2.1 LA.out.2.2)
                    have HCB : Hid (∀ u, Below wx.heap.size wx u → Calls Try.prog 30 #[.slice (some ⟨ga, 0, none⟩) q ac, .int .i64 gb1] u (SaysI (litP A gb1) u)) := Lib.hid (fun u hu => refLitP_any _ A gb1 u (HIA.out u hu) LBB.out.1 LBB.out.2.1 LBB.out.2.2)
                    obtain ⟨ra, hra⟩ : ∃ r, r = litP A ga1 := ⟨_, rfl⟩
                    obtain ⟨rb, hrb⟩ : ∃ r, r = litP A gb1 := ⟨_, rfl⟩
                    rw [← hra] at HCA
                    rw [← hrb] at HCB
                    have HN2 : Hid (ordS D (k + 1) = (N ++ [(ra, rb)], A.set j (2 * ((N.length : Int) + 1)))) := Lib.hid (by rw [HST.out, HS.out, hra, hrb, hj]; rfl)
                    have hd1 : Below wx.heap.size wx (wx.drewN 1) := below_drewN (Below.refl _ _) 1
                    obtain ⟨k1, k2⟩ := KG.out _ hd1
                    have g1 : ((Y : Int) / 2).toNat = j := hj.symm
                    have g2 : 0 ≤ (Y : Int) / 2 := by omega
                    have g3 : (Y : Int) / 2 < (q : Int) := by omega
                    have g4 : IntKind.i64.wrap (2 * ((N.length : Int) + 1)) = 2 * ((N.length : Int) + 1) := IntWalk.i64_in _ (by omega)
                    have g5 : (Y : Int) ≤ 33554432 := hgl.2
                    have hsz1 := HW1.out.nt.bel.size
                    clear hra hrb hj hgl pa1 pa2 pb1 pb2 hi3 hxg hbx hxo hcut LB hjq
                    go_upto_region 21 with fail
                    go_region_held3 (fun w' => w'.cell? ⟨X, 1, none⟩ = some (.int .i64 ga1) ∧ w'.cell? ⟨X, 2, none⟩ = some (.int .i64 gb1))
                      (first | (exact ⟨(hbk.cell 1).1, (hbk.cell 2).1⟩) | (exact KG.out _ hb3) | (exact KG.out _ hb2) | (exact KG.out _ hd1) | go_keep)
                      (first | (refine step_append_lies _ rfl (.tmp 84) (.tmp 94) 35 rfl v.heap.size 42 iN _ 2 16 Try.underlying35 hiN hzN0 hzN1 hzN2 rfl (by decide) nv N.length (nodeCells N) rfl (own_on (HW1.out.on hb3).nt.rn ((Below.refl _ _).alloc (Nat.le_refl _) _)) ⟨w3.heap.size, 0, none⟩ 1 1 [.int .i64 ra, .int .i64 rb] rfl rfl (news2 _ _ _ _) (two_cell _ _) (by omega) (by unfold maxLen; omega) (by omega) (by simp; omega) _ rfl ?_; intro t2 c2 w5 hown hgrow hat hlt5; have hbe := (HW1.out.on hb3).addN hown hgrow (hat_le hat); have hbk := (HXG.out.on hb3).grown hgrow HXN.out) | (go_at_call 30; refine (HCB.out _ hb2).mono ?_; rintro e w3 ⟨rfl, b3⟩; have hb3 := hb2.trans (b3.mono hb2.size); have hsz3 := hb3.size) | (go_at_call 30; refine (HCA.out _ hd1).mono ?_; rintro e w2 ⟨rfl, b2⟩; have hb2 := hd1.trans (b2.mono hd1.size)))
                    have HE1 := Lib.hid hbe
                    have k0 := (hbk.cell 0).1
                    simp at k0
                    obtain ⟨z1, z2⟩ := HE1.out.nt.cellA HAA.out HJQ.out
                    have HPUT := Lib.hid (HE1.out.put j (2 * ((N.length : Int) + 1)))
                    clear hown hgrow hat hbe hbk k1 k2 hb2 hb3 b2 b3 hd1
                    go_wp2_with fail
                    go_roundw
                    case rel => exact ⟨k + 1, .slice (some ⟨t2, 0, none⟩) (N.length + 1) c2, N ++ [(ra, rb)], A.set j (2 * ((N.length : Int) + 1)), by omega, by go_num, rfl, by rw [List.length_append, List.length_singleton, HNN.out]; omega, by rw [List.length_set, HAA.out], HN2, HPUT⟩
                    case measure => simp [intOf]; omega
                · have d1 : decide ((k : Int) < (m : Int)) = false := by simp; omega
                  have d2 : decide (k < m) = false := by simp; omega
                  obtain rfl : m = k := by omega
                  have HT : Hid (TellsN (netF D) w (.returned (.tuple #[nv, .slice (some ⟨ga, 0, none⟩) q ac])) wo) := Lib.hid (by
                    have h := HW.out.nt
                    rw [← HS.out] at h
                    unfold netF
                    rw [← HMO.out]
                    exact ⟨_, _, rfl, knds_own h.rn (fun _ e => e.elim), h.ints, HB.out.trans (h.bel.mono HB.out.size)⟩)
                  clear HW HS hN hA hlt0 hk
                  go_wp2_with fail
                  refine bodyPost_ret (v := .tuple #[nv, .slice (some ⟨ga, 0, none⟩) q ac]) (by simp [results, Try.results13, go_sem]) rfl ?_
                  exact HT.out
end Go.Proofs.Ytbpjflghkkkenaa.row
