/- Heaps, purely: how things rank, the order of a tree, and what a swap does to it. -/
import Derived.Test.YtpcpjpcejcgodaaFnF
namespace Go.Proofs.Ytpcpjpcejcgodaa.hpf
open Go.Proofs.Ytpcpjpcejcgodaa.fns

/-- every edge of the tree but those at p is in order, and so are p's children with what is above p -/
def Hole (m : Nat) (v : Nat → Nat) (p : Nat) : Prop :=
  (∀ i, 0 < i → i < m → i ≠ p → (i - 1) / 2 ≠ p → v ((i - 1) / 2) ≤ v i) ∧ (∀ i, 0 < i → i < m → (i - 1) / 2 = p → 0 < p → v ((p - 1) / 2) ≤ v i)
def Low (m : Nat) (v : Nat → Nat) (p : Nat) : Prop := ∀ i, 0 < i → i < m → (i - 1) / 2 = p → v p ≤ v i
def Up (v : Nat → Nat) (p : Nat) : Prop := 0 < p → v ((p - 1) / 2) ≤ v p
def Full (m : Nat) (v : Nat → Nat) : Prop := ∀ i, 0 < i → i < m → v ((i - 1) / 2) ≤ v i
/-- two places in each other's place -/
def sw (v : Nat → Nat) (a b : Nat) (i : Nat) : Nat := if i = a then v b else if i = b then v a else v i
theorem sw_l (v : Nat → Nat) (a b : Nat) : sw v a b a = v b := by unfold sw; rw [if_pos rfl]
theorem sw_r (v : Nat → Nat) (a b : Nat) : sw v a b b = v a := by
  unfold sw; by_cases h : b = a
  · rw [if_pos h, h]
  · rw [if_neg h, if_pos rfl]
theorem sw_o (v : Nat → Nat) {a b i : Nat} (h1 : i ≠ a) (h2 : i ≠ b) : sw v a b i = v i := by unfold sw; rw [if_neg h1, if_neg h2]

theorem full_of {m : Nat} {v : Nat → Nat} {p : Nat} (h1 : Hole m v p) (h2 : Low m v p) (h3 : Up v p) : Full m v := by
  intro i h0 hm
  by_cases e : i = p
  · subst e; exact h3 h0
  · by_cases e2 : (i - 1) / 2 = p
    · rw [e2]; exact h2 i h0 hm e2
    · exact h1.1 i h0 hm e e2
theorem hole_of {m : Nat} {v v' : Nat → Nat} {p : Nat} (hp : p < m) (h : Full m v) (he : ∀ i, i ≠ p → v' i = v i) : Hole m v' p := by
  refine ⟨fun i h0 hm e e2 => ?_, fun i h0 hm e hp0 => ?_⟩
  · rw [he i e, he _ e2]; exact h i h0 hm
  · rw [he i (by omega), he _ (by omega)]
    have a := h i h0 hm
    have b := h p hp0 hp
    rw [e] at a
    omega
theorem full_more {m : Nat} {v : Nat → Nat} (h : Full m v) : Hole (m + 1) v m ∧ Low (m + 1) v m :=
  ⟨⟨fun i h0 hm e _ => h i h0 (by omega), fun i h0 hm e hp => by omega⟩, fun i h0 hm e => by omega⟩
theorem full_one {m : Nat} (v : Nat → Nat) (h : m ≤ 1) : Full m v := fun i h0 hm => by omega
theorem full_min {m : Nat} {v : Nat → Nat} (h : Full m v) : ∀ k i, i ≤ k → i < m → v 0 ≤ v i := by
  intro k
  induction k with
  | zero => intro i hi _; rw [show i = 0 by omega]; exact Nat.le_refl _
  | succ k ih =>
    intro i hi hm
    by_cases e : i = 0
    · subst e; exact Nat.le_refl _
    · have a := ih ((i - 1) / 2) (by omega) (by omega)
      have b := h i (by omega) hm
      omega
theorem rise_step {m : Nat} {v : Nat → Nat} {p : Nat} (h0 : 0 < p) (hp : p < m) (hl : v p < v ((p - 1) / 2)) (h : Hole m v p) :
    Hole m (sw v p ((p - 1) / 2)) ((p - 1) / 2) ∧ Low m (sw v p ((p - 1) / 2)) ((p - 1) / 2) := by
  obtain ⟨q, hq⟩ : ∃ q, q = (p - 1) / 2 := ⟨_, rfl⟩
  rw [← hq] at hl ⊢
  obtain ⟨h1, h2⟩ := h
  refine ⟨⟨fun i i0 hm e e2 => ?_, fun i i0 hm e q0 => ?_⟩, fun i i0 hm e => ?_⟩
  · have n1 : i ≠ p := by intro x; subst x; omega
    rw [sw_o v n1 e]
    by_cases x : (i - 1) / 2 = p
    · rw [x, sw_l]
      have := h2 i i0 hm x h0
      rw [← hq] at this
      exact this
    · rw [sw_o v x e2]; exact h1 i i0 hm n1 x
  · have n1 : (q - 1) / 2 ≠ p := by omega
    have n2 : (q - 1) / 2 ≠ q := by omega
    have a := h1 q q0 (by omega) (by omega) n1
    rw [sw_o v n1 n2]
    by_cases x : i = p
    · subst x; rw [sw_l]; exact a
    · have b := h1 i i0 hm x (by omega)
      rw [sw_o v x (by omega)]
      rw [e] at b
      omega
  · rw [sw_r]
    by_cases x : i = p
    · subst x; rw [sw_l]; omega
    · have b := h1 i i0 hm x (by omega)
      rw [sw_o v x (by omega)]
      rw [e] at b
      omega
theorem sink_step {m : Nat} {v : Nat → Nat} {p f : Nat} (f0 : 0 < f) (fm : f < m) (fp : (f - 1) / 2 = p) (hl : v f < v p)
    (hm : ∀ i, 0 < i → i < m → (i - 1) / 2 = p → v f ≤ v i) (h : Hole m v p) (hu : Up v p) : Hole m (sw v p f) f ∧ Up (sw v p f) f := by
  obtain ⟨h1, h2⟩ := h
  have np : p ≠ f := by omega
  refine ⟨⟨fun i i0 im e e2 => ?_, fun i i0 im e _ => ?_⟩, fun _ => ?_⟩
  · by_cases x : i = p
    · subst x
      rw [sw_l, sw_o v (by omega) (by omega)]
      exact h2 f f0 fm fp i0
    · by_cases y : (i - 1) / 2 = p
      · rw [y, sw_l, sw_o v x e]; exact hm i i0 im y
      · rw [sw_o v x e, sw_o v y e2]; exact h1 i i0 im x y
  · rw [fp, sw_l, sw_o v (by omega) (by omega)]
    have := h1 i i0 im (by omega) (by omega)
    rw [e] at this
    exact this
  · rw [fp, sw_l, sw_r]; omega
theorem low_of {m : Nat} {v : Nat → Nat} {p : Nat} (hm : ∀ i, 2 * p + 1 ≤ i → i < 2 * p + 3 → i < m → v p ≤ v i) : Low m v p :=
  fun i i0 im e => hm i (by omega) (by omega) im
theorem hole_cong {m : Nat} {v v' : Nat → Nat} {p : Nat} (h : ∀ i, i < m → v' i = v i) (hp : p < m) (hh : Hole m v p) : Hole m v' p :=
  ⟨fun i i0 im e e2 => by rw [h i im, h _ (by omega)]; exact hh.1 i i0 im e e2, fun i i0 im e p0 => by rw [h i im, h _ (by omega)]; exact hh.2 i i0 im e p0⟩
theorem low_cong {m : Nat} {v v' : Nat → Nat} {p : Nat} (h : ∀ i, i < m → v' i = v i) (hp : p < m) (hh : Low m v p) : Low m v' p :=
  fun i i0 im e => by rw [h i im, h _ hp]; exact hh i i0 im e
theorem up_cong {m : Nat} {v v' : Nat → Nat} {p : Nat} (h : ∀ i, i < m → v' i = v i) (hp : p < m) (hh : Up v p) : Up v' p :=
  fun p0 => by rw [h p hp, h _ (by omega)]; exact hh p0
theorem full_cong {m : Nat} {v v' : Nat → Nat} (h : ∀ i, i < m → v' i = v i) (hh : Full m v) : Full m v' :=
  fun i i0 im => by rw [h i im, h _ (by omega)]; exact hh i i0 im

/-- things, the less the nearer to the front -/
def rank (S : List Nat) (x : Nat) : Nat := (18446744073709551616 - key (S.getD x 0)) * 2097152 + x
def AllW (S : List Nat) : Prop := ∀ i, W64 (S.getD i 0)
theorem key_lt {b : Nat} (h : W64 b) : key b < 18446744073709551616 := by
  unfold W64 at h
  unfold key
  split
  · omega
  · split
    · omega
    · split <;> omega
/-- which one stands ahead -/
def ah (S : List Nat) (a b : Nat) : Bool := decide (rank S a < rank S b)
theorem ah_gt {S : List Nat} {a b : Nat} (hS : AllW S) (ha : a < 2097152) (h : decide (key (S.getD b 0) < key (S.getD a 0)) = true) : ah S a b = true := by
  have h1 := key_lt (hS a); have h2 := key_lt (hS b)
  have h := of_decide_eq_true h
  exact decide_eq_true (by unfold rank; omega)
theorem ah_lt {S : List Nat} {a b : Nat} (hS : AllW S) (hb : b < 2097152) (h : decide (key (S.getD a 0) < key (S.getD b 0)) = true) : ah S a b = false := by
  have h1 := key_lt (hS a); have h2 := key_lt (hS b)
  have h := of_decide_eq_true h
  exact decide_eq_false (by unfold rank; omega)
theorem ah_eq {S : List Nat} {a b : Nat} (h1 : decide (key (S.getD b 0) < key (S.getD a 0)) = false) (h2 : decide (key (S.getD a 0) < key (S.getD b 0)) = false) : ah S a b = decide (a < b) := by
  have h1 := of_decide_eq_false h1
  have h2 := of_decide_eq_false h2
  have e : key (S.getD a 0) = key (S.getD b 0) := by omega
  unfold ah rank
  rw [e]
  exact decide_eq_decide.2 (by omega)
theorem ah_yes {S : List Nat} {a b : Nat} (h : ah S a b = true) : rank S a < rank S b := by unfold ah at h; simpa using h
theorem ah_no {S : List Nat} {a b : Nat} (h : ah S a b = false) : rank S b ≤ rank S a := by unfold ah at h; simpa using h
theorem ah_irr (S : List Nat) (a : Nat) : ah S a a = false := by unfold ah; simp
theorem ah_asym {S : List Nat} {a b : Nat} (h : ah S a b = true) : ah S b a = false := by unfold ah at *; simp at *; omega
/-- what is not ahead has no greater score, and of the same score no less number -/
theorem rank_less {S : List Nat} {a b : Nat} (hS : AllW S) (hb : b < 2097152) (h : rank S a ≤ rank S b) : decide (key (S.getD a 0) < key (S.getD b 0)) = false := by
  have h1 := key_lt (hS a); have h2 := key_lt (hS b)
  unfold rank at h
  exact decide_eq_false (by omega)
theorem rank_same {S : List Nat} {a b : Nat} (hS : AllW S) (h : rank S a ≤ rank S b) (he : decide (key (S.getD b 0) < key (S.getD a 0)) = false) : a ≤ b := by
  have h1 := key_lt (hS a); have h2 := key_lt (hS b)
  unfold rank at h
  have he := of_decide_eq_false he
  omega

theorem getD_set {l : List Nat} {i : Nat} (h : i < l.length) (x j : Nat) : (l.set i x).getD j 0 = if j = i then x else l.getD j 0 := by
  simp only [List.getD, List.getElem?_set]
  by_cases e : i = j
  · subst e; simp [h]
  · rw [if_neg e, if_neg (fun x => e x.symm)]
theorem allW_set {S : List Nat} {i x : Nat} (h : AllW S) (hx : W64 x) : AllW (S.set i x) := by
  intro j
  by_cases hi : i < S.length
  · rw [getD_set hi]; split
    · exact hx
    · exact h j
  · rw [List.set_eq_of_length_le (by omega)]; exact h j
theorem rank_set {S : List Nat} {i x y : Nat} (h : y ≠ i) : rank (S.set i x) y = rank S y := by
  unfold rank
  by_cases hi : i < S.length
  · rw [getD_set hi, if_neg h]
  · rw [List.set_eq_of_length_le (by omega)]

/-- places i and k in each other's place -/
def swT (T : List Nat) (i k : Nat) : List Nat := (T.set i (T.getD k 0)).set k (T.getD i 0)
def swP (P T : List Nat) (i k : Nat) : List Nat := (P.set ((swT T i k).getD i 0) (i + 1)).set ((swT T i k).getD k 0) (k + 1)
theorem swT_len (T : List Nat) (i k : Nat) : (swT T i k).length = T.length := by simp [swT]
theorem swP_len (P T : List Nat) (i k : Nat) : (swP P T i k).length = P.length := by simp [swP]
theorem swT_at {T : List Nat} {i k : Nat} (hi : i < T.length) (hk : k < T.length) (j : Nat) : (swT T i k).getD j 0 = sw (fun j => T.getD j 0) i k j := by
  unfold swT sw
  rw [getD_set (by rw [List.length_set]; exact hk), getD_set hi]
  by_cases h1 : j = k
  · subst h1
    rw [if_pos rfl]
    by_cases h2 : j = i
    · subst h2; rw [if_pos rfl]
    · rw [if_neg h2, if_pos rfl]
  · rw [if_neg h1]
    by_cases h2 : j = i
    · rw [if_pos h2, if_pos h2]
    · rw [if_neg h2, if_neg h2, if_neg h1]
theorem swT_l {T : List Nat} {i k : Nat} (hi : i < T.length) (hk : k < T.length) : (swT T i k).getD i 0 = T.getD k 0 := by rw [swT_at hi hk, sw_l]
theorem swT_r {T : List Nat} {i k : Nat} (hi : i < T.length) (hk : k < T.length) : (swT T i k).getD k 0 = T.getD i 0 := by rw [swT_at hi hk, sw_r]
/-- how the things of a tree rank, by their places -/
def vs (S T : List Nat) (i : Nat) : Nat := rank S (T.getD i 0)
theorem vs_sw (S : List Nat) {T : List Nat} {i k : Nat} (hi : i < T.length) (hk : k < T.length) (j : Nat) : vs S (swT T i k) j = sw (vs S T) i k j := by
  unfold vs
  rw [swT_at hi hk]
  unfold sw
  split
  · rfl
  · split <;> rfl

/-- each thing of the tree is one, and its place is told; no other one's is -/
structure Wf (n : Nat) (P T : List Nat) : Prop where
  len : P.length = n
  at_ : ∀ i, i < T.length → T.getD i 0 < n ∧ P.getD (T.getD i 0) 0 = i + 1
  back : ∀ x, x < n → P.getD x 0 ≠ 0 → P.getD x 0 ≤ T.length ∧ T.getD (P.getD x 0 - 1) 0 = x
/-- the same things are in it -/
def Same (P P' : List Nat) : Prop := ∀ x, P'.getD x 0 = 0 ↔ P.getD x 0 = 0
theorem Same.refl (P : List Nat) : Same P P := fun _ => Iff.rfl
theorem Same.trans {P P' P'' : List Nat} (h : Same P P') (k : Same P' P'') : Same P P'' := fun x => (k x).trans (h x)
theorem Wf.inj {n : Nat} {P T : List Nat} (h : Wf n P T) {i k : Nat} (hi : i < T.length) (hk : k < T.length) (e : T.getD i 0 = T.getD k 0) : i = k := by
  have a := (h.at_ i hi).2; have b := (h.at_ k hk).2
  rw [e] at a
  omega
theorem swP_at {n : Nat} {P T : List Nat} (h : Wf n P T) {i k : Nat} (hi : i < T.length) (hk : k < T.length) (x : Nat) :
    (swP P T i k).getD x 0 = if x = T.getD i 0 then k + 1 else if x = T.getD k 0 then i + 1 else P.getD x 0 := by
  unfold swP
  rw [swT_l hi hk, swT_r hi hk]
  have a := (h.at_ i hi).1; have b := (h.at_ k hk).1
  rw [getD_set (by rw [List.length_set, h.len]; exact a), getD_set (by rw [h.len]; exact b)]
theorem wf_sw {n : Nat} {P T : List Nat} (h : Wf n P T) {i k : Nat} (hi : i < T.length) (hk : k < T.length) : Wf n (swP P T i k) (swT T i k) ∧ Same P (swP P T i k) := by
  refine ⟨⟨by rw [swP_len]; exact h.len, fun j hj => ?_, fun x hx h0 => ?_⟩, fun x => ?_⟩
  · rw [swT_len] at hj
    rw [swP_at h hi hk, swT_at hi hk]
    unfold sw
    by_cases e1 : j = i
    · subst e1
      rw [if_pos rfl]
      refine ⟨(h.at_ k hk).1, ?_⟩
      by_cases e2 : T.getD k 0 = T.getD j 0
      · rw [if_pos e2]; have := h.inj hk hi e2; omega
      · rw [if_neg e2, if_pos rfl]
    · rw [if_neg e1]
      by_cases e2 : j = k
      · subst e2
        rw [if_pos rfl, if_pos rfl]
        exact ⟨(h.at_ i hi).1, rfl⟩
      · rw [if_neg e2]
        refine ⟨(h.at_ j hj).1, ?_⟩
        rw [if_neg (fun e => e1 (h.inj hj hi e)), if_neg (fun e => e2 (h.inj hj hk e))]
        exact (h.at_ j hj).2
  · rw [swP_at h hi hk] at h0 ⊢
    rw [swT_len]
    by_cases e1 : x = T.getD i 0
    · rw [if_pos e1]
      refine ⟨by omega, ?_⟩
      rw [Nat.add_sub_cancel, swT_r hi hk]
      exact e1.symm
    · rw [if_neg e1] at h0 ⊢
      by_cases e2 : x = T.getD k 0
      · rw [if_pos e2]
        refine ⟨by omega, ?_⟩
        rw [Nat.add_sub_cancel, swT_l hi hk]
        exact e2.symm
      · rw [if_neg e2] at h0 ⊢
        obtain ⟨a, b⟩ := h.back x hx h0
        refine ⟨a, ?_⟩
        rw [swT_at hi hk, sw_o]
        · exact b
        · intro e; rw [e] at b; exact e1 b.symm
        · intro e; rw [e] at b; exact e2 b.symm
  · rw [swP_at h hi hk]
    by_cases e1 : x = T.getD i 0
    · rw [if_pos e1, e1, (h.at_ i hi).2]; simp
    · rw [if_neg e1]
      by_cases e2 : x = T.getD k 0
      · rw [if_pos e2, e2, (h.at_ k hk).2]; simp
      · rw [if_neg e2]
theorem wf_push {n : Nat} {P T : List Nat} (h : Wf n P T) {x : Nat} (hx : x < n) (h0 : P.getD x 0 = 0) : Wf n (P.set x (T.length + 1)) (T ++ [x]) := by
  have gl : ∀ i, i < T.length → (T ++ [x]).getD i 0 = T.getD i 0 := fun i hi => by simp [List.getD, List.getElem?_append_left hi]
  have gr : (T ++ [x]).getD T.length 0 = x := by simp [List.getD]
  have hl : x < P.length := by rw [h.len]; exact hx
  refine ⟨by rw [List.length_set]; exact h.len, fun i hi => ?_, fun y hy h1 => ?_⟩
  · rw [List.length_append, List.length_singleton] at hi
    by_cases e : i = T.length
    · subst e
      rw [gr, getD_set hl, if_pos rfl]
      exact ⟨hx, rfl⟩
    · obtain ⟨a, b⟩ := h.at_ i (by omega)
      rw [gl i (by omega), getD_set hl, if_neg (by intro e2; rw [e2, h0] at b; omega)]
      exact ⟨a, b⟩
  · rw [getD_set hl] at h1 ⊢
    rw [List.length_append, List.length_singleton]
    by_cases e : y = x
    · rw [if_pos e, Nat.add_sub_cancel, gr]
      exact ⟨Nat.le_refl _, e.symm⟩
    · rw [if_neg e] at h1 ⊢
      obtain ⟨a, b⟩ := h.back y hy h1
      exact ⟨by omega, by rw [gl _ (by omega)]; exact b⟩
theorem wf_pop {n : Nat} {P T : List Nat} (h : Wf n P T) {e x : Nat} (he : e + 1 = T.length) (hx : T.getD e 0 = x) : Wf n (P.set x 0) (T.take e) := by
  have ha := h.at_ e (by omega)
  rw [hx] at ha
  have hl : x < P.length := by rw [h.len]; exact ha.1
  have gt : ∀ i, i < e → (T.take e).getD i 0 = T.getD i 0 := fun i hi => by simp [List.getD, hi]
  have tl : (T.take e).length = e := by rw [List.length_take]; omega
  refine ⟨by rw [List.length_set]; exact h.len, fun i hi => ?_, fun y hy h1 => ?_⟩
  · rw [tl] at hi
    obtain ⟨a, b⟩ := h.at_ i (by omega)
    rw [gt i hi, getD_set hl, if_neg (by intro e2; rw [e2, ha.2] at b; omega)]
    exact ⟨a, b⟩
  · rw [getD_set hl] at h1 ⊢
    by_cases e1 : y = x
    · rw [if_pos e1] at h1; exact absurd rfl h1
    · rw [if_neg e1] at h1 ⊢
      obtain ⟨a, b⟩ := h.back y hy h1
      have e2 : P.getD y 0 ≠ T.length := by
        intro e2; rw [e2, show T.length - 1 = e by omega, hx] at b; exact e1 b.symm
      rw [tl]
      exact ⟨by omega, by rw [gt _ (by omega)]; exact b⟩
/-- what holds of a heap: its tree is in order, and each place is told -/
structure Hok (n : Nat) (S P T : List Nat) : Prop where
  wf : Wf n P T
  full : Full T.length (vs S T)
theorem Hok.min {n : Nat} {S P T : List Nat} (h : Hok n S P T) {x : Nat} (hx : x < n) (h0 : P.getD x 0 ≠ 0) : rank S (T.getD 0 0) ≤ rank S x := by
  obtain ⟨a, b⟩ := h.wf.back x hx h0
  have := full_min h.full (P.getD x 0 - 1) _ (Nat.le_refl _) (by omega)
  unfold vs at this
  rw [b] at this
  exact this
theorem Wf.le {n : Nat} {P T : List Nat} (h : Wf n P T) {x : Nat} (hx : x < n) : P.getD x 0 ≤ T.length := by
  by_cases h0 : P.getD x 0 = 0
  · omega
  · exact (h.back x hx h0).1
theorem wf_nil (n : Nat) : Wf n (List.replicate n 0) [] := by
  refine ⟨by simp, fun i hi => by simp at hi, fun x hx h0 => absurd ?_ h0⟩
  simp [List.getD, hx]
theorem hok_nil (n : Nat) (S : List Nat) : Hok n S (List.replicate n 0) [] := ⟨wf_nil n, full_one _ (by simp)⟩
/-- a thing on its way up, or down: it stands at q, and all that does not touch q is in order -/
structure OnWay (n : Nat) (S : List Nat) (id : Nat) (L : Prop) (P T : List Nat) (q : Nat) : Prop where
  wf : Wf n P T
  lt : q < T.length
  is : T.getD q 0 = id
  hole : Hole T.length (vs S T) q
  low : L → Low T.length (vs S T) q
theorem OnWay.place {n : Nat} {S P T : List Nat} {id q : Nat} {L : Prop} (h : OnWay n S id L P T q) : id < n ∧ P.getD id 0 = q + 1 := by
  have := h.wf.at_ q h.lt
  rw [h.is] at this
  exact this
theorem OnWay.rise {n : Nat} {S P T : List Nat} {id q u : Nat} {L : Prop} (h : OnWay n S id L P T q) (h0 : 0 < q) (hu : u = (q - 1) / 2) (hl : ah S id (T.getD u 0) = true) :
    OnWay n S id L (swP P T q u) (swT T q u) u ∧ Same P (swP P T q u) := by
  have hq := h.lt
  have hul : u < T.length := by omega
  have hs := rise_step (m := T.length) (v := vs S T) h0 hq (by unfold vs; rw [h.is, ← hu]; exact ah_yes hl) h.hole
  rw [← hu] at hs
  have hv := fun i (_ : i < T.length) => vs_sw S hq hul i
  obtain ⟨w1, w2⟩ := wf_sw h.wf hq hul
  refine ⟨⟨w1, by rw [swT_len]; exact hul, by rw [swT_r hq hul]; exact h.is, ?_, fun _ => ?_⟩, w2⟩
  · rw [swT_len]; exact hole_cong hv hul hs.1
  · rw [swT_len]; exact low_cong hv hul hs.2
theorem OnWay.up {n : Nat} {S P T : List Nat} {id q u : Nat} {L : Prop} (h : OnWay n S id L P T q) (hu : u = (q - 1) / 2) (hl : ah S id (T.getD u 0) = false) : Up (vs S T) q := by
  intro _
  unfold vs
  rw [h.is, ← hu]
  exact ah_no hl
theorem OnWay.hok {n : Nat} {S P T : List Nat} {id q : Nat} {L : Prop} (h : OnWay n S id L P T q) (hl : L) (hu : Up (vs S T) q) : Hok n S P T := ⟨h.wf, full_of h.hole (h.low hl) hu⟩
theorem OnWay.weak {n : Nat} {S P T : List Nat} {id q : Nat} {L : Prop} (h : OnWay n S id L P T q) : OnWay n S id False P T q := ⟨h.wf, h.lt, h.is, h.hole, fun e => e.elim⟩
theorem OnWay.sink {n : Nat} {S P T : List Nat} {id q f : Nat} (h : OnWay n S id False P T q) (hu : Up (vs S T) q) (f0 : 0 < f) (fm : f < T.length) (fq : (f - 1) / 2 = q) (hl : vs S T f < vs S T q)
    (hm : ∀ i, 2 * q + 1 ≤ i → i < 2 * q + 3 → i < T.length → vs S T f ≤ vs S T i) : OnWay n S id False (swP P T q f) (swT T q f) f ∧ Up (vs S (swT T q f)) f ∧ Same P (swP P T q f) := by
  have hq := h.lt
  have hs := sink_step (m := T.length) (v := vs S T) f0 fm fq hl (fun i i0 im e => hm i (by omega) (by omega) im) h.hole hu
  have hv := fun i (_ : i < T.length) => vs_sw S hq fm i
  obtain ⟨w1, w2⟩ := wf_sw h.wf hq fm
  refine ⟨⟨w1, by rw [swT_len]; exact fm, by rw [swT_r hq fm]; exact h.is, ?_, fun e => e.elim⟩, up_cong hv fm hs.2, w2⟩
  rw [swT_len]; exact hole_cong hv fm hs.1
theorem OnWay.done {n : Nat} {S P T : List Nat} {id q : Nat} (h : OnWay n S id False P T q) (hu : Up (vs S T) q) (hm : ∀ i, 2 * q + 1 ≤ i → i < 2 * q + 3 → i < T.length → vs S T q ≤ vs S T i) : Hok n S P T :=
  ⟨h.wf, full_of h.hole (low_of hm) hu⟩
/-- of q and what is below it, up to place b, the nearest to the front -/
structure Best (m : Nat) (v : Nat → Nat) (q b f : Nat) : Prop where
  lo : 2 * q + 1 ≤ b
  hi : b ≤ 2 * q + 3
  fm : f < m
  or_ : f = q ∨ (0 < f ∧ (f - 1) / 2 = q ∧ v f < v q)
  all : ∀ i, 2 * q + 1 ≤ i → i < b → i < m → v f ≤ v i
  le : v f ≤ v q
theorem Best.start {m q : Nat} (v : Nat → Nat) (h : q < m) : Best m v q (2 * q + 1) q := ⟨Nat.le_refl _, by omega, h, .inl rfl, fun i h1 h2 => by omega, Nat.le_refl _⟩
theorem Best.take {m q b f : Nat} {v : Nat → Nat} (h : Best m v q b f) (hb : b < m) (h2 : b ≤ 2 * q + 2) (hl : v b < v f) : Best m v q (b + 1) b := by
  have hlo := h.lo; have hle := h.le
  refine ⟨by omega, by omega, hb, .inr ⟨by omega, by omega, by omega⟩, fun i h3 h4 h5 => ?_, by omega⟩
  by_cases e : i = b
  · subst e; exact Nat.le_refl _
  · have := h.all i h3 (by omega) h5; omega
theorem Best.keep {m q b f : Nat} {v : Nat → Nat} (h : Best m v q b f) (h2 : b ≤ 2 * q + 2) (hl : v f ≤ v b) : Best m v q (b + 1) f := by
  have hlo := h.lo
  refine ⟨by omega, by omega, h.fm, h.or_, fun i h3 h4 h5 => ?_, h.le⟩
  by_cases e : i = b
  · subst e; exact hl
  · exact h.all i h3 (by omega) h5
theorem Best.end_ {m q b f : Nat} {v : Nat → Nat} (h : Best m v q b f) (hb : ¬ (b ≤ 2 * q + 2 ∧ b < m)) : ∀ i, 2 * q + 1 ≤ i → i < 2 * q + 3 → i < m → v f ≤ v i := by
  have hlo := h.hi
  exact fun i h1 h2 h3 => h.all i h1 (by omega) h3
end Go.Proofs.Ytpcpjpcejcgodaa.hpf
