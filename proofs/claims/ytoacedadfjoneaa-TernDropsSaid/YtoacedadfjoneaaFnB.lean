/- A store's values, purely: what its literals are, by the inputs. -/
import Derived.Test.YtoacedadfjoneaaFnA
namespace Go.Proofs.Ytoacedadfjoneaa.agf

/-- a literal's value, by those of variables -/
def ev (vals : List Bool) (l : Nat) : Bool := vals.getD (l / 2) false != (l % 2 == 1)
def evI (vals : List Bool) (l : Int) : Bool := ev vals l.toNat
def valStep (ins : List Bool) (s : List Bool × Nat) (x : Nd) : List Bool × Nat :=
  match x with
  | none => (s.1 ++ [ins.getD s.2 false], s.2 + 1)
  | some (a, b) => (s.1 ++ [ev s.1 a && ev s.1 b], s.2)
/-- the values of a net's variables, and how many inputs there are -/
def st (ins : List Bool) (N : Net) : List Bool × Nat := N.foldl (valStep ins) ([false], 0)
theorem st_snoc (ins : List Bool) (N : Net) (x : Nd) : st ins (N ++ [x]) = valStep ins (st ins N) x := by simp [st]
theorem fold_pre (ins : List Bool) : ∀ (N : Net) (s : List Bool × Nat), ∃ r, (N.foldl (valStep ins) s).1 = s.1 ++ r ∧ r.length = N.length := by
  intro N
  induction N with
  | nil => intro s; exact ⟨[], by simp⟩
  | cons x N ih =>
    intro s
    obtain ⟨r, h1, h2⟩ := ih (valStep ins s x)
    have : ∃ v, (valStep ins s x).1 = s.1 ++ [v] := by
      cases x with
      | none => exact ⟨_, rfl⟩
      | some g => exact ⟨_, rfl⟩
    obtain ⟨v, hv⟩ := this
    exact ⟨v :: r, by rw [List.foldl_cons, h1, hv, List.append_assoc]; rfl, by simp [h2]⟩
theorem st_len (ins : List Bool) (N : Net) : (st ins N).1.length = N.length + 1 := by
  obtain ⟨r, h1, h2⟩ := fold_pre ins N ([false], 0)
  unfold st; rw [h1]; simp only [List.length_append, List.length_singleton, h2]; omega
theorem st_ext {N M : Net} (ins : List Bool) (h : Ext N M) : ∃ r, (st ins M).1 = (st ins N).1 ++ r := by
  obtain ⟨q, rfl⟩ := h
  obtain ⟨r, h1, -⟩ := fold_pre ins q (st ins N)
  exact ⟨r, by unfold st at h1 ⊢; rw [List.foldl_append]; exact h1⟩
theorem st_at {N M : Net} (ins : List Bool) (h : Ext N M) {i : Nat} (hi : i ≤ N.length) : (st ins M).1.getD i false = (st ins N).1.getD i false := by
  obtain ⟨r, hr⟩ := st_ext ins h
  rw [hr]
  simp only [List.getD]
  rw [List.getElem?_append_left (by rw [st_len]; omega)]
theorem st_zero (ins : List Bool) (N : Net) : (st ins N).1.getD 0 false = false := by
  have h := st_at ins (N := []) (M := N) ⟨N, by simp⟩ (i := 0) (Nat.zero_le _)
  rw [h]; rfl
theorem ev_ext {N M : Net} (ins : List Bool) (h : Ext N M) {l : Nat} (hl : l ≤ 2 * N.length + 1) : ev (st ins M).1 l = ev (st ins N).1 l := by
  unfold ev; rw [st_at ins h (by omega)]
theorem evI_ext {N M : Net} (ins : List Bool) (h : Ext N M) {l : Int} (hl : hasB N.length l = true) : evI (st ins M).1 l = evI (st ins N).1 l := by
  rw [has_iff] at hl
  exact ev_ext ins h (by omega)
theorem evI_nt (vals : List Bool) {l : Int} (h : 0 ≤ l) : evI vals (nt l) = !evI vals l := by
  obtain ⟨k, rfl⟩ := Int.eq_ofNat_of_zero_le h
  unfold evI ev nt
  rw [if_neg (by omega)]
  by_cases h1 : k % 2 = 1
  · rw [if_pos (by omega)]
    have e1 : ((k : Int) - 1).toNat / 2 = (k : Int).toNat / 2 := by omega
    have e2 : ((k : Int) - 1).toNat % 2 = 0 := by omega
    have e3 : (k : Int).toNat % 2 = 1 := by omega
    rw [e1, e2, e3]; cases vals.getD ((k : Int).toNat / 2) false <;> rfl
  · rw [if_neg (by omega)]
    have e1 : ((k : Int) + 1).toNat / 2 = (k : Int).toNat / 2 := by omega
    have e2 : ((k : Int) + 1).toNat % 2 = 1 := by omega
    have e3 : (k : Int).toNat % 2 = 0 := by omega
    rw [e1, e2, e3]; cases vals.getD ((k : Int).toNat / 2) false <;> rfl
theorem take_ext (N : Net) (i : Nat) : Ext (N.take i) N := ⟨N.drop i, by simp⟩
theorem take_snoc {N : Net} {i : Nat} {x : Nd} (h : N[i]? = some x) : N.take (i + 1) = N.take i ++ [x] := by
  obtain ⟨h1, h2⟩ := List.getElem?_eq_some_iff.1 h
  rw [List.take_succ_eq_append_getElem h1, h2]
/-- the last one's value -/
theorem st_last (ins : List Bool) (N : Net) (x : Nd) : (st ins (N ++ [x])).1.getD (N.length + 1) false = match x with
    | none => ins.getD (st ins N).2 false
    | some (a, b) => ev (st ins N).1 a && ev (st ins N).1 b := by
  rw [st_snoc]
  have hl := st_len ins N
  cases x with
  | none => simp [valStep, List.getD, hl]
  | some g => simp [valStep, List.getD, hl]
theorem st_gate (ins : List Bool) {N : Net} (hN : Good N) {i a b : Nat} (h : N[i]? = some (some (a, b))) : (st ins N).1.getD (i + 1) false = (ev (st ins N).1 a && ev (st ins N).1 b) := by
  have hi := (List.getElem?_eq_some_iff.1 h).1
  have hl : (N.take i).length = i := by rw [List.length_take]; omega
  have hl1 : (N.take (i + 1)).length = i + 1 := by rw [List.length_take]; omega
  obtain ⟨ga, gb⟩ := hN i a b h
  have e := st_last ins (N.take i) (some (a, b))
  rw [← take_snoc h, hl] at e
  rw [st_at ins (take_ext N (i + 1)) (by omega), e, ev_ext ins (take_ext N i) (by omega), ev_ext ins (take_ext N i) (by omega)]
theorem and_good {N : Net} {a b : Int} (hN : Good N) : Good (andF N a b).2 := by
  by_cases hh : hasB N.length a = true ∧ hasB N.length b = true
  · have h := and_way hh.1 hh.2
    generalize (andF N a b).1 = r at h ⊢
    generalize (andF N a b).2 = M at h ⊢
    cases h with
    | zero h => exact hN
    | right h => exact hN
    | left h => exact hN
    | there i x y hx hi h => exact hN
    | fresh x y hx lo lt hi h =>
      intro i a b hi'
      rcases snoc_gate hi' with ⟨-, e⟩ | ⟨e1, e⟩
      · exact hN i a b e
      · cases e; omega
  · have : andF N a b = (-1, N) := by
      unfold andF
      rw [if_neg (by simpa using hh)]
    rw [this]; exact hN
/-- what a step leaves: more of a good store, and a literal of it -/
structure Step (ins : List Bool) (N M : Net) (r : Int) (v : Bool) : Prop where
  ext : Ext N M
  good : Good M
  has : hasB M.length r = true
  cnt : (st ins M).2 = (st ins N).2
  val : evI (st ins M).1 r = v
theorem and_step (ins : List Bool) {N : Net} {a b : Int} (hN : Good N) (ha : hasB N.length a = true) (hb : hasB N.length b = true) :
    Step ins N (andF N a b).2 (andF N a b).1 (evI (st ins N).1 a && evI (st ins N).1 b) := by
  obtain ⟨h1, h2⟩ := and_ext ha hb
  have h3 := and_good (a := a) (b := b) hN
  have h := and_way ha hb
  generalize (andF N a b).1 = r at h h2 ⊢
  generalize (andF N a b).2 = M at h h1 h2 h3 ⊢
  have ha' := has_iff.1 ha; have hb' := has_iff.1 hb
  have e0 : evI (st ins N).1 0 = false := by unfold evI ev; rw [show (0 : Int).toNat = 0 from rfl, st_zero]; rfl
  have e1 : evI (st ins N).1 1 = true := by unfold evI ev; rw [show (1 : Int).toNat = 1 from rfl, show 1 / 2 = 0 from rfl, st_zero]; rfl
  cases h with
  | zero h =>
    refine ⟨h1, h3, h2, rfl, ?_⟩
    rcases h with rfl | rfl | rfl
    · rw [e0]; rfl
    · rw [e0]; simp
    · rw [evI_nt _ hb'.1, e0]; cases evI (st ins N).1 b <;> rfl
  | right h =>
    refine ⟨h1, h3, h2, rfl, ?_⟩
    rcases h with rfl | rfl
    · rw [e1]; simp
    · cases evI (st ins N).1 a <;> rfl
  | left h => subst h; exact ⟨h1, h3, h2, rfl, by rw [e1]; simp⟩
  | there i x y hx hi h =>
    refine ⟨h1, h3, h2, rfl, ?_⟩
    have g := st_gate ins hN h
    have ei : evI (st ins N).1 (2 * ((i : Int) + 1)) = (st ins N).1.getD (i + 1) false := by
      unfold evI ev
      rw [show (2 * ((i : Int) + 1)).toNat / 2 = i + 1 by omega, show (2 * ((i : Int) + 1)).toNat % 2 = 0 by omega]
      cases (st ins N).1.getD (i + 1) false <;> rfl
    rw [ei, g]
    rcases hx with ⟨rfl, rfl⟩ | ⟨rfl, rfl⟩
    · rfl
    · rw [Bool.and_comm]; rfl
  | fresh x y hx lo lt hi h =>
    refine ⟨h1, h3, h2, by rw [st_snoc]; rfl, ?_⟩
    have g := st_last ins N (some (x, y))
    have ei : evI (st ins (N ++ [some (x, y)])).1 (2 * ((N.length : Int) + 1)) = (st ins (N ++ [some (x, y)])).1.getD (N.length + 1) false := by
      unfold evI ev
      rw [show (2 * ((N.length : Int) + 1)).toNat / 2 = N.length + 1 by omega, show (2 * ((N.length : Int) + 1)).toNat % 2 = 0 by omega]
      cases (st ins (N ++ [some (x, y)])).1.getD (N.length + 1) false <;> rfl
    rw [ei, g]
    rcases hx with ⟨rfl, rfl⟩ | ⟨rfl, rfl⟩
    · rfl
    · rw [Bool.and_comm]; rfl
theorem or_step (ins : List Bool) {N : Net} {a b : Int} (hN : Good N) (ha : hasB N.length a = true) (hb : hasB N.length b = true) :
    Step ins N (orF N a b).2 (orF N a b).1 (evI (st ins N).1 a || evI (st ins N).1 b) := by
  have ha' := has_iff.1 ha; have hb' := has_iff.1 hb
  have h := and_step ins hN (a := nt a) (b := nt b) (by rw [nt_has]; exact ha) (by rw [nt_has]; exact hb)
  refine ⟨h.ext, h.good, by unfold orF; rw [nt_has]; exact h.has, h.cnt, ?_⟩
  unfold orF
  rw [evI_nt _ (has_iff.1 h.has).1, h.val, evI_nt _ ha'.1, evI_nt _ hb'.1]
  cases evI (st ins N).1 a <;> cases evI (st ins N).1 b <;> rfl
theorem mux_step (ins : List Bool) {N : Net} {c a b : Int} (hN : Good N) (hc : hasB N.length c = true) (ha : hasB N.length a = true) (hb : hasB N.length b = true) :
    Step ins N (muxF N c a b).2 (muxF N c a b).1 (evI (st ins N).1 c && evI (st ins N).1 a || !evI (st ins N).1 c && evI (st ins N).1 b) := by
  have h1 := and_step ins hN hc ha
  have h2 := and_step ins h1.good (a := nt c) (b := b) (by rw [nt_has]; exact h1.ext.has hc) (h1.ext.has hb)
  have h3 := or_step ins h2.good (h2.ext.has h1.has) h2.has
  have e : muxF N c a b = orF (andF (andF N c a).2 (nt c) b).2 (andF N c a).1 (andF (andF N c a).2 (nt c) b).1 := by
    unfold muxF
    rw [hc, ha, hb]; rfl
  rw [e]
  refine ⟨h1.ext.trans (h2.ext.trans h3.ext), h3.good, h3.has, h3.cnt.trans (h2.cnt.trans h1.cnt), ?_⟩
  rw [h3.val, evI_ext ins h2.ext h1.has, h1.val, h2.val, evI_nt _ (has_iff.1 hc).1, evI_ext ins h1.ext hc, evI_ext ins h1.ext hb]
theorem xor_step (ins : List Bool) {N : Net} {a b : Int} (hN : Good N) (ha : hasB N.length a = true) (hb : hasB N.length b = true) :
    Step ins N (xorF N a b).2 (xorF N a b).1 (evI (st ins N).1 a != evI (st ins N).1 b) := by
  have h := mux_step ins hN ha (a := nt b) (b := b) (by rw [nt_has]; exact hb) hb
  refine ⟨h.ext, h.good, h.has, h.cnt, ?_⟩
  have := h.val
  rw [evI_nt _ (has_iff.1 hb).1] at this
  unfold xorF
  rw [this]
  cases evI (st ins N).1 a <;> cases evI (st ins N).1 b <;> rfl
/-- a net that is put there so far: what is told of each variable is what it was -/
structure Put (ins : List Bool) (p M : Net) (l : List Int) : Prop where
  len : l.length = p.length + 1
  good : Good M
  has : ∀ j, j ≤ p.length → hasB M.length (l.getD j 0) = true
  cnt : (st ins M).2 = (st ins p).2
  val : ∀ j, j ≤ p.length → evI (st ins M).1 (l.getD j 0) = (st ins p).1.getD j false
theorem snocI_l {l : List Int} {x : Int} {j : Nat} (h : j < l.length) : (l ++ [x]).getD j 0 = l.getD j 0 := by simp [List.getD, List.getElem?_append_left h]
theorem snocI_r (l : List Int) (x : Int) : (l ++ [x]).getD l.length 0 = x := by simp [List.getD]
theorem put_more {ins : List Bool} {p M M' : Net} {l : List Int} {r : Int} {x : Nd} (h : Put ins p M l) (he : Ext M M') (hg : Good M') (hr : hasB M'.length r = true)
    (hc : (st ins M').2 = (st ins (p ++ [x])).2) (hv : evI (st ins M').1 r = (st ins (p ++ [x])).1.getD (p.length + 1) false) : Put ins (p ++ [x]) M' (l ++ [r]) := by
  have hl := h.len
  refine ⟨by simp [hl], hg, fun j hj => ?_, hc, fun j hj => ?_⟩
  · rw [List.length_append, List.length_singleton] at hj
    by_cases e : j = p.length + 1
    · rw [e, ← hl, snocI_r]; exact hr
    · rw [snocI_l (by omega)]; exact he.has (h.has j (by omega))
  · rw [List.length_append, List.length_singleton] at hj
    by_cases e : j = p.length + 1
    · rw [e, ← hl, snocI_r, hv, hl]
    · rw [snocI_l (by omega), evI_ext ins he (h.has j (by omega)), h.val j (by omega), st_at ins (ext_snoc p x) (by omega)]
theorem put_lit {ins : List Bool} {p M : Net} {l : List Int} (h : Put ins p M l) {a : Nat} (ha : a ≤ 2 * p.length + 1) :
    hasB M.length (litAt l a) = true ∧ evI (st ins M).1 (litAt l a) = ev (st ins p).1 a := by
  have h1 := h.has (a / 2) (by omega)
  have h2 := h.val (a / 2) (by omega)
  unfold litAt ev
  by_cases e : a % 2 = 1
  · rw [if_pos e, nt_has, evI_nt _ (has_iff.1 h1).1, h2, e]
    exact ⟨h1, by cases (st ins p).1.getD (a / 2) false <;> rfl⟩
  · rw [if_neg e, h2, show a % 2 = 0 by omega]
    exact ⟨h1, by cases (st ins p).1.getD (a / 2) false <;> rfl⟩
theorem put_step {ins : List Bool} {p M : Net} {l : List Int} {x : Nd} (h : Put ins p M l) (hx : ∀ a b, x = some (a, b) → a ≤ 2 * p.length + 1 ∧ b ≤ 2 * p.length + 1) :
    Put ins (p ++ [x]) (copyStep (l, [], M) x).2.2 (copyStep (l, [], M) x).1 ∧ (copyStep (l, [], M) x).2.1 = [] := by
  cases x with
  | none =>
    refine ⟨?_, rfl⟩
    show Put ins (p ++ [none]) (M ++ [none]) (l ++ [2 * ((M.length : Int) + 1)])
    refine put_more h (ext_snoc M none) (good_input h.good) (has_iff.2 (by simp; omega)) (by rw [st_snoc, st_snoc]; simp [valStep, h.cnt]) ?_
    have g := st_last ins M none
    unfold evI ev
    rw [st_last, show (2 * ((M.length : Int) + 1)).toNat / 2 = M.length + 1 by omega, show (2 * ((M.length : Int) + 1)).toNat % 2 = 0 by omega, g, h.cnt]
    simp
  | some g =>
    obtain ⟨a, b⟩ := g
    obtain ⟨xa, xb⟩ := hx a b rfl
    obtain ⟨a1, a2⟩ := put_lit h xa
    obtain ⟨b1, b2⟩ := put_lit h xb
    have s := and_step ins h.good a1 b1
    refine ⟨?_, rfl⟩
    show Put ins (p ++ [some (a, b)]) (andF M (litAt l a) (litAt l b)).2 (l ++ [(andF M (litAt l a) (litAt l b)).1])
    refine put_more h s.ext s.good s.has (by rw [s.cnt, st_snoc]; exact h.cnt) ?_
    rw [st_last, s.val, a2, b2]
theorem put_nil (ins : List Bool) : Put ins [] [] [0] := by
  refine ⟨rfl, good_nil, fun j hj => ?_, rfl, fun j hj => ?_⟩
  · have hj0 : j = 0 := by simpa using hj
    subst hj0; rfl
  · have hj0 : j = 0 := by simpa using hj
    subst hj0; rfl
theorem put_all (ins : List Bool) {n : Net} (hn : Good n) : ∀ k, k ≤ n.length → Put ins (n.take k) (copyGo ([0], [], []) (n.take k)).2.2 (copyGo ([0], [], []) (n.take k)).1 ∧ (copyGo ([0], [], []) (n.take k)).2.1 = [] := by
  intro k
  induction k with
  | zero => intro _; exact ⟨put_nil ins, rfl⟩
  | succ k ih =>
    intro hk
    obtain ⟨h1, h2⟩ := ih (by omega)
    have hx : n[k]? = some n[k] := List.getElem?_eq_getElem (by omega)
    have hl : (n.take k).length = k := by rw [List.length_take]; omega
    rw [take_snoc hx]
    have e : copyGo ([0], [], []) (n.take k ++ [n[k]]) = copyStep (copyGo ([0], [], []) (n.take k)) n[k] := by unfold copyGo; rw [List.foldl_append]; rfl
    rw [e]
    generalize copyGo ([0], [], []) (n.take k) = s at h1 h2 ⊢
    obtain ⟨l, is, M⟩ := s
    simp only at h1 h2
    subst h2
    exact put_step h1 (fun a b hab => by rw [hl]; exact hn k a b (by rw [hx, hab]))
theorem copy_put (ins : List Bool) {n : Net} (hn : Good n) : Put ins n (copyF [] n []).2 (copyF [] n []).1 := by
  have h := (put_all ins hn n.length (Nat.le_refl _)).1
  rw [List.take_length] at h
  exact h
end Go.Proofs.Ytoacedadfjoneaa.agf
