import Derived.PlainAid
import Derived.Lib.Hide
import Derived.Test.YtbpjflghkkkenaaMg5
import Derived.Deep.RegionHeld3
/- A store of gates, purely: what is put to it, what is told, and what its literals are. -/
namespace Go.Proofs.Ytbpjflghkkkenaa.agf

/-- a node: an input, or a gate of two literals -/
abbrev Nd := Option (Nat × Nat)
abbrev Net := List Nd
/-- whether l is a literal of a store of m nodes -/
def hasB (m : Nat) (l : Int) : Bool := decide (0 ≤ l) && decide (l ≤ 2 * (m : Int) + 1)
theorem has_iff {m : Nat} {l : Int} : hasB m l = true ↔ 0 ≤ l ∧ l ≤ 2 * (m : Int) + 1 := by simp [hasB]
theorem has_no {m : Nat} {l : Int} : hasB m l = false ↔ ¬ (0 ≤ l ∧ l ≤ 2 * (m : Int) + 1) := by
  rw [← has_iff]; cases hasB m l <;> simp
/-- Not of a literal; of none it -/
def nt (l : Int) : Int := if l < 0 then l else if l % 2 = 1 then l - 1 else l + 1
theorem nt_has (m : Nat) (l : Int) : hasB m (nt l) = hasB m l := by
  rw [Bool.eq_iff_iff, has_iff, has_iff]
  unfold nt
  split
  · exact Iff.rfl
  · split <;> omega
/-- where a gate is -/
def seek (N : Net) (g : Nat × Nat) : Option Nat := N.findIdx? (· == some g)
theorem seek_some {N : Net} {g : Nat × Nat} {i : Nat} (h : seek N g = some i) : i < N.length ∧ N[i]? = some (some g) := by
  obtain ⟨h1, h2, -⟩ := List.findIdx?_eq_some_iff_getElem.1 h
  refine ⟨h1, ?_⟩
  rw [List.getElem?_eq_getElem h1]
  have : N[i] = some g := by simpa using h2
  rw [this]
theorem seek_none {N : Net} {g : Nat × Nat} (h : seek N g = none) (i : Nat) : N[i]? ≠ some (some g) := by
  intro e
  obtain ⟨h1, h2⟩ := List.getElem?_eq_some_iff.1 e
  have := List.findIdx?_eq_none_iff.1 h _ (List.getElem_mem h1)
  rw [h2] at this
  simp at this
def putG (N : Net) (x y : Nat) : Int × Net :=
  match seek N (x, y) with
  | some i => (2 * ((i : Int) + 1), N)
  | none => (2 * ((N.length : Int) + 1), N ++ [some (x, y)])
def inF (N : Net) : Int × Net := (2 * ((N.length : Int) + 1), N ++ [none])
def andF (N : Net) (a b : Int) : Int × Net :=
  if hasB N.length a && hasB N.length b then
    if a = 0 ∨ b = 0 ∨ a = nt b then (0, N)
    else if a = 1 ∨ a = b then (b, N)
    else if b = 1 then (a, N)
    else putG N (min a b).toNat (max a b).toNat
  else (-1, N)
def orF (N : Net) (a b : Int) : Int × Net := let r := andF N (nt a) (nt b); (nt r.1, r.2)
def muxF (N : Net) (c a b : Int) : Int × Net :=
  if hasB N.length c && hasB N.length a && hasB N.length b then
    let x := andF N c a
    let y := andF x.2 (nt c) b
    orF y.2 x.1 y.1
  else (-1, N)
def xorF (N : Net) (a b : Int) : Int × Net := muxF N a (nt b) b
def allHas (m : Nat) (l : List Int) : Bool := l.all (hasB m)
def allGo (s : Int × Net) (l : List Int) : Int × Net := l.foldl (fun s x => andF s.2 s.1 x) s
def allF (N : Net) (l : List Int) : Int × Net := if allHas N.length l then allGo (1, N) l else (-1, N)
/-- of a net's node: its literals there -/
def litAt (at_ : List Int) (l : Nat) : Int := if l % 2 = 1 then nt (at_.getD (l / 2) 0) else at_.getD (l / 2) 0
/-- one node more of a net that is put there: (what is told so far, the inputs' literals that are left, the store) -/
def copyStep (s : List Int × List Int × Net) (x : Nd) : List Int × List Int × Net :=
  match x with
  | some (a, b) => let r := andF s.2.2 (litAt s.1 a) (litAt s.1 b); (s.1 ++ [r.1], s.2.1, r.2)
  | none => match s.2.1 with
    | i :: is => (s.1 ++ [i], is, s.2.2)
    | [] => let r := inF s.2.2; (s.1 ++ [r.1], [], r.2)
def copyGo (s : List Int × List Int × Net) (n : Net) : List Int × List Int × Net := n.foldl copyStep s
def copyF (N : Net) (n : Net) (ins : List Int) : List Int × Net :=
  if allHas N.length ins then let r := copyGo ([0], ins, N) n; (r.1, r.2.2) else ([], N)

/-- a net whose gates hang on what is ahead of them -/
def Good (N : Net) : Prop := ∀ i a b : Nat, N[i]? = some (some (a, b)) → a ≤ 2 * i + 1 ∧ b ≤ 2 * i + 1
/-- no gate is folded, or there twice -/
structure Tidy (N : Net) : Prop where
  good : Good N
  lo : ∀ i a b : Nat, N[i]? = some (some (a, b)) → 2 ≤ a ∧ a / 2 < b / 2
  once : ∀ i k a b : Nat, N[i]? = some (some (a, b)) → N[k]? = some (some (a, b)) → i = k
theorem snoc_at {N : Net} {x : Nd} {i : Nat} : (N ++ [x])[i]? = if i < N.length then N[i]? else if i = N.length then some x else none := by
  by_cases h : i < N.length
  · rw [if_pos h, List.getElem?_append_left h]
  · rw [if_neg h, List.getElem?_append_right (by omega)]
    by_cases e : i = N.length
    · rw [if_pos e, e, Nat.sub_self]; rfl
    · rw [if_neg e, List.getElem?_eq_none (by simp; omega)]
theorem snoc_gate {N : Net} {x : Nd} {i : Nat} {g : Nat × Nat} (h : (N ++ [x])[i]? = some (some g)) : (i < N.length ∧ N[i]? = some (some g)) ∨ (i = N.length ∧ x = some g) := by
  rw [snoc_at] at h
  by_cases h1 : i < N.length
  · rw [if_pos h1] at h; exact .inl ⟨h1, h⟩
  · rw [if_neg h1] at h
    by_cases e : i = N.length
    · rw [if_pos e] at h; exact .inr ⟨e, Option.some.inj h⟩
    · rw [if_neg e] at h; cases h
theorem good_nil : Good [] := fun i a b h => by simp at h
theorem tidy_nil : Tidy [] := ⟨good_nil, fun i a b h => by simp at h, fun i k a b h => by simp at h⟩
theorem good_input {N : Net} (h : Good N) : Good (N ++ [none]) := by
  intro i a b hi
  rcases snoc_gate hi with ⟨-, e⟩ | ⟨-, e⟩
  · exact h i a b e
  · cases e
theorem tidy_input {N : Net} (h : Tidy N) : Tidy (N ++ [none]) := by
  refine ⟨good_input h.good, fun i a b hi => ?_, fun i k a b hi hk => ?_⟩
  · rcases snoc_gate hi with ⟨-, e⟩ | ⟨-, e⟩
    · exact h.lo i a b e
    · cases e
  · rcases snoc_gate hi with ⟨-, e⟩ | ⟨-, e⟩
    · rcases snoc_gate hk with ⟨-, e'⟩ | ⟨-, e'⟩
      · exact h.once i k a b e e'
      · cases e'
    · cases e
/-- what stays as a store grows -/
def Ext (N M : Net) : Prop := ∃ r, M = N ++ r
theorem Ext.refl (N : Net) : Ext N N := ⟨[], by simp⟩
theorem Ext.trans {A B C : Net} (h : Ext A B) (k : Ext B C) : Ext A C := by
  obtain ⟨r, rfl⟩ := h; obtain ⟨q, rfl⟩ := k; exact ⟨r ++ q, by simp⟩
theorem ext_snoc (N : Net) (x : Nd) : Ext N (N ++ [x]) := ⟨[x], rfl⟩
theorem Ext.len {N M : Net} (h : Ext N M) : N.length ≤ M.length := by obtain ⟨r, rfl⟩ := h; simp
theorem Ext.has {N M : Net} (h : Ext N M) {l : Int} (hl : hasB N.length l = true) : hasB M.length l = true := by
  have := h.len
  rw [has_iff] at hl ⊢; omega

/-- And's ways -/
inductive AndWay (N : Net) (a b : Int) : Int → Net → Prop
  | zero (h : a = 0 ∨ b = 0 ∨ a = nt b) : AndWay N a b 0 N
  | right (h : a = 1 ∨ a = b) : AndWay N a b b N
  | left (h : b = 1) : AndWay N a b a N
  | there (i : Nat) (x y : Nat) (hx : ((x : Int) = a ∧ (y : Int) = b) ∨ ((x : Int) = b ∧ (y : Int) = a)) (hi : i < N.length) (h : N[i]? = some (some (x, y))) : AndWay N a b (2 * ((i : Int) + 1)) N
  | fresh (x y : Nat) (hx : ((x : Int) = a ∧ (y : Int) = b) ∨ ((x : Int) = b ∧ (y : Int) = a)) (lo : 2 ≤ x) (lt : x / 2 < y / 2) (hi : y ≤ 2 * N.length + 1) (h : ∀ i : Nat, N[i]? ≠ some (some (x, y))) :
      AndWay N a b (2 * ((N.length : Int) + 1)) (N ++ [some (x, y)])
theorem and_way {N : Net} {a b : Int} (ha : hasB N.length a = true) (hb : hasB N.length b = true) : AndWay N a b (andF N a b).1 (andF N a b).2 := by
  unfold andF
  rw [ha, hb]
  simp only [Bool.and_self, if_true]
  rw [has_iff] at ha hb
  split
  · next h => exact .zero h
  · next h0 =>
    split
    · next h => exact .right h
    · next h1 =>
      split
      · next h => exact .left h
      · next h2 =>
        obtain ⟨x, hx⟩ : ∃ x, x = (min a b).toNat := ⟨_, rfl⟩
        obtain ⟨y, hy⟩ : ∃ y, y = (max a b).toNat := ⟨_, rfl⟩
        rw [← hx, ← hy]
        have hxy : ((x : Int) = a ∧ (y : Int) = b) ∨ ((x : Int) = b ∧ (y : Int) = a) := by omega
        have hle : x ≤ y := by omega
        unfold putG
        cases hs : seek N (x, y) with
        | some i => exact .there i x y hxy (seek_some hs).1 (seek_some hs).2
        | none =>
          refine .fresh x y hxy ?_ ?_ ?_ (seek_none hs)
          · omega
          · unfold nt at h0
            split at h0
            · omega
            · split at h0 <;> omega
          · omega
theorem and_ext {N : Net} {a b : Int} (ha : hasB N.length a = true) (hb : hasB N.length b = true) : Ext N (andF N a b).2 ∧ hasB (andF N a b).2.length (andF N a b).1 = true := by
  have h := and_way ha hb
  generalize (andF N a b).1 = r at h ⊢
  generalize (andF N a b).2 = M at h ⊢
  have ha' := has_iff.1 ha; have hb' := has_iff.1 hb
  cases h with
  | zero h => exact ⟨Ext.refl _, has_iff.2 (by omega)⟩
  | right h => exact ⟨Ext.refl _, hb⟩
  | left h => exact ⟨Ext.refl _, ha⟩
  | there i x y hx hi h => exact ⟨Ext.refl _, has_iff.2 (by omega)⟩
  | fresh x y hx lo lt hi h => exact ⟨ext_snoc _ _, has_iff.2 (by simp; omega)⟩
theorem and_tidy {N : Net} {a b : Int} (hN : Tidy N) : Tidy (andF N a b).2 := by
  by_cases hh : hasB N.length a = true ∧ hasB N.length b = true
  · have h := and_way hh.1 hh.2
    generalize (andF N a b).1 = r at h ⊢
    generalize (andF N a b).2 = M at h ⊢
    cases h with
    | zero h => exact hN
    | right h => exact hN
    | left h => exact hN
    | there i x y hx hi h => exact hN
    | fresh x y hx lo lt hi h =>
      refine ⟨fun i a b hi' => ?_, fun i a b hi' => ?_, fun i k a b h1 h2 => ?_⟩
      · rcases snoc_gate hi' with ⟨-, e⟩ | ⟨e1, e⟩
        · exact hN.good i a b e
        · cases e; omega
      · rcases snoc_gate hi' with ⟨-, e⟩ | ⟨e1, e⟩
        · exact hN.lo i a b e
        · cases e; exact ⟨lo, lt⟩
      · rcases snoc_gate h1 with ⟨-, e⟩ | ⟨e1, e⟩
        · rcases snoc_gate h2 with ⟨-, e'⟩ | ⟨e1', e'⟩
          · exact hN.once i k a b e e'
          · cases e'; exact absurd e (h i)
        · rcases snoc_gate h2 with ⟨-, e'⟩ | ⟨e1', e'⟩
          · cases e; exact absurd e' (h k)
          · omega
  · have : andF N a b = (-1, N) := by
      unfold andF
      rw [if_neg (by simpa using hh)]
    rw [this]; exact hN
end Go.Proofs.Ytbpjflghkkkenaa.agf

/- A store's values, purely: what its literals are, by the inputs. -/
namespace Go.Proofs.Ytbpjflghkkkenaa.agf

/-- a literal's value, by those of variables -/
def ev (vals : List Bool) (l : Nat) : Bool := vals.getD (l / 2) false != (l % 2 == 1)
def evI (vals : List Bool) (l : Int) : Bool := ev vals l.toNat
def valStep (ins : List Bool) (s : List Bool × Nat) (x : Nd) : List Bool × Nat :=
  match x with
  | none => (s.1 ++ [ins.getD s.2 false], s.2 + 1)
  | some (a, b) => (s.1 ++ [ev s.1 a && ev s.1 b], s.2)
/-- the values of a net's variables, and how many inputs there are -/
def st (ins : List Bool) (N : Net) : List Bool × Nat := N.foldl (valStep ins) ([false], 0)
theorem st_snoc (ins : List Bool) (N : Net) (x : Nd) : st ins (N ++ [x]) = valStep ins (st ins N) x := by simp [st]
theorem fold_pre (ins : List Bool) : ∀ (N : Net) (s : List Bool × Nat), ∃ r, (N.foldl (valStep ins) s).1 = s.1 ++ r ∧ r.length = N.length := by
  intro N
  induction N with
  | nil => intro s; exact ⟨[], by simp⟩
  | cons x N ih =>
    intro s
    obtain ⟨r, h1, h2⟩ := ih (valStep ins s x)
    have : ∃ v, (valStep ins s x).1 = s.1 ++ [v] := by
      cases x with
      | none => exact ⟨_, rfl⟩
      | some g => exact ⟨_, rfl⟩
    obtain ⟨v, hv⟩ := this
    exact ⟨v :: r, by rw [List.foldl_cons, h1, hv, List.append_assoc]; rfl, by simp [h2]⟩
theorem st_len (ins : List Bool) (N : Net) : (st ins N).1.length = N.length + 1 := by
  obtain ⟨r, h1, h2⟩ := fold_pre ins N ([false], 0)
  unfold st; rw [h1]; simp only [List.length_append, List.length_singleton, h2]; omega
theorem st_ext {N M : Net} (ins : List Bool) (h : Ext N M) : ∃ r, (st ins M).1 = (st ins N).1 ++ r := by
  obtain ⟨q, rfl⟩ := h
  obtain ⟨r, h1, -⟩ := fold_pre ins q (st ins N)
  exact ⟨r, by unfold st at h1 ⊢; rw [List.foldl_append]; exact h1⟩
theorem st_at {N M : Net} (ins : List Bool) (h : Ext N M) {i : Nat} (hi : i ≤ N.length) : (st ins M).1.getD i false = (st ins N).1.getD i false := by
  obtain ⟨r, hr⟩ := st_ext ins h
  rw [hr]
  simp only [List.getD]
  rw [List.getElem?_append_left (by rw [st_len]; omega)]
theorem st_zero (ins : List Bool) (N : Net) : (st ins N).1.getD 0 false = false := by
  have h := st_at ins (N := []) (M := N) ⟨N, by simp⟩ (i := 0) (Nat.zero_le _)
  rw [h]; rfl
theorem ev_ext {N M : Net} (ins : List Bool) (h : Ext N M) {l : Nat} (hl : l ≤ 2 * N.length + 1) : ev (st ins M).1 l = ev (st ins N).1 l := by
  unfold ev; rw [st_at ins h (by omega)]
theorem evI_ext {N M : Net} (ins : List Bool) (h : Ext N M) {l : Int} (hl : hasB N.length l = true) : evI (st ins M).1 l = evI (st ins N).1 l := by
  rw [has_iff] at hl
  exact ev_ext ins h (by omega)
theorem evI_nt (vals : List Bool) {l : Int} (h : 0 ≤ l) : evI vals (nt l) = !evI vals l := by
  obtain ⟨k, rfl⟩ := Int.eq_ofNat_of_zero_le h
  unfold evI ev nt
  rw [if_neg (by omega)]
  by_cases h1 : k % 2 = 1
  · rw [if_pos (by omega)]
    have e1 : ((k : Int) - 1).toNat / 2 = (k : Int).toNat / 2 := by omega
    have e2 : ((k : Int) - 1).toNat % 2 = 0 := by omega
    have e3 : (k : Int).toNat % 2 = 1 := by omega
    rw [e1, e2, e3]; cases vals.getD ((k : Int).toNat / 2) false <;> rfl
  · rw [if_neg (by omega)]
    have e1 : ((k : Int) + 1).toNat / 2 = (k : Int).toNat / 2 := by omega
    have e2 : ((k : Int) + 1).toNat % 2 = 1 := by omega
    have e3 : (k : Int).toNat % 2 = 0 := by omega
    rw [e1, e2, e3]; cases vals.getD ((k : Int).toNat / 2) false <;> rfl
theorem take_ext (N : Net) (i : Nat) : Ext (N.take i) N := ⟨N.drop i, by simp⟩
theorem take_snoc {N : Net} {i : Nat} {x : Nd} (h : N[i]? = some x) : N.take (i + 1) = N.take i ++ [x] := by
  obtain ⟨h1, h2⟩ := List.getElem?_eq_some_iff.1 h
  rw [List.take_succ_eq_append_getElem h1, h2]
/-- the last one's value -/
theorem st_last (ins : List Bool) (N : Net) (x : Nd) : (st ins (N ++ [x])).1.getD (N.length + 1) false = match x with
    | none => ins.getD (st ins N).2 false
    | some (a, b) => ev (st ins N).1 a && ev (st ins N).1 b := by
  rw [st_snoc]
  have hl := st_len ins N
  cases x with
  | none => simp [valStep, List.getD, hl]
  | some g => simp [valStep, List.getD, hl]
theorem st_gate (ins : List Bool) {N : Net} (hN : Good N) {i a b : Nat} (h : N[i]? = some (some (a, b))) : (st ins N).1.getD (i + 1) false = (ev (st ins N).1 a && ev (st ins N).1 b) := by
  have hi := (List.getElem?_eq_some_iff.1 h).1
  have hl : (N.take i).length = i := by rw [List.length_take]; omega
  have hl1 : (N.take (i + 1)).length = i + 1 := by rw [List.length_take]; omega
  obtain ⟨ga, gb⟩ := hN i a b h
  have e := st_last ins (N.take i) (some (a, b))
  rw [← take_snoc h, hl] at e
  rw [st_at ins (take_ext N (i + 1)) (by omega), e, ev_ext ins (take_ext N i) (by omega), ev_ext ins (take_ext N i) (by omega)]
theorem and_good {N : Net} {a b : Int} (hN : Good N) : Good (andF N a b).2 := by
  by_cases hh : hasB N.length a = true ∧ hasB N.length b = true
  · have h := and_way hh.1 hh.2
    generalize (andF N a b).1 = r at h ⊢
    generalize (andF N a b).2 = M at h ⊢
    cases h with
    | zero h => exact hN
    | right h => exact hN
    | left h => exact hN
    | there i x y hx hi h => exact hN
    | fresh x y hx lo lt hi h =>
      intro i a b hi'
      rcases snoc_gate hi' with ⟨-, e⟩ | ⟨e1, e⟩
      · exact hN i a b e
      · cases e; omega
  · have : andF N a b = (-1, N) := by
      unfold andF
      rw [if_neg (by simpa using hh)]
    rw [this]; exact hN
/-- what a step leaves: more of a good store, and a literal of it -/
structure Step (ins : List Bool) (N M : Net) (r : Int) (v : Bool) : Prop where
  ext : Ext N M
  good : Good M
  has : hasB M.length r = true
  cnt : (st ins M).2 = (st ins N).2
  val : evI (st ins M).1 r = v
theorem and_step (ins : List Bool) {N : Net} {a b : Int} (hN : Good N) (ha : hasB N.length a = true) (hb : hasB N.length b = true) :
    Step ins N (andF N a b).2 (andF N a b).1 (evI (st ins N).1 a && evI (st ins N).1 b) := by
  obtain ⟨h1, h2⟩ := and_ext ha hb
  have h3 := and_good (a := a) (b := b) hN
  have h := and_way ha hb
  generalize (andF N a b).1 = r at h h2 ⊢
  generalize (andF N a b).2 = M at h h1 h2 h3 ⊢
  have ha' := has_iff.1 ha; have hb' := has_iff.1 hb
  have e0 : evI (st ins N).1 0 = false := by unfold evI ev; rw [show (0 : Int).toNat = 0 from rfl, st_zero]; rfl
  have e1 : evI (st ins N).1 1 = true := by unfold evI ev; rw [show (1 : Int).toNat = 1 from rfl, show 1 / 2 = 0 from rfl, st_zero]; rfl
  cases h with
  | zero h =>
    refine ⟨h1, h3, h2, rfl, ?_⟩
    rcases h with rfl | rfl | rfl
    · rw [e0]; rfl
    · rw [e0]; simp
    · rw [evI_nt _ hb'.1, e0]; cases evI (st ins N).1 b <;> rfl
  | right h =>
    refine ⟨h1, h3, h2, rfl, ?_⟩
    rcases h with rfl | rfl
    · rw [e1]; simp
    · cases evI (st ins N).1 a <;> rfl
  | left h => subst h; exact ⟨h1, h3, h2, rfl, by rw [e1]; simp⟩
  | there i x y hx hi h =>
    refine ⟨h1, h3, h2, rfl, ?_⟩
    have g := st_gate ins hN h
    have ei : evI (st ins N).1 (2 * ((i : Int) + 1)) = (st ins N).1.getD (i + 1) false := by
      unfold evI ev
      rw [show (2 * ((i : Int) + 1)).toNat / 2 = i + 1 by omega, show (2 * ((i : Int) + 1)).toNat % 2 = 0 by omega]
      cases (st ins N).1.getD (i + 1) false <;> rfl
    rw [ei, g]
    rcases hx with ⟨rfl, rfl⟩ | ⟨rfl, rfl⟩
    · rfl
    · rw [Bool.and_comm]; rfl
  | fresh x y hx lo lt hi h =>
    refine ⟨h1, h3, h2, by rw [st_snoc]; rfl, ?_⟩
    have g := st_last ins N (some (x, y))
    have ei : evI (st ins (N ++ [some (x, y)])).1 (2 * ((N.length : Int) + 1)) = (st ins (N ++ [some (x, y)])).1.getD (N.length + 1) false := by
      unfold evI ev
      rw [show (2 * ((N.length : Int) + 1)).toNat / 2 = N.length + 1 by omega, show (2 * ((N.length : Int) + 1)).toNat % 2 = 0 by omega]
      cases (st ins (N ++ [some (x, y)])).1.getD (N.length + 1) false <;> rfl
    rw [ei, g]
    rcases hx with ⟨rfl, rfl⟩ | ⟨rfl, rfl⟩
    · rfl
    · rw [Bool.and_comm]; rfl
theorem or_step (ins : List Bool) {N : Net} {a b : Int} (hN : Good N) (ha : hasB N.length a = true) (hb : hasB N.length b = true) :
    Step ins N (orF N a b).2 (orF N a b).1 (evI (st ins N).1 a || evI (st ins N).1 b) := by
  have ha' := has_iff.1 ha; have hb' := has_iff.1 hb
  have h := and_step ins hN (a := nt a) (b := nt b) (by rw [nt_has]; exact ha) (by rw [nt_has]; exact hb)
  refine ⟨h.ext, h.good, by unfold orF; rw [nt_has]; exact h.has, h.cnt, ?_⟩
  unfold orF
  rw [evI_nt _ (has_iff.1 h.has).1, h.val, evI_nt _ ha'.1, evI_nt _ hb'.1]
  cases evI (st ins N).1 a <;> cases evI (st ins N).1 b <;> rfl
theorem mux_step (ins : List Bool) {N : Net} {c a b : Int} (hN : Good N) (hc : hasB N.length c = true) (ha : hasB N.length a = true) (hb : hasB N.length b = true) :
    Step ins N (muxF N c a b).2 (muxF N c a b).1 (evI (st ins N).1 c && evI (st ins N).1 a || !evI (st ins N).1 c && evI (st ins N).1 b) := by
  have h1 := and_step ins hN hc ha
  have h2 := and_step ins h1.good (a := nt c) (b := b) (by rw [nt_has]; exact h1.ext.has hc) (h1.ext.has hb)
  have h3 := or_step ins h2.good (h2.ext.has h1.has) h2.has
  have e : muxF N c a b = orF (andF (andF N c a).2 (nt c) b).2 (andF N c a).1 (andF (andF N c a).2 (nt c) b).1 := by
    unfold muxF
    rw [hc, ha, hb]; rfl
  rw [e]
  refine ⟨h1.ext.trans (h2.ext.trans h3.ext), h3.good, h3.has, h3.cnt.trans (h2.cnt.trans h1.cnt), ?_⟩
  rw [h3.val, evI_ext ins h2.ext h1.has, h1.val, h2.val, evI_nt _ (has_iff.1 hc).1, evI_ext ins h1.ext hc, evI_ext ins h1.ext hb]
theorem xor_step (ins : List Bool) {N : Net} {a b : Int} (hN : Good N) (ha : hasB N.length a = true) (hb : hasB N.length b = true) :
    Step ins N (xorF N a b).2 (xorF N a b).1 (evI (st ins N).1 a != evI (st ins N).1 b) := by
  have h := mux_step ins hN ha (a := nt b) (b := b) (by rw [nt_has]; exact hb) hb
  refine ⟨h.ext, h.good, h.has, h.cnt, ?_⟩
  have := h.val
  rw [evI_nt _ (has_iff.1 hb).1] at this
  unfold xorF
  rw [this]
  cases evI (st ins N).1 a <;> cases evI (st ins N).1 b <;> rfl
/-- a net that is put there so far: what is told of each variable is what it was -/
structure Put (ins : List Bool) (p M : Net) (l : List Int) : Prop where
  len : l.length = p.length + 1
  good : Good M
  has : ∀ j, j ≤ p.length → hasB M.length (l.getD j 0) = true
  cnt : (st ins M).2 = (st ins p).2
  val : ∀ j, j ≤ p.length → evI (st ins M).1 (l.getD j 0) = (st ins p).1.getD j false
theorem snocI_l {l : List Int} {x : Int} {j : Nat} (h : j < l.length) : (l ++ [x]).getD j 0 = l.getD j 0 := by simp [List.getD, List.getElem?_append_left h]
theorem snocI_r (l : List Int) (x : Int) : (l ++ [x]).getD l.length 0 = x := by simp [List.getD]
theorem put_more {ins : List Bool} {p M M' : Net} {l : List Int} {r : Int} {x : Nd} (h : Put ins p M l) (he : Ext M M') (hg : Good M') (hr : hasB M'.length r = true)
    (hc : (st ins M').2 = (st ins (p ++ [x])).2) (hv : evI (st ins M').1 r = (st ins (p ++ [x])).1.getD (p.length + 1) false) : Put ins (p ++ [x]) M' (l ++ [r]) := by
  have hl := h.len
  refine ⟨by simp [hl], hg, fun j hj => ?_, hc, fun j hj => ?_⟩
  · rw [List.length_append, List.length_singleton] at hj
    by_cases e : j = p.length + 1
    · rw [e, ← hl, snocI_r]; exact hr
    · rw [snocI_l (by omega)]; exact he.has (h.has j (by omega))
  · rw [List.length_append, List.length_singleton] at hj
    by_cases e : j = p.length + 1
    · rw [e, ← hl, snocI_r, hv, hl]
    · rw [snocI_l (by omega), evI_ext ins he (h.has j (by omega)), h.val j (by omega), st_at ins (ext_snoc p x) (by omega)]
theorem put_lit {ins : List Bool} {p M : Net} {l : List Int} (h : Put ins p M l) {a : Nat} (ha : a ≤ 2 * p.length + 1) :
    hasB M.length (litAt l a) = true ∧ evI (st ins M).1 (litAt l a) = ev (st ins p).1 a := by
  have h1 := h.has (a / 2) (by omega)
  have h2 := h.val (a / 2) (by omega)
  unfold litAt ev
  by_cases e : a % 2 = 1
  · rw [if_pos e, nt_has, evI_nt _ (has_iff.1 h1).1, h2, e]
    exact ⟨h1, by cases (st ins p).1.getD (a / 2) false <;> rfl⟩
  · rw [if_neg e, h2, show a % 2 = 0 by omega]
    exact ⟨h1, by cases (st ins p).1.getD (a / 2) false <;> rfl⟩
theorem put_step {ins : List Bool} {p M : Net} {l : List Int} {x : Nd} (h : Put ins p M l) (hx : ∀ a b, x = some (a, b) → a ≤ 2 * p.length + 1 ∧ b ≤ 2 * p.length + 1) :
    Put ins (p ++ [x]) (copyStep (l, [], M) x).2.2 (copyStep (l, [], M) x).1 ∧ (copyStep (l, [], M) x).2.1 = [] := by
  cases x with
  | none =>
    refine ⟨?_, rfl⟩
    show Put ins (p ++ [none]) (M ++ [none]) (l ++ [2 * ((M.length : Int) + 1)])
    refine put_more h (ext_snoc M none) (good_input h.good) (has_iff.2 (by simp; omega)) (by rw [st_snoc, st_snoc]; simp [valStep, h.cnt]) ?_
    have g := st_last ins M none
    unfold evI ev
    rw [st_last, show (2 * ((M.length : Int) + 1)).toNat / 2 = M.length + 1 by omega, show (2 * ((M.length : Int) + 1)).toNat % 2 = 0 by omega, g, h.cnt]
    simp
  | some g =>
    obtain ⟨a, b⟩ := g
    obtain ⟨xa, xb⟩ := hx a b rfl
    obtain ⟨a1, a2⟩ := put_lit h xa
    obtain ⟨b1, b2⟩ := put_lit h xb
    have s := and_step ins h.good a1 b1
    refine ⟨?_, rfl⟩
    show Put ins (p ++ [some (a, b)]) (andF M (litAt l a) (litAt l b)).2 (l ++ [(andF M (litAt l a) (litAt l b)).1])
    refine put_more h s.ext s.good s.has (by rw [s.cnt, st_snoc]; exact h.cnt) ?_
    rw [st_last, s.val, a2, b2]
theorem put_nil (ins : List Bool) : Put ins [] [] [0] := by
  refine ⟨rfl, good_nil, fun j hj => ?_, rfl, fun j hj => ?_⟩
  · have hj0 : j = 0 := by simpa using hj
    subst hj0; rfl
  · have hj0 : j = 0 := by simpa using hj
    subst hj0; rfl
theorem put_all (ins : List Bool) {n : Net} (hn : Good n) : ∀ k, k ≤ n.length → Put ins (n.take k) (copyGo ([0], [], []) (n.take k)).2.2 (copyGo ([0], [], []) (n.take k)).1 ∧ (copyGo ([0], [], []) (n.take k)).2.1 = [] := by
  intro k
  induction k with
  | zero => intro _; exact ⟨put_nil ins, rfl⟩
  | succ k ih =>
    intro hk
    obtain ⟨h1, h2⟩ := ih (by omega)
    have hx : n[k]? = some n[k] := List.getElem?_eq_getElem (by omega)
    have hl : (n.take k).length = k := by rw [List.length_take]; omega
    rw [take_snoc hx]
    have e : copyGo ([0], [], []) (n.take k ++ [n[k]]) = copyStep (copyGo ([0], [], []) (n.take k)) n[k] := by unfold copyGo; rw [List.foldl_append]; rfl
    rw [e]
    generalize copyGo ([0], [], []) (n.take k) = s at h1 h2 ⊢
    obtain ⟨l, is, M⟩ := s
    simp only at h1 h2
    subst h2
    exact put_step h1 (fun a b hab => by rw [hl]; exact hn k a b (by rw [hx, hab]))
theorem copy_put (ins : List Bool) {n : Net} (hn : Good n) : Put ins n (copyF [] n []).2 (copyF [] n []).1 := by
  have h := (put_all ins hn n.length (Nat.le_refl _)).1
  rw [List.take_length] at h
  exact h
end Go.Proofs.Ytbpjflghkkkenaa.agf

/- The document's store of gates in memory: what reads it, and a new node. -/
namespace Go.Proofs.Ytbpjflghkkkenaa.aig
open Go.RowKit
open Go.Proofs.Ytbpjflghkkkenaa.mem Go.Proofs.Ytbpjflghkkkenaa.agf

/-- cells of nodes, two each -/
def nodeCells (ns : List (Int × Int)) : List Value := ns.flatMap fun p => [.int .i64 p.1, .int .i64 p.2]
theorem nodeCells_len (ns : List (Int × Int)) : (nodeCells ns).length = ns.length * 2 := by
  induction ns with
  | nil => rfl
  | cons p ns ih => simp [nodeCells] at ih ⊢; omega
theorem nodeCells_snoc (ns : List (Int × Int)) (a b : Int) : nodeCells ns ++ [.int .i64 a, .int .i64 b] = nodeCells (ns ++ [(a, b)]) := by simp [nodeCells]
theorem nodeCells_at : ∀ (ns : List (Int × Int)) (i : Nat), i < ns.length → (nodeCells ns)[i * 2]? = some (.int .i64 (ns.getD i (0, 0)).1) ∧ (nodeCells ns)[i * 2 + 1]? = some (.int .i64 (ns.getD i (0, 0)).2) := by
  intro ns
  induction ns with
  | nil => intro i h; simp at h
  | cons p ns ih =>
    intro i h
    have e : nodeCells (p :: ns) = .int .i64 p.1 :: .int .i64 p.2 :: nodeCells ns := rfl
    cases i with
    | zero => rw [e]; exact ⟨rfl, rfl⟩
    | succ i =>
      obtain ⟨h1, h2⟩ := ih i (by simpa using h)
      rw [e, show (i + 1) * 2 = i * 2 + 1 + 1 by omega]
      simp only [List.getElem?_cons_succ]
      exact ⟨by simpa [List.getD] using h1, by simpa [List.getD] using h2⟩
/-- a node as the document's store writes it -/
def conc : Nd → Int × Int
  | none => (-1, 0)
  | some (a, b) => ((a : Int), (b : Int))
/-- the document's store at h -/
structure Rs (A B : Nat) (w : World) (h : Nat) (sv : Value) (N : Net) : Prop where
  one : One w h sv
  row : w.ownsRow B 42 2 sv N.length (nodeCells (N.map conc))
  lay : A ≤ h ∧ h < B ∧ B ≤ w.heap.size
section
variable {A B : Nat} {w w' : World} {h : Nat} {sv : Value} {N : Net}
theorem Rs.on (s : Rs A B w h sv N) (hb : Below w.heap.size w w') : Rs A B w' h sv N :=
  ⟨s.one.on hb s.one.lt, own_on s.row hb, s.lay.1, s.lay.2.1, Nat.le_trans s.lay.2.2 hb.size⟩
theorem Rs.form (s : Rs A B w h sv N) : ∃ a c, sv = .slice a N.length c := by
  rcases s.row.2 with ⟨e, e2⟩ | ⟨t, c, cur, e, -⟩
  · exact ⟨none, 0, by rw [e, e2]⟩
  · exact ⟨_, _, e⟩
theorem Rs.at_ (s : Rs A B w h sv N) {i : Nat} (hi : i < N.length) : ∃ t c, sv = .slice (some ⟨t, 0, none⟩) N.length c ∧
    w.cell? ⟨t, i * 2, none⟩ = some (.int .i64 ((N.map conc).getD i (0, 0)).1) ∧ w.cell? ⟨t, i * 2 + 1, none⟩ = some (.int .i64 ((N.map conc).getD i (0, 0)).2) := by
  obtain ⟨t, c, rfl, -, -⟩ := s.row.form (by omega)
  obtain ⟨h1, h2⟩ := nodeCells_at (N.map conc) i (by rw [List.length_map]; exact hi)
  exact ⟨t, c, rfl, by rw [s.row.cellAt _ (by omega), h1], by rw [s.row.cellAt _ (by omega), h2]⟩
end
end Go.Proofs.Ytbpjflghkkkenaa.aig
