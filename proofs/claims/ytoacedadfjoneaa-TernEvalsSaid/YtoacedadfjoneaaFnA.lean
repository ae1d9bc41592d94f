/- A store of gates, purely: what is put to it, what is told, and what its literals are. -/
import Derived.PlainAid
import Derived.Lib.Hide
namespace Go.Proofs.Ytoacedadfjoneaa.agf

/-- a node: an input, or a gate of two literals -/
abbrev Nd := Option (Nat × Nat)
abbrev Net := List Nd
/-- whether l is a literal of a store of m nodes -/
def hasB (m : Nat) (l : Int) : Bool := decide (0 ≤ l) && decide (l ≤ 2 * (m : Int) + 1)
theorem has_iff {m : Nat} {l : Int} : hasB m l = true ↔ 0 ≤ l ∧ l ≤ 2 * (m : Int) + 1 := by simp [hasB]
theorem has_no {m : Nat} {l : Int} : hasB m l = false ↔ ¬ (0 ≤ l ∧ l ≤ 2 * (m : Int) + 1) := by
  rw [← has_iff]; cases hasB m l <;> simp
/-- Not of a literal; of none it -/
def nt (l : Int) : Int := if l < 0 then l else if l % 2 = 1 then l - 1 else l + 1
theorem nt_has (m : Nat) (l : Int) : hasB m (nt l) = hasB m l := by
  rw [Bool.eq_iff_iff, has_iff, has_iff]
  unfold nt
  split
  · exact Iff.rfl
  · split <;> omega
/-- where a gate is -/
def seek (N : Net) (g : Nat × Nat) : Option Nat := N.findIdx? (· == some g)
theorem seek_some {N : Net} {g : Nat × Nat} {i : Nat} (h : seek N g = some i) : i < N.length ∧ N[i]? = some (some g) := by
  obtain ⟨h1, h2, -⟩ := List.findIdx?_eq_some_iff_getElem.1 h
  refine ⟨h1, ?_⟩
  rw [List.getElem?_eq_getElem h1]
  have : N[i] = some g := by simpa using h2
  rw [this]
theorem seek_none {N : Net} {g : Nat × Nat} (h : seek N g = none) (i : Nat) : N[i]? ≠ some (some g) := by
  intro e
  obtain ⟨h1, h2⟩ := List.getElem?_eq_some_iff.1 e
  have := List.findIdx?_eq_none_iff.1 h _ (List.getElem_mem h1)
  rw [h2] at this
  simp at this
def putG (N : Net) (x y : Nat) : Int × Net :=
  match seek N (x, y) with
  | some i => (2 * ((i : Int) + 1), N)
  | none => (2 * ((N.length : Int) + 1), N ++ [some (x, y)])
def inF (N : Net) : Int × Net := (2 * ((N.length : Int) + 1), N ++ [none])
def andF (N : Net) (a b : Int) : Int × Net :=
  if hasB N.length a && hasB N.length b then
    if a = 0 ∨ b = 0 ∨ a = nt b then (0, N)
    else if a = 1 ∨ a = b then (b, N)
    else if b = 1 then (a, N)
    else putG N (min a b).toNat (max a b).toNat
  else (-1, N)
def orF (N : Net) (a b : Int) : Int × Net := let r := andF N (nt a) (nt b); (nt r.1, r.2)
def muxF (N : Net) (c a b : Int) : Int × Net :=
  if hasB N.length c && hasB N.length a && hasB N.length b then
    let x := andF N c a
    let y := andF x.2 (nt c) b
    orF y.2 x.1 y.1
  else (-1, N)
def xorF (N : Net) (a b : Int) : Int × Net := muxF N a (nt b) b
def allHas (m : Nat) (l : List Int) : Bool := l.all (hasB m)
def allGo (s : Int × Net) (l : List Int) : Int × Net := l.foldl (fun s x => andF s.2 s.1 x) s
def allF (N : Net) (l : List Int) : Int × Net := if allHas N.length l then allGo (1, N) l else (-1, N)
/-- of a net's node: its literals there -/
def litAt (at_ : List Int) (l : Nat) : Int := if l % 2 = 1 then nt (at_.getD (l / 2) 0) else at_.getD (l / 2) 0
/-- one node more of a net that is put there: (what is told so far, the inputs' literals that are left, the store) -/
def copyStep (s : List Int × List Int × Net) (x : Nd) : List Int × List Int × Net :=
  match x with
  | some (a, b) => let r := andF s.2.2 (litAt s.1 a) (litAt s.1 b); (s.1 ++ [r.1], s.2.1, r.2)
  | none => match s.2.1 with
    | i :: is => (s.1 ++ [i], is, s.2.2)
    | [] => let r := inF s.2.2; (s.1 ++ [r.1], [], r.2)
def copyGo (s : List Int × List Int × Net) (n : Net) : List Int × List Int × Net := n.foldl copyStep s
def copyF (N : Net) (n : Net) (ins : List Int) : List Int × Net :=
  if allHas N.length ins then let r := copyGo ([0], ins, N) n; (r.1, r.2.2) else ([], N)

/-- a net whose gates hang on what is ahead of them -/
def Good (N : Net) : Prop := ∀ i a b : Nat, N[i]? = some (some (a, b)) → a ≤ 2 * i + 1 ∧ b ≤ 2 * i + 1
/-- no gate is folded, or there twice -/
structure Tidy (N : Net) : Prop where
  good : Good N
  lo : ∀ i a b : Nat, N[i]? = some (some (a, b)) → 2 ≤ a ∧ a / 2 < b / 2
  once : ∀ i k a b : Nat, N[i]? = some (some (a, b)) → N[k]? = some (some (a, b)) → i = k
theorem snoc_at {N : Net} {x : Nd} {i : Nat} : (N ++ [x])[i]? = if i < N.length then N[i]? else if i = N.length then some x else none := by
  by_cases h : i < N.length
  · rw [if_pos h, List.getElem?_append_left h]
  · rw [if_neg h, List.getElem?_append_right (by omega)]
    by_cases e : i = N.length
    · rw [if_pos e, e, Nat.sub_self]; rfl
    · rw [if_neg e, List.getElem?_eq_none (by simp; omega)]
theorem snoc_gate {N : Net} {x : Nd} {i : Nat} {g : Nat × Nat} (h : (N ++ [x])[i]? = some (some g)) : (i < N.length ∧ N[i]? = some (some g)) ∨ (i = N.length ∧ x = some g) := by
  rw [snoc_at] at h
  by_cases h1 : i < N.length
  · rw [if_pos h1] at h; exact .inl ⟨h1, h⟩
  · rw [if_neg h1] at h
    by_cases e : i = N.length
    · rw [if_pos e] at h; exact .inr ⟨e, Option.some.inj h⟩
    · rw [if_neg e] at h; cases h
theorem good_nil : Good [] := fun i a b h => by simp at h
theorem tidy_nil : Tidy [] := ⟨good_nil, fun i a b h => by simp at h, fun i k a b h => by simp at h⟩
theorem good_input {N : Net} (h : Good N) : Good (N ++ [none]) := by
  intro i a b hi
  rcases snoc_gate hi with ⟨-, e⟩ | ⟨-, e⟩
  · exact h i a b e
  · cases e
theorem tidy_input {N : Net} (h : Tidy N) : Tidy (N ++ [none]) := by
  refine ⟨good_input h.good, fun i a b hi => ?_, fun i k a b hi hk => ?_⟩
  · rcases snoc_gate hi with ⟨-, e⟩ | ⟨-, e⟩
    · exact h.lo i a b e
    · cases e
  · rcases snoc_gate hi with ⟨-, e⟩ | ⟨-, e⟩
    · rcases snoc_gate hk with ⟨-, e'⟩ | ⟨-, e'⟩
      · exact h.once i k a b e e'
      · cases e'
    · cases e
/-- what stays as a store grows -/
def Ext (N M : Net) : Prop := ∃ r, M = N ++ r
theorem Ext.refl (N : Net) : Ext N N := ⟨[], by simp⟩
theorem Ext.trans {A B C : Net} (h : Ext A B) (k : Ext B C) : Ext A C := by
  obtain ⟨r, rfl⟩ := h; obtain ⟨q, rfl⟩ := k; exact ⟨r ++ q, by simp⟩
theorem ext_snoc (N : Net) (x : Nd) : Ext N (N ++ [x]) := ⟨[x], rfl⟩
theorem Ext.len {N M : Net} (h : Ext N M) : N.length ≤ M.length := by obtain ⟨r, rfl⟩ := h; simp
theorem Ext.has {N M : Net} (h : Ext N M) {l : Int} (hl : hasB N.length l = true) : hasB M.length l = true := by
  have := h.len
  rw [has_iff] at hl ⊢; omega

/-- And's ways -/
inductive AndWay (N : Net) (a b : Int) : Int → Net → Prop
  | zero (h : a = 0 ∨ b = 0 ∨ a = nt b) : AndWay N a b 0 N
  | right (h : a = 1 ∨ a = b) : AndWay N a b b N
  | left (h : b = 1) : AndWay N a b a N
  | there (i : Nat) (x y : Nat) (hx : ((x : Int) = a ∧ (y : Int) = b) ∨ ((x : Int) = b ∧ (y : Int) = a)) (hi : i < N.length) (h : N[i]? = some (some (x, y))) : AndWay N a b (2 * ((i : Int) + 1)) N
  | fresh (x y : Nat) (hx : ((x : Int) = a ∧ (y : Int) = b) ∨ ((x : Int) = b ∧ (y : Int) = a)) (lo : 2 ≤ x) (lt : x / 2 < y / 2) (hi : y ≤ 2 * N.length + 1) (h : ∀ i : Nat, N[i]? ≠ some (some (x, y))) :
      AndWay N a b (2 * ((N.length : Int) + 1)) (N ++ [some (x, y)])
theorem and_way {N : Net} {a b : Int} (ha : hasB N.length a = true) (hb : hasB N.length b = true) : AndWay N a b (andF N a b).1 (andF N a b).2 := by
  unfold andF
  rw [ha, hb]
  simp only [Bool.and_self, if_true]
  rw [has_iff] at ha hb
  split
  · next h => exact .zero h
  · next h0 =>
    split
    · next h => exact .right h
    · next h1 =>
      split
      · next h => exact .left h
      · next h2 =>
        obtain ⟨x, hx⟩ : ∃ x, x = (min a b).toNat := ⟨_, rfl⟩
        obtain ⟨y, hy⟩ : ∃ y, y = (max a b).toNat := ⟨_, rfl⟩
        rw [← hx, ← hy]
        have hxy : ((x : Int) = a ∧ (y : Int) = b) ∨ ((x : Int) = b ∧ (y : Int) = a) := by omega
        have hle : x ≤ y := by omega
        unfold putG
        cases hs : seek N (x, y) with
        | some i => exact .there i x y hxy (seek_some hs).1 (seek_some hs).2
        | none =>
          refine .fresh x y hxy ?_ ?_ ?_ (seek_none hs)
          · omega
          · unfold nt at h0
            split at h0
            · omega
            · split at h0 <;> omega
          · omega
theorem and_ext {N : Net} {a b : Int} (ha : hasB N.length a = true) (hb : hasB N.length b = true) : Ext N (andF N a b).2 ∧ hasB (andF N a b).2.length (andF N a b).1 = true := by
  have h := and_way ha hb
  generalize (andF N a b).1 = r at h ⊢
  generalize (andF N a b).2 = M at h ⊢
  have ha' := has_iff.1 ha; have hb' := has_iff.1 hb
  cases h with
  | zero h => exact ⟨Ext.refl _, has_iff.2 (by omega)⟩
  | right h => exact ⟨Ext.refl _, hb⟩
  | left h => exact ⟨Ext.refl _, ha⟩
  | there i x y hx hi h => exact ⟨Ext.refl _, has_iff.2 (by omega)⟩
  | fresh x y hx lo lt hi h => exact ⟨ext_snoc _ _, has_iff.2 (by simp; omega)⟩
theorem and_tidy {N : Net} {a b : Int} (hN : Tidy N) : Tidy (andF N a b).2 := by
  by_cases hh : hasB N.length a = true ∧ hasB N.length b = true
  · have h := and_way hh.1 hh.2
    generalize (andF N a b).1 = r at h ⊢
    generalize (andF N a b).2 = M at h ⊢
    cases h with
    | zero h => exact hN
    | right h => exact hN
    | left h => exact hN
    | there i x y hx hi h => exact hN
    | fresh x y hx lo lt hi h =>
      refine ⟨fun i a b hi' => ?_, fun i a b hi' => ?_, fun i k a b h1 h2 => ?_⟩
      · rcases snoc_gate hi' with ⟨-, e⟩ | ⟨e1, e⟩
        · exact hN.good i a b e
        · cases e; omega
      · rcases snoc_gate hi' with ⟨-, e⟩ | ⟨e1, e⟩
        · exact hN.lo i a b e
        · cases e; exact ⟨lo, lt⟩
      · rcases snoc_gate h1 with ⟨-, e⟩ | ⟨e1, e⟩
        · rcases snoc_gate h2 with ⟨-, e'⟩ | ⟨e1', e'⟩
          · exact hN.once i k a b e e'
          · cases e'; exact absurd e (h i)
        · rcases snoc_gate h2 with ⟨-, e'⟩ | ⟨e1', e'⟩
          · cases e; exact absurd e' (h k)
          · omega
  · have : andF N a b = (-1, N) := by
      unfold andF
      rw [if_neg (by simpa using hh)]
    rw [this]; exact hN
end Go.Proofs.Ytoacedadfjoneaa.agf
