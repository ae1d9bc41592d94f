import Derived.Test.YtbpjflghkkkenaaMg8
import Derived.Deep.RegionLaw
/- The walk of the document's put: a new node. -/
namespace Go.Proofs.Ytbpjflghkkkenaa.aig
open Go.RowKit
open Go.Proofs.Ytbpjflghkkkenaa.mem Go.Proofs.Ytbpjflghkkkenaa.agf

/-- w' is as w was, but for blocks of P, and what is new -/
structure Only (P : Nat → Prop) (w w' : World) : Prop where
  os : w'.os = w.os
  tape : w'.tape = w.tape
  output : w'.output = w.output
  size : w.heap.size ≤ w'.heap.size
  block : ∀ k, k < w.heap.size → ¬ P k → w'.heap[k]? = w.heap[k]?
/-- what owned the blocks of P owns those of P' now: of the old ones no others -/
structure Moved (P P' : Nat → Prop) (w w' : World) : Prop where
  only : Only P w w'
  own : ∀ k, P' k → P k ∨ w.heap.size ≤ k
theorem Moved.refl (P : Nat → Prop) (w : World) : Moved P P w w := ⟨⟨rfl, rfl, rfl, Nat.le_refl _, fun _ _ _ => rfl⟩, fun _ h => .inl h⟩
theorem Moved.trans {P P' P'' : Nat → Prop} {a b c : World} (h : Moved P P' a b) (k : Moved P' P'' b c) : Moved P P'' a c := by
  refine ⟨⟨k.only.os.trans h.only.os, k.only.tape.trans h.only.tape, k.only.output.trans h.only.output, Nat.le_trans h.only.size k.only.size, fun i hi hn => ?_⟩, fun i hi => ?_⟩
  · have hs := h.only.size
    refine (k.only.block i (by omega) (fun hp => ?_)).trans (h.only.block i hi hn)
    rcases h.own i hp with e | e
    · exact hn e
    · omega
  · rcases k.own i hi with e | e
    · exact h.own i e
    · exact .inr (Nat.le_trans h.only.size e)
theorem Moved.below {P P' : Nat → Prop} {w w' : World} {A : Nat} (h : Moved P P' w w') (hA : ∀ k, P k → A ≤ k) (hs : A ≤ w.heap.size) : Below A w w' :=
  ⟨h.only.os, h.only.tape, h.only.output, h.only.size, fun k hk => h.only.block k (by omega) (fun hp => by have := hA k hp; omega)⟩
theorem moved_of_below {P : Nat → Prop} {w w' : World} (h : Below w.heap.size w w') : Moved P P w w' := ⟨⟨h.os, h.tape, h.output, h.size, fun k hk _ => h.block k hk⟩, fun _ h => .inl h⟩
/-- the blocks of the document's store -/
def ROwn (h : Nat) (sv : Value) (k : Nat) : Prop := k = h ∨ sv.ownBlock = some k
theorem Rs.ge {A B : Nat} {w : World} {h : Nat} {sv : Value} {N : Net} (s : Rs A B w h sv N) : ∀ k, ROwn h sv k → A ≤ k ∧ k < w.heap.size := by
  intro k hk
  have l1 := s.lay; have l2 := s.one.lt
  rcases hk with rfl | e
  · exact ⟨l1.1, l2⟩
  · have := s.row.lt k e; omega
/-- what the store's blocks are left alone by leaves the store -/
theorem Rs.only {A B : Nat} {w w' : World} {h : Nat} {sv : Value} {N : Net} {P : Nat → Prop} (s : Rs A B w h sv N) (o : Only P w w') (hp : ∀ k, ROwn h sv k → ¬ P k) : Rs A B w' h sv N := by
  refine ⟨?_, ?_, s.lay.1, s.lay.2.1, Nat.le_trans s.lay.2.2 o.size⟩
  · obtain ⟨t, e⟩ := s.one
    exact ⟨t, (o.block h s.one.lt (hp h (.inl rfl))).trans e⟩
  · obtain ⟨e1, e2⟩ := s.row
    refine ⟨e1, ?_⟩
    rcases e2 with e2 | ⟨g, cap, cur, rfl, h1, h2, h3⟩
    · exact .inl e2
    · exact .inr ⟨g, cap, cur, rfl, h1, (o.block g (Array.getElem?_eq_some_iff.1 h2).1 (hp g (.inr rfl))).trans h2, h3⟩
theorem infoN : (Try.prog.info? 42).map (fun i => (i.zero, i.size, i.bytes)) = some (some (.agg #[.int .i64 0, .int .i64 0]), 2, 16) := by kernel_rfl
/-- how a step leaves the document's store -/
def RStep (A B h : Nat) (sv : Value) (r : Int) (M : Net) (w : World) (e : Ending) (w' : World) : Prop :=
  ∃ sv', e = .returned (.int .i64 r) ∧ Rs A B w' h sv' M ∧ Moved (ROwn h sv) (ROwn h sv') w w'
theorem conc_cell (x : Nd) : ∀ u ∈ ([.int .i64 (conc x).1, .int .i64 (conc x).2] : List Value), u.oneCell' = true := by
  intro u hu
  simp at hu
  rcases hu with rfl | rfl <;> rfl
theorem refPut_end {A B h t c : Nat} {sv : Value} {N : Net} {x : Nd} {w w1 w2 : World} (s : Rs A B w h sv N) (hb : Below w.heap.size w w1)
    (hown : w2.ownsRow B 42 2 (.slice (some ⟨t, 0, none⟩) (N.length + 1) c) (N.length + 1) (nodeCells (N.map conc) ++ [.int .i64 (conc x).1, .int .i64 (conc x).2]))
    (hg : w1.grownBy w2 sv.ownBlock) (hat : sv.ownBlock = some t ∨ w.heap.size ≤ t) :
    Rs A B (w2.setCell ⟨h, 0, none⟩ (.slice (some ⟨t, 0, none⟩) (N.length + 1) c)) h (.slice (some ⟨t, 0, none⟩) (N.length + 1) c) (N ++ [x]) ∧
      Moved (ROwn h sv) (ROwn h (.slice (some ⟨t, 0, none⟩) (N.length + 1) c)) w (w2.setCell ⟨h, 0, none⟩ (.slice (some ⟨t, 0, none⟩) (N.length + 1) c)) := by
  have hlt := s.one.lt
  have hne := own_ne s.row s.lay.2.1
  have h1 := ((s.one.on hb hlt).grown hg hne).set (x' := .slice (some ⟨t, 0, none⟩) (N.length + 1) c)
  have hs := grownBy_set w2 h 0 (.slice (some ⟨t, 0, none⟩) (N.length + 1) c)
  have l := s.lay
  have z1 := hb.size; have z2 := hg.size; have z3 := hs.size
  rw [nodeCells_snoc] at hown
  have hr := hown.kept hs (own_apart hown l.2.1)
  refine ⟨⟨h1, ?_, l.1, l.2.1, by omega⟩, ⟨?_, ?_, ?_, by omega, fun k hk hn => ?_⟩, fun k hk => ?_⟩
  · rw [List.length_append, List.length_singleton, List.map_append]
    exact hr
  · exact hs.os.trans (hg.os.trans hb.os)
  · exact hs.tape.trans (hg.tape.trans hb.tape)
  · exact hs.output.trans (hg.output.trans hb.output)
  · rw [hs.block k (by omega) (fun e => hn (.inl (Option.some.inj e))), hg.block k (by omega) (fun e => hn (.inr e.symm)), hb.block k hk]
  · rcases hk with rfl | e
    · exact .inl (.inl rfl)
    · have e1 : k = t := by simpa [Value.ownBlock] using e.symm
      subst e1
      rcases hat with e2 | e2
      · exact .inl (.inr e2)
      · exact .inr e2
end Go.Proofs.Ytbpjflghkkkenaa.aig

/- The walk of the document's And. -/
namespace Go.Proofs.Ytbpjflghkkkenaa.aig
open Go.RowKit
open Go.Proofs.Ytbpjflghkkkenaa.mem Go.Proofs.Ytbpjflghkkkenaa.agf

theorem seek_first {N : Net} {g : Nat × Nat} {k : Nat} (h : N[k]? = some (some g)) (hj : ∀ j, j < k → N[j]? ≠ some (some g)) : seek N g = some k := by
  obtain ⟨h1, h2⟩ := List.getElem?_eq_some_iff.1 h
  refine List.findIdx?_eq_some_iff_getElem.2 ⟨h1, by rw [h2]; simp, fun j hjk => ?_⟩
  have := hj j hjk
  rw [List.getElem?_eq_getElem (by omega)] at this
  simpa using this
theorem seek_never {N : Net} {g : Nat × Nat} (hj : ∀ j, j < N.length → N[j]? ≠ some (some g)) : seek N g = none := by
  refine List.findIdx?_eq_none_iff.2 fun x hx => ?_
  obtain ⟨j, h1, rfl⟩ := List.getElem_of_mem hx
  have := hj j h1
  rw [List.getElem?_eq_getElem h1] at this
  simpa using this
/-- whether a node is the gate of x and y -/
theorem conc_is {N : Net} {k x y : Nat} (hk : k < N.length) : (((N.map conc).getD k (0, 0)).1 = (x : Int) ∧ ((N.map conc).getD k (0, 0)).2 = (y : Int)) ↔ N[k]? = some (some (x, y)) := by
  have e : (N.map conc).getD k (0, 0) = conc N[k] := by simp [List.getD, hk]
  rw [e, List.getElem?_eq_getElem hk]
  cases hn : N[k] with
  | none => simp [conc]
  | some g => obtain ⟨a, b⟩ := g; simp [conc]; omega
/-- what And does once it is past its first tests -/
theorem andF_put {N : Net} {a b : Int} (ha : hasB N.length a = true) (hb : hasB N.length b = true) (h0 : ¬ (a = 0 ∨ b = 0 ∨ a = nt b)) (h1 : ¬ (a = 1 ∨ a = b)) (h2 : ¬ b = 1) :
    andF N a b = putG N (min a b).toNat (max a b).toNat := by
  unfold andF
  rw [ha, hb]
  simp only [Bool.and_self, if_true]
  rw [if_neg h0, if_neg h1, if_neg h2]
theorem andF_no {N : Net} {a b : Int} (h : hasB N.length a = false ∨ hasB N.length b = false) : andF N a b = (-1, N) := by
  unfold andF
  rcases h with h | h <;> rw [h] <;> simp
theorem andF_zero {N : Net} {a b : Int} (ha : hasB N.length a = true) (hb : hasB N.length b = true) (h0 : a = 0 ∨ b = 0 ∨ a = nt b) : andF N a b = (0, N) := by
  unfold andF
  rw [ha, hb]
  simp only [Bool.and_self, if_true]
  rw [if_pos h0]
theorem andF_right {N : Net} {a b : Int} (ha : hasB N.length a = true) (hb : hasB N.length b = true) (h0 : ¬ (a = 0 ∨ b = 0 ∨ a = nt b)) (h1 : a = 1 ∨ a = b) : andF N a b = (b, N) := by
  unfold andF
  rw [ha, hb]
  simp only [Bool.and_self, if_true]
  rw [if_neg h0, if_pos h1]
theorem andF_left {N : Net} {a b : Int} (ha : hasB N.length a = true) (hb : hasB N.length b = true) (h0 : ¬ (a = 0 ∨ b = 0 ∨ a = nt b)) (h1 : ¬ (a = 1 ∨ a = b)) (h2 : b = 1) : andF N a b = (a, N) := by
  unfold andF
  rw [ha, hb]
  simp only [Bool.and_self, if_true]
  rw [if_neg h0, if_neg h1, if_pos h2]
theorem RStep.same {A B h : Nat} {sv : Value} {r : Int} {N M : Net} {w : World} (s : Rs A B w h sv N) (hM : M = N) : RStep A B h sv r M w (.returned (.int .i64 r)) w :=
  ⟨sv, rfl, hM ▸ s, Moved.refl _ _⟩
end Go.Proofs.Ytbpjflghkkkenaa.aig

/- The walks of the document's Or, Mux and Xor. -/
namespace Go.Proofs.Ytbpjflghkkkenaa.aig
open Go.RowKit
open Go.Proofs.Ytbpjflghkkkenaa.mem Go.Proofs.Ytbpjflghkkkenaa.agf

theorem and_len (N : Net) (a b : Int) : (andF N a b).2.length ≤ N.length + 1 ∧ N.length ≤ (andF N a b).2.length ∧ -1 ≤ (andF N a b).1 ∧ (andF N a b).1 ≤ 2 * ((andF N a b).2.length : Int) + 1 := by
  by_cases hh : hasB N.length a = true ∧ hasB N.length b = true
  · have h := and_way hh.1 hh.2
    obtain ⟨e1, e2⟩ := and_ext hh.1 hh.2
    have e3 := has_iff.1 e2
    have e4 := e1.len
    refine ⟨?_, e4, by omega, e3.2⟩
    generalize (andF N a b).1 = r at h
    generalize (andF N a b).2 = M at h ⊢
    cases h with
    | zero h => omega
    | right h => omega
    | left h => omega
    | there i x y hx hi h => omega
    | fresh x y hx lo lt hi h => simp
  · have hn : hasB N.length a = false ∨ hasB N.length b = false := by
      cases h1 : hasB N.length a
      · exact .inl rfl
      · cases h2 : hasB N.length b
        · exact .inr rfl
        · exact absurd ⟨h1, h2⟩ hh
    rw [andF_no hn]
    exact ⟨Nat.le_succ _, Nat.le_refl _, Int.le_refl _, by show (-1 : Int) ≤ 2 * (N.length : Int) + 1; omega⟩
theorem nt_bd {l : Int} {m : Nat} (h : -1 ≤ l ∧ l ≤ 2 * (m : Int) + 1) : -1 ≤ nt l ∧ nt l ≤ 2 * (m : Int) + 1 := by
  unfold nt; split
  · omega
  · split <;> omega
theorem or_len (N : Net) (a b : Int) : (orF N a b).2.length ≤ N.length + 1 ∧ N.length ≤ (orF N a b).2.length ∧ -1 ≤ (orF N a b).1 ∧ (orF N a b).1 ≤ 2 * ((orF N a b).2.length : Int) + 1 := by
  obtain ⟨h1, h2, h3, h4⟩ := and_len N (nt a) (nt b)
  obtain ⟨h5, h6⟩ := nt_bd ⟨h3, h4⟩
  exact ⟨h1, h2, h5, h6⟩
theorem mux_len (N : Net) (c a b : Int) : (muxF N c a b).2.length ≤ N.length + 3 ∧ N.length ≤ (muxF N c a b).2.length ∧ -1 ≤ (muxF N c a b).1 ∧ (muxF N c a b).1 ≤ 2 * ((muxF N c a b).2.length : Int) + 1 := by
  unfold muxF
  split
  · obtain ⟨h1, h2, -, -⟩ := and_len N c a
    obtain ⟨k1, k2, -, -⟩ := and_len (andF N c a).2 (nt c) b
    obtain ⟨l1, l2, l3, l4⟩ := or_len (andF (andF N c a).2 (nt c) b).2 (andF N c a).1 (andF (andF N c a).2 (nt c) b).1
    exact ⟨Nat.le_trans l1 (by omega), Nat.le_trans (by omega) l2, l3, l4⟩
  · exact ⟨Nat.le_add_right _ _, Nat.le_refl _, Int.le_refl _, by show (-1 : Int) ≤ 2 * (N.length : Int) + 1; omega⟩
def In64 (a : Int) : Prop := -9223372036854775808 ≤ a ∧ a ≤ 9223372036854775807
theorem nt_in {a : Int} (h : In64 a) : In64 (nt a) := by
  unfold In64 nt at *
  split
  · omega
  · split <;> omega
theorem RStep.trans {A B h : Nat} {sv sv1 : Value} {r : Int} {M : Net} {w w1 w2 : World} {e : Ending} (h1 : Moved (ROwn h sv) (ROwn h sv1) w w1) (k : RStep A B h sv1 r M w1 e w2) : RStep A B h sv r M w e w2 := by
  obtain ⟨sv', e1, e2, e3⟩ := k
  exact ⟨sv', e1, e2, h1.trans e3⟩
theorem muxF_no {N : Net} {c a b : Int} (h : hasB N.length c = false ∨ hasB N.length a = false ∨ hasB N.length b = false) : muxF N c a b = (-1, N) := by
  unfold muxF
  rcases h with h | h | h <;> rw [h] <;> simp
theorem muxF_yes {N : Net} {c a b : Int} (hc : hasB N.length c = true) (ha : hasB N.length a = true) (hb : hasB N.length b = true) :
    muxF N c a b = orF (andF (andF N c a).2 (nt c) b).2 (andF N c a).1 (andF (andF N c a).2 (nt c) b).1 := by
  unfold muxF
  rw [hc, ha, hb]; rfl
end Go.Proofs.Ytbpjflghkkkenaa.aig
