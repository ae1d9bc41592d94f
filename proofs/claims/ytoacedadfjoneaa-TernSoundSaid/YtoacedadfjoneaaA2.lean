/- The walk of the document's put: a new node. -/
import Derived.Test.YtoacedadfjoneaaA1
import Derived.Deep.RegionLaw
namespace Go.Proofs.Ytoacedadfjoneaa.aig
open Go.RowKit
open Go.Proofs.Ytoacedadfjoneaa.mem Go.Proofs.Ytoacedadfjoneaa.agf

/-- w' is as w was, but for blocks of P, and what is new -/
structure Only (P : Nat → Prop) (w w' : World) : Prop where
  os : w'.os = w.os
  tape : w'.tape = w.tape
  output : w'.output = w.output
  size : w.heap.size ≤ w'.heap.size
  block : ∀ k, k < w.heap.size → ¬ P k → w'.heap[k]? = w.heap[k]?
/-- what owned the blocks of P owns those of P' now: of the old ones no others -/
structure Moved (P P' : Nat → Prop) (w w' : World) : Prop where
  only : Only P w w'
  own : ∀ k, P' k → P k ∨ w.heap.size ≤ k
theorem Moved.refl (P : Nat → Prop) (w : World) : Moved P P w w := ⟨⟨rfl, rfl, rfl, Nat.le_refl _, fun _ _ _ => rfl⟩, fun _ h => .inl h⟩
theorem Moved.trans {P P' P'' : Nat → Prop} {a b c : World} (h : Moved P P' a b) (k : Moved P' P'' b c) : Moved P P'' a c := by
  refine ⟨⟨k.only.os.trans h.only.os, k.only.tape.trans h.only.tape, k.only.output.trans h.only.output, Nat.le_trans h.only.size k.only.size, fun i hi hn => ?_⟩, fun i hi => ?_⟩
  · have hs := h.only.size
    refine (k.only.block i (by omega) (fun hp => ?_)).trans (h.only.block i hi hn)
    rcases h.own i hp with e | e
    · exact hn e
    · omega
  · rcases k.own i hi with e | e
    · exact h.own i e
    · exact .inr (Nat.le_trans h.only.size e)
theorem Moved.below {P P' : Nat → Prop} {w w' : World} {A : Nat} (h : Moved P P' w w') (hA : ∀ k, P k → A ≤ k) (hs : A ≤ w.heap.size) : Below A w w' :=
  ⟨h.only.os, h.only.tape, h.only.output, h.only.size, fun k hk => h.only.block k (by omega) (fun hp => by have := hA k hp; omega)⟩
theorem moved_of_below {P : Nat → Prop} {w w' : World} (h : Below w.heap.size w w') : Moved P P w w' := ⟨⟨h.os, h.tape, h.output, h.size, fun k hk _ => h.block k hk⟩, fun _ h => .inl h⟩
/-- the blocks of the document's store -/
def ROwn (h : Nat) (sv : Value) (k : Nat) : Prop := k = h ∨ sv.ownBlock = some k
theorem Rs.ge {A B : Nat} {w : World} {h : Nat} {sv : Value} {N : Net} (s : Rs A B w h sv N) : ∀ k, ROwn h sv k → A ≤ k ∧ k < w.heap.size := by
  intro k hk
  have l1 := s.lay; have l2 := s.one.lt
  rcases hk with rfl | e
  · exact ⟨l1.1, l2⟩
  · have := s.row.lt k e; omega
/-- what the store's blocks are left alone by leaves the store -/
theorem Rs.only {A B : Nat} {w w' : World} {h : Nat} {sv : Value} {N : Net} {P : Nat → Prop} (s : Rs A B w h sv N) (o : Only P w w') (hp : ∀ k, ROwn h sv k → ¬ P k) : Rs A B w' h sv N := by
  refine ⟨?_, ?_, s.lay.1, s.lay.2.1, Nat.le_trans s.lay.2.2 o.size⟩
  · obtain ⟨t, e⟩ := s.one
    exact ⟨t, (o.block h s.one.lt (hp h (.inl rfl))).trans e⟩
  · obtain ⟨e1, e2⟩ := s.row
    refine ⟨e1, ?_⟩
    rcases e2 with e2 | ⟨g, cap, cur, rfl, h1, h2, h3⟩
    · exact .inl e2
    · exact .inr ⟨g, cap, cur, rfl, h1, (o.block g (Array.getElem?_eq_some_iff.1 h2).1 (hp g (.inr rfl))).trans h2, h3⟩
theorem infoN : (Try.prog.info? 40).map (fun i => (i.zero, i.size, i.bytes)) = some (some (.agg #[.int .i64 0, .int .i64 0]), 2, 16) := by kernel_rfl
/-- how a step leaves the document's store -/
def RStep (A B h : Nat) (sv : Value) (r : Int) (M : Net) (w : World) (e : Ending) (w' : World) : Prop :=
  ∃ sv', e = .returned (.int .i64 r) ∧ Rs A B w' h sv' M ∧ Moved (ROwn h sv) (ROwn h sv') w w'
theorem conc_cell (x : Nd) : ∀ u ∈ ([.int .i64 (conc x).1, .int .i64 (conc x).2] : List Value), u.oneCell' = true := by
  intro u hu
  simp at hu
  rcases hu with rfl | rfl <;> rfl
theorem refPut_end {A B h t c : Nat} {sv : Value} {N : Net} {x : Nd} {w w1 w2 : World} (s : Rs A B w h sv N) (hb : Below w.heap.size w w1)
    (hown : w2.ownsRow B 40 2 (.slice (some ⟨t, 0, none⟩) (N.length + 1) c) (N.length + 1) (nodeCells (N.map conc) ++ [.int .i64 (conc x).1, .int .i64 (conc x).2]))
    (hg : w1.grownBy w2 sv.ownBlock) (hat : sv.ownBlock = some t ∨ w.heap.size ≤ t) :
    Rs A B (w2.setCell ⟨h, 0, none⟩ (.slice (some ⟨t, 0, none⟩) (N.length + 1) c)) h (.slice (some ⟨t, 0, none⟩) (N.length + 1) c) (N ++ [x]) ∧
      Moved (ROwn h sv) (ROwn h (.slice (some ⟨t, 0, none⟩) (N.length + 1) c)) w (w2.setCell ⟨h, 0, none⟩ (.slice (some ⟨t, 0, none⟩) (N.length + 1) c)) := by
  have hlt := s.one.lt
  have hne := own_ne s.row s.lay.2.1
  have h1 := ((s.one.on hb hlt).grown hg hne).set (x' := .slice (some ⟨t, 0, none⟩) (N.length + 1) c)
  have hs := grownBy_set w2 h 0 (.slice (some ⟨t, 0, none⟩) (N.length + 1) c)
  have l := s.lay
  have z1 := hb.size; have z2 := hg.size; have z3 := hs.size
  rw [nodeCells_snoc] at hown
  have hr := hown.kept hs (own_apart hown l.2.1)
  refine ⟨⟨h1, ?_, l.1, l.2.1, by omega⟩, ⟨?_, ?_, ?_, by omega, fun k hk hn => ?_⟩, fun k hk => ?_⟩
  · rw [List.length_append, List.length_singleton, List.map_append]
    exact hr
  · exact hs.os.trans (hg.os.trans hb.os)
  · exact hs.tape.trans (hg.tape.trans hb.tape)
  · exact hs.output.trans (hg.output.trans hb.output)
  · rw [hs.block k (by omega) (fun e => hn (.inl (Option.some.inj e))), hg.block k (by omega) (fun e => hn (.inr e.symm)), hb.block k hk]
  · rcases hk with rfl | e
    · exact .inl (.inl rfl)
    · have e1 : k = t := by simpa [Value.ownBlock] using e.symm
      subst e1
      rcases hat with e2 | e2
      · exact .inl (.inr e2)
      · exact .inr e2
end Go.Proofs.Ytoacedadfjoneaa.aig
