/- The walk of the document's Copy. (Printed by XA6.py.) -/
import Derived.Test.YtoacedadfjoneaaA5
namespace Go.Proofs.Ytoacedadfjoneaa.aig
open Go.RowKit
open Go.Proofs.Ytoacedadfjoneaa.mem Go.Proofs.Ytoacedadfjoneaa.agf

/-- a list of the call's own, in none of the blocks of P -/
structure LRow (base : Nat) (P : Nat → Prop) (w : World) (v : Value) (zs : List Int) : Prop where
  row : w.ownsRow base 3 1 v zs.length (zs.map (Value.int .i64))
  off : ∀ k, v.ownBlock = some k → ¬ P k
theorem LRow.move {base : Nat} {P P' : Nat → Prop} {w w' : World} {v : Value} {zs : List Int} (h : LRow base P w v zs) (m : Moved P P' w w') : LRow base P' w' v zs := by
  refine ⟨?_, fun k hk hp => ?_⟩
  · obtain ⟨e1, e2⟩ := h.row
    refine ⟨e1, ?_⟩
    rcases e2 with e2 | ⟨g, cap, cur, rfl, h1, h2, h3⟩
    · exact .inl e2
    · exact .inr ⟨g, cap, cur, rfl, h1, (m.only.block g (Array.getElem?_eq_some_iff.1 h2).1 (h.off g rfl)).trans h2, h3⟩
  · have := (h.row.lt k hk).2
    rcases m.own k hp with e | e
    · exact h.off k hk e
    · omega
theorem infoI : (Try.prog.info? 3).map (fun i => (i.zero, i.size, i.bytes)) = some (some (.int .i64 0), 1, 8) := by kernel_rfl
theorem news1 (w : World) (x : Value) (t : TypeId) : ∀ j u, ([x] : List Value)[j]? = some u → (w.alloc (.cells #[x] t)).cell? ((⟨w.heap.size, 0, none⟩ : Addr).add j) = some u := by
  intro j u hj
  match j, hj with
  | 0, hj => simp at hj; subst hj; simp [Addr.add]
theorem one_cell (x : Int) : ∀ u ∈ ([.int .i64 x] : List Value), u.oneCell' = true := by
  intro u hu; simp at hu; subst hu; rfl
theorem Moved.grown {P P' : Nat → Prop} {w w1 w2 : World} {row : Option Nat} (h : Moved P P' w w1) (hg : w1.grownBy w2 row) (hr : ∀ k, row = some k → w.heap.size ≤ k) : Moved P P' w w2 :=
  ⟨⟨hg.os.trans h.only.os, hg.tape.trans h.only.tape, hg.output.trans h.only.output, Nat.le_trans h.only.size hg.size, fun k hk hn => by
    have hs := h.only.size
    rw [hg.block k (by omega) (fun e => by have := hr k e.symm; omega), h.only.block k hk hn]⟩, h.own⟩
theorem only_grown {w1 w2 : World} {row : Option Nat} (hg : w1.grownBy w2 row) : Only (fun k => row = some k) w1 w2 :=
  ⟨hg.os, hg.tape, hg.output, hg.size, fun k hk hn => hg.block k hk (fun e => hn e.symm)⟩
theorem map_snocI (L : List Int) (r : Int) : L.map (Value.int .i64) ++ [Value.int .i64 r] = (L ++ [r]).map (Value.int .i64) := by simp
/-- behind an append to the list -/
theorem grow_end {A B h t c : Nat} {sv sv2 lv : Value} {L : List Int} {r : Int} {M2 : Net} {w w1 w2 : World} {o : Obj} (s1 : Rs A B w1 h sv2 M2) (hm : Moved (ROwn h sv) (ROwn h sv2) w w1)
    (hl : LRow w.heap.size (ROwn h sv2) w1 lv L) (hown : w2.ownsRow w.heap.size 3 1 (.slice (some ⟨t, 0, none⟩) (L.length + 1) c) (L.length + 1) (L.map (Value.int .i64) ++ [.int .i64 r]))
    (hg : (w1.alloc o).grownBy w2 lv.ownBlock) (hat : lv.ownBlock = some t ∨ w1.heap.size ≤ t) :
    Rs A B w2 h sv2 M2 ∧ Moved (ROwn h sv) (ROwn h sv2) w w2 ∧ LRow w.heap.size (ROwn h sv2) w2 (.slice (some ⟨t, 0, none⟩) (L.length + 1) c) (L ++ [r]) := by
  have ha : Below w1.heap.size w1 (w1.alloc o) := (Below.refl _ _).alloc (Nat.le_refl _) _
  have s2 := s1.on ha
  refine ⟨s2.only (only_grown hg) (fun k hk e => hl.off k e hk), ?_, ?_, fun k hk hp => ?_⟩
  · exact (hm.grown (grown_of_below ha) (fun k hk => by cases hk)).grown hg (fun k hk => (hl.row.lt k hk).1)
  · rw [map_snocI] at hown
    rw [List.length_append, List.length_singleton]; exact hown
  · have e : k = t := by simpa [Value.ownBlock] using hk.symm
    subst e
    have := (s1.ge k hp).2
    rcases hat with e | e
    · exact hl.off k e hp
    · omega
/-- a node as it is read -/
def absN (p : Int × Int) : Nd := if p.1 < 0 then none else some (p.1.toNat, p.2.toNat)
/-- nodes of a good net -/
def GoodN (ns : List (Int × Int)) : Prop := ∀ i, i < ns.length → 0 ≤ (ns.getD i (0, 0)).1 → (ns.getD i (0, 0)).1 ≤ 2 * (i : Int) + 1 ∧ 0 ≤ (ns.getD i (0, 0)).2 ∧ (ns.getD i (0, 0)).2 ≤ 2 * (i : Int) + 1
theorem copyGo_step {s : List Int × List Int × Net} {n : Net} {k : Nat} {x : Nd} (h : n[k]? = some x) : copyGo s (n.take (k + 1)) = copyStep (copyGo s (n.take k)) x := by
  rw [take_snoc h]; unfold copyGo; rw [List.foldl_append]; rfl
theorem absN_at {ns : List (Int × Int)} {k : Nat} (h : k < ns.length) : (ns.map absN)[k]? = some (absN (ns.getD k (0, 0))) := by
  rw [List.getElem?_map, List.getElem?_eq_getElem h]; simp [List.getD, h]
theorem drop_at {zs : List Int} {k : Nat} (h : k < zs.length) : zs.drop k = zs.getD k 0 :: zs.drop (k + 1) := by
  rw [List.drop_eq_getElem_cons h]; simp [List.getD, h]
theorem copyStep_new {L : List Int} {zs : List Int} {kk : Nat} {M : Net} (h : zs.length ≤ kk) : copyStep (L, zs.drop kk, M) none = (L ++ [(inF M).1], zs.drop (kk + 1), (inF M).2) := by
  rw [List.drop_of_length_le h, List.drop_of_length_le (by omega)]; rfl
theorem copyStep_old {L : List Int} {zs : List Int} {kk : Nat} {M : Net} (h : kk < zs.length) : copyStep (L, zs.drop kk, M) none = (L ++ [zs.getD kk 0], zs.drop (kk + 1), M) := by
  rw [drop_at h]; rfl
/-- how far the literals reach that are told so far -/
def Lits (L : List Int) (m : Nat) : Prop := ∀ j, -1 ≤ L.getD j 0 ∧ L.getD j 0 ≤ 2 * (m : Int) + 1
theorem lits_more {L : List Int} {m m' : Nat} {r : Int} (h : Lits L m) (hm : m ≤ m') (hr : -1 ≤ r ∧ r ≤ 2 * (m' : Int) + 1) : Lits (L ++ [r]) m' := by
  intro j
  rcases Nat.lt_trichotomy j L.length with e | e | e
  · rw [snocI_l e]; have := h j; omega
  · rw [e, snocI_r]; exact hr
  · have : (L ++ [r]).getD j 0 = 0 := by simp only [List.getD]; rw [List.getElem?_eq_none (by simp; omega)]; rfl
    rw [this]; omega
/-- how Copy leaves things -/
def Copied (A B h : Nat) (sv : Value) (l : List Int) (M : Net) (w : World) (e : Ending) (w' : World) : Prop :=
  ∃ sv' v, e = .returned v ∧ Rs A B w' h sv' M ∧ Moved (ROwn h sv) (ROwn h sv') w w' ∧ LRow w.heap.size (ROwn h sv') w' v l
end Go.Proofs.Ytoacedadfjoneaa.aig
