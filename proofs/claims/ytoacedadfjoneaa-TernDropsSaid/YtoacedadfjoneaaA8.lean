/- The walks of the document's Inputs and Levels. -/
import Derived.Test.YtoacedadfjoneaaA7
namespace Go.Proofs.Ytoacedadfjoneaa.aig
open Go.RowKit
open Go.Proofs.Ytoacedadfjoneaa.mem Go.Proofs.Ytoacedadfjoneaa.agf

/-- a list of the call's own, behind an append -/
theorem row_end {base t c : Nat} {lv : Value} {L : List Int} {r : Int} {w w1 w2 : World} {o : Obj} (hb : Below base w w1) (hs : base ≤ w1.heap.size) (hrow : w1.ownsRow base 3 1 lv L.length (L.map (Value.int .i64)))
    (hown : w2.ownsRow base 3 1 (.slice (some ⟨t, 0, none⟩) (L.length + 1) c) (L.length + 1) (L.map (Value.int .i64) ++ [.int .i64 r])) (hg : (w1.alloc o).grownBy w2 lv.ownBlock) :
    w2.ownsRow base 3 1 (.slice (some ⟨t, 0, none⟩) (L.length + 1) c) (L ++ [r]).length ((L ++ [r]).map (Value.int .i64)) ∧ Below base w w2 := by
  refine ⟨?_, (hb.alloc hs o).grown hg (by simp; omega) (fun k hk => (hrow.lt k hk).1)⟩
  rw [map_snocI] at hown
  rw [List.length_append, List.length_singleton]; exact hown
/-- how a list is told -/
def Told (L : List Int) (w : World) (e : Ending) (w' : World) : Prop :=
  ∃ v, e = .returned v ∧ w'.ownsRow w.heap.size 3 1 v L.length (L.map (Value.int .i64)) ∧ Below w.heap.size w w'
/-- the variables of the inputs among the first k nodes -/
def inpTo (ns : List (Int × Int)) (k : Nat) : List Int := ((List.range k).filter fun i => decide ((ns.getD i (0, 0)).1 < 0)).map fun i : Nat => (i : Int) + 1
theorem inpTo_step (ns : List (Int × Int)) (k : Nat) : inpTo ns (k + 1) = inpTo ns k ++ (if (ns.getD k (0, 0)).1 < 0 then [(k : Int) + 1] else []) := by
  unfold inpTo
  rw [List.range_succ, List.filter_append, List.map_append]
  by_cases h : (ns.getD k (0, 0)).1 < 0
  · rw [if_pos h]; simp only [List.filter_cons, decide_eq_true h, if_true, List.filter_nil, List.map_cons, List.map_nil]
  · rw [if_neg h]; simp only [List.filter_cons, decide_eq_false h, Bool.false_eq_true, if_false, List.filter_nil, List.map_nil]
theorem inpTo_len (ns : List (Int × Int)) (k : Nat) : (inpTo ns k).length ≤ k := by
  unfold inpTo; rw [List.length_map]
  exact Nat.le_trans (List.length_filter_le _ _) (by simp)
theorem KNds.on {w w' : World} {v : Value} {ns : List (Int × Int)} {P : Nat → Prop} (h : KNds P w v ns) (hb : Below w.heap.size w w') : KNds P w' v ns := h.move (moved_of_below hb)
/-- the levels, one node more -/
def lvStep (L : List Int) (p : Int × Int) : List Int := L ++ [if p.1 < 0 then 0 else max (L.getD (p.1.toNat / 2) 0) (L.getD (p.2.toNat / 2) 0) + 1]
def levels (ns : List (Int × Int)) : List Int := ns.foldl lvStep [0]
theorem levels_step {ns : List (Int × Int)} {k : Nat} (h : k < ns.length) : levels (ns.take (k + 1)) = lvStep (levels (ns.take k)) (ns.getD k (0, 0)) := by
  rw [List.take_succ_eq_append_getElem h]
  unfold levels
  rw [List.foldl_append]
  simp [List.getD, h]
/-- how high the levels are -/
def Lvls (L : List Int) (k : Nat) : Prop := ∀ j, 0 ≤ L.getD j 0 ∧ L.getD j 0 ≤ (k : Int)
theorem lvls_more {L : List Int} {k : Nat} {r : Int} (h : Lvls L k) (hr : 0 ≤ r ∧ r ≤ (k : Int) + 1) : Lvls (L ++ [r]) (k + 1) := by
  intro j
  rcases Nat.lt_trichotomy j L.length with e | e | e
  · rw [snocI_l e]; have := h j; omega
  · rw [e, snocI_r]; omega
  · have : (L ++ [r]).getD j 0 = 0 := by simp only [List.getD]; rw [List.getElem?_eq_none (by simp; omega)]; rfl
    rw [this]; omega
theorem row_cell {w : World} {base t c : Nat} {L : List Int} (h : w.ownsRow base 3 1 (.slice (some ⟨t, 0, none⟩) L.length c) L.length (L.map (Value.int .i64))) {j : Nat} (hj : j < L.length) : w.cell? ⟨t, j, none⟩ = some (.int .i64 (L.getD j 0)) := by
  rw [h.cellAt j (by omega), List.getElem?_map, List.getElem?_eq_getElem hj]; simp [List.getD, hj]
end Go.Proofs.Ytoacedadfjoneaa.aig
