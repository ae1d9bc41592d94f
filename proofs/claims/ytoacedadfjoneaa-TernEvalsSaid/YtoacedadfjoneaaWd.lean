/- The project's dropper in memory: its fields, and the rows that they point at; what it has of a gate's literals. -/
import Derived.Test.YtoacedadfjoneaaEf
import Derived.Test.YtoacedadfjoneaaWc
namespace Go.Proofs.Ytoacedadfjoneaa.aig
open Go.RowKit
open Go.Proofs.Ytoacedadfjoneaa.mem Go.Proofs.Ytoacedadfjoneaa.agf Go.Proofs.Ytoacedadfjoneaa.fns
open Go.Proofs.Ytoacedadfjoneaa.ints (Ints ints_of_owned below_drewN)
open Go.Proofs.Ytoacedadfjoneaa.tri (tLit)

/-- a dropper's things: its block, its rows of values and of what must stay, the net and the gates of each variable, the values at first -/
structure DC where
  A : Nat
  g : Nat
  tv : Nat
  c : Nat
  tm : Nat
  q : Nat
  m : Nat
  na : Option Addr
  ncap : Nat
  gb : Nat
  goff : Nat
  gcap : Nat
  fb : Nat
  foff : Nat
  fcap : Nat
  ns : List (Int × Int)
  F : List Int
/-- the blocks that it writes -/
def DW (tv tm k : Nat) : Prop := k = tv ∨ k = tm
structure Dp (d : DC) (w : World) (V : List Int) (M : List Bool) : Prop where
  obj : ∃ t, w.heap[d.g]? = some (.cells #[.slice d.na d.m d.ncap, .slice (some ⟨d.gb, d.goff, none⟩) d.q d.gcap, .slice (some ⟨d.fb, d.foff, none⟩) d.q d.fcap, .slice (some ⟨d.tv, 0, none⟩) d.q d.c, .slice (some ⟨d.tm, 0, none⟩) d.q d.q] t (0, 0))
  net : KNds (DW d.tv d.tm) w (.slice d.na d.m d.ncap) d.ns
  gates : KGrid (DW d.tv d.tm) w (.slice (some ⟨d.gb, d.goff, none⟩) d.q d.gcap) (fanLL d.ns)
  first : KInts (DW d.tv d.tm) w (.slice (some ⟨d.fb, d.foff, none⟩) d.q d.fcap) d.F
  vals : w.ownsRow d.A 3 1 (.slice (some ⟨d.tv, 0, none⟩) d.q d.c) d.q (V.map (Value.int .i64))
  must : w.ownsRow d.A 4 1 (.slice (some ⟨d.tm, 0, none⟩) d.q d.q) d.q (M.map Value.bool)
  lay : d.A ≤ d.g ∧ d.g ≠ d.tv ∧ d.g ≠ d.tm ∧ d.tv ≠ d.tm
  len : d.m + 1 = d.q ∧ d.q ≤ 1001
/-- a row that is not written stays -/
theorem own_moved {w w' : World} {P P' : Nat → Prop} {B n size : Nat} {e : TypeId} {v : Value} {xs : List Value} (h : w.ownsRow B e size v n xs) (m : Moved P P' w w') (hn : ∀ k, v.ownBlock = some k → ¬ P k) : w'.ownsRow B e size v n xs := by
  refine ⟨h.1, ?_⟩
  rcases h.2 with hn' | ⟨g, cap, cur, rfl, hb, hgg, rest⟩
  · exact .inl hn'
  · refine .inr ⟨g, cap, cur, rfl, hb, ?_, rest⟩
    rw [m.only.block g (Array.getElem?_eq_some_iff.1 hgg).1 (hn g rfl)]
    exact hgg
section
variable {d : DC} {w w' : World} {V : List Int} {M : List Bool}
theorem Dp.on (h : Dp d w V M) (hb : Below w.heap.size w w') : Dp d w' V M := by
  obtain ⟨t, ho⟩ := h.obj
  have hm : Moved (DW d.tv d.tm) (DW d.tv d.tm) w w' := moved_of_below hb
  exact ⟨⟨t, (hb.block d.g (Array.getElem?_eq_some_iff.1 ho).1).trans ho⟩, h.net.move hm, h.gates.move hm, h.first.move hm, own_on h.vals hb, own_on h.must hb, h.lay, h.len⟩
theorem Dp.lens (h : Dp d w V M) : V.length = d.q ∧ M.length = d.q ∧ d.F.length = d.q ∧ d.ns.length = d.m := by
  have a := h.vals.1; have b := h.must.1
  rw [List.length_map] at a b
  obtain ⟨x, y, e, -⟩ := h.first
  obtain ⟨x', y', e', -⟩ := h.net
  exact ⟨by omega, by omega, (Value.slice.inj e).2.1.symm, (Value.slice.inj e').2.1.symm⟩
theorem Dp.lt (h : Dp d w V M) : d.g < w.heap.size ∧ d.tv < w.heap.size ∧ d.tm < w.heap.size ∧ d.A ≤ d.tv ∧ d.A ≤ d.tm := by
  obtain ⟨t, ho⟩ := h.obj
  have a := h.vals.lt d.tv rfl; have b := h.must.lt d.tm rfl
  exact ⟨(Array.getElem?_eq_some_iff.1 ho).1, a.2, b.2, a.1, b.1⟩
theorem Dp.cG (h : Dp d w V M) : w.cell? ⟨d.g, 0, none⟩ = some (.slice d.na d.m d.ncap) ∧ w.cell? ⟨d.g, 1, none⟩ = some (.slice (some ⟨d.gb, d.goff, none⟩) d.q d.gcap) ∧
    w.cell? ⟨d.g, 2, none⟩ = some (.slice (some ⟨d.fb, d.foff, none⟩) d.q d.fcap) ∧ w.cell? ⟨d.g, 3, none⟩ = some (.slice (some ⟨d.tv, 0, none⟩) d.q d.c) ∧ w.cell? ⟨d.g, 4, none⟩ = some (.slice (some ⟨d.tm, 0, none⟩) d.q d.q) := by
  obtain ⟨t, ho⟩ := h.obj
  exact ⟨Joins.cell_of_block ho 0, Joins.cell_of_block ho 1, Joins.cell_of_block ho 2, Joins.cell_of_block ho 3, Joins.cell_of_block ho 4⟩
theorem Dp.cV (h : Dp d w V M) {i : Nat} (hi : i < d.q) : w.cell? ⟨d.tv, i, none⟩ = some (.int .i64 (V.getD i 0)) ∧ w.frozen? ⟨d.tv, i, none⟩ = false :=
  ⟨by rw [h.vals.cellAt i (by omega), List.getElem?_map, List.getElem?_eq_getElem (by rw [h.lens.1]; exact hi)]; simp [List.getD, show i < V.length by rw [h.lens.1]; exact hi], h.vals.frozenAt i⟩
theorem Dp.cM (h : Dp d w V M) {i : Nat} (hi : i < d.q) : w.cell? ⟨d.tm, i, none⟩ = some (.bool (M.getD i false)) ∧ w.frozen? ⟨d.tm, i, none⟩ = false :=
  ⟨by rw [h.must.cellAt i (by omega), List.getElem?_map, List.getElem?_eq_getElem (by rw [h.lens.2.1]; exact hi)]; simp [List.getD, show i < M.length by rw [h.lens.2.1]; exact hi], h.must.frozenAt i⟩
theorem dw_set (tv tm R i : Nat) (hR : DW tv tm R) (w : World) (v : Value) : Moved (DW tv tm) (DW tv tm) w (w.setCell ⟨R, i, none⟩ v) :=
  ⟨⟨rfl, rfl, rfl, by simp, fun k _ hn => heap_setCell_other w ⟨R, i, none⟩ k v (fun e => hn (by rw [e]; exact hR))⟩, fun _ h => .inl h⟩
theorem Dp.setV (h : Dp d w V M) (i : Nat) (x : Int) : Dp d (w.setCell ⟨d.tv, i, none⟩ (.int .i64 x)) (V.set i x) M ∧ Moved (DW d.tv d.tm) (DW d.tv d.tm) w (w.setCell ⟨d.tv, i, none⟩ (.int .i64 x)) := by
  have hm := dw_set d.tv d.tm d.tv i (.inl rfl) w (.int .i64 x)
  obtain ⟨t, ho⟩ := h.obj
  obtain ⟨l1, l2, l3, l4⟩ := h.lay
  obtain ⟨s1, s2⟩ := h.vals.stored i (.int .i64 x)
  rw [← List.map_set] at s1
  exact ⟨⟨⟨t, (heap_setCell_other w ⟨d.tv, i, none⟩ d.g _ l2).trans ho⟩, h.net.move hm, h.gates.move hm, h.first.move hm, s1, h.must.kept s2 (.inr (by simp [Value.ownBlock]; omega)), h.lay, h.len⟩, hm⟩
theorem Dp.setM (h : Dp d w V M) (i : Nat) (x : Bool) : Dp d (w.setCell ⟨d.tm, i, none⟩ (.bool x)) V (M.set i x) ∧ Moved (DW d.tv d.tm) (DW d.tv d.tm) w (w.setCell ⟨d.tm, i, none⟩ (.bool x)) := by
  have hm := dw_set d.tv d.tm d.tm i (.inr rfl) w (.bool x)
  obtain ⟨t, ho⟩ := h.obj
  obtain ⟨l1, l2, l3, l4⟩ := h.lay
  obtain ⟨s1, s2⟩ := h.must.stored i (.bool x)
  rw [← List.map_set] at s1
  exact ⟨⟨⟨t, (heap_setCell_other w ⟨d.tm, i, none⟩ d.g _ l3).trans ho⟩, h.net.move hm, h.gates.move hm, h.first.move hm, h.vals.kept s2 (.inr (by simp [Value.ownBlock]; omega)), s1, h.lay, h.len⟩, hm⟩
theorem Dp.ints (h : Dp d w V M) : Ints w (.slice (some ⟨d.tv, 0, none⟩) d.q d.c) V := ints_of_owned (B := d.A) (by rw [h.lens.1]; exact h.vals)
end
theorem Lit_q {a : Option Addr} {n cap : Nat} {ls : List Int} {x r : Int} (hr : tLit ls x = r) (w : World) (hv : Ints w (.slice a n cap) ls) :
    Calls Try.prog 42 #[.slice a n cap, .int .i64 x] w fun e w' => e = .returned (.int .i64 r) ∧ w' = w := by
  subst hr
  exact (tri.Lit_any a n cap ls x w hv).mono fun _ _ h => ⟨h.1, h.2.symm⟩
set_option maxHeartbeats 1600000 in
theorem sides_any (d : DC) (V : List Int) (M : List Bool) (v k x y : Nat) (w : World) (h : Dp d w V M) (hv : v = k + 1) (hk : k < d.m) (hx : d.ns.getD k (0, 0) = ((x : Int), (y : Int))) :
    Calls Try.prog 52 #[.pointer (some ⟨d.g, 0, none⟩), .int .i64 (v : Int)] w fun e w' => e = .returned (.tuple #[.int .i64 (tLit V (x : Int)), .int .i64 (tLit V (y : Int))]) ∧ Below w.heap.size w w' := by
  obtain ⟨A, g, tv, c, tm, q, m, na, ncap, gb, goff, gcap, fb, foff, fcap, ns, F⟩ := d
  have hI := h.ints
  obtain ⟨c0, -, -, c3, -⟩ := h.cG
  obtain ⟨l1, l2⟩ := h.len
  obtain ⟨g1, -⟩ := h.lt
  obtain ⟨nb, noff, hna, hnl, e1, e2⟩ := h.net.at_ hk
  dsimp only at c0 c3 hk hx e1 e2 hna hI g1 l1 l2 ⊢
  subst hna
  rw [hx] at e1 e2
  dsimp only at e1 e2
  have HI := Lib.hid hI
  have L1 := Lib.hid l1
  have hk3 : k ≤ 1000 := by omega
  have hva : (v : Int) - 1 = (k : Int) := by omega
  have d1 : (k : Int) < (m : Int) := by omega
  have d2 : 0 ≤ (k : Int) := by omega
  obtain ⟨a, ha⟩ : ∃ a, a = tLit V (x : Int) := ⟨_, rfl⟩
  obtain ⟨b, hb⟩ : ∃ b, b = tLit V (y : Int) := ⟨_, rfl⟩
  rw [← ha, ← hb]
  have HA := Lib.hid ha.symm
  have HB := Lib.hid hb.symm
  clear h hv hx hI ha hb l1
  go_enter Try.func52, Try.ntmps52
  go_upto_region 2 with fail
  obtain ⟨W1, hW1⟩ : ∃ W1, W1 = w.alloc (.cells #[.int .i64 (x : Int), .int .i64 (y : Int)] 40) := ⟨_, rfl⟩
  obtain ⟨X, hX⟩ : ∃ X, X = w.heap.size := ⟨_, rfl⟩
  have x0 : W1.cell? ⟨X, 0, none⟩ = some (.int .i64 (x : Int)) := by rw [hW1, hX]; exact (box_at _ _ _ _).1
  have x1 : W1.cell? ⟨X, 1, none⟩ = some (.int .i64 (y : Int)) := by rw [hW1, hX]; exact (box_at _ _ _ _).2
  have HBX : Hid (Below w.heap.size w W1) := Lib.hid (by rw [hW1]; exact box_below w _ _ _)
  rw [← hX, ← hW1]
  clear hX hW1 e1 e2
  replace c3 := (HBX.out.cell (p := ⟨g, 3, none⟩) g1).trans c3
  have HI1 := Lib.hid (HI.out.on HBX.out)
  clear c0 g1 hva
  go_quiet ((first | (go_at_call_of 42 (Value.int IntKind.i64 (x : Int)); exact Calls.quiet_of_same (Lit_q HA.out _ HI1.out)) | (go_at_call_of 42 (Value.int IntKind.i64 (y : Int)); exact Calls.quiet_of_same (Lit_q HB.out _ HI1.out))))
  go_wp2_with fail
  go_ret2
  exact ⟨rfl, below_drewN HBX.out _⟩
end Go.Proofs.Ytoacedadfjoneaa.aig
