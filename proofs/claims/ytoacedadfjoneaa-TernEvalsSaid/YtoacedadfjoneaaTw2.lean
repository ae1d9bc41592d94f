/- The walks of tri's calls that make words. -/
import Derived.Test.YtoacedadfjoneaaTw
import Derived.Deep.DeepCutAuto
namespace Go.Proofs.Ytoacedadfjoneaa.tri
open Go.RowKit
open Go.Proofs.Ytoacedadfjoneaa.fns

/-- a block of two cells, known whole -/
def Two (w : World) (g : Nat) (x y : Value) : Prop := ∃ t, w.heap[g]? = some (.cells #[x, y] t (0, 0))
theorem Two.lt {w : World} {g : Nat} {x y : Value} (h : Two w g x y) : g < w.heap.size := by
  obtain ⟨t, h⟩ := h; exact (Array.getElem?_eq_some_iff.1 h).1
theorem Two.on {w w' : World} {B g : Nat} {x y : Value} (h : Two w g x y) (hb : Below B w w') (hB : w.heap.size ≤ B) : Two w' g x y := by
  have hl := h.lt
  obtain ⟨t, h⟩ := h
  exact ⟨t, (hb.block g (by omega)).trans h⟩
theorem Two.cells {w : World} {g : Nat} {x y : Value} (h : Two w g x y) :
    w.cell? ⟨g, 0, none⟩ = some x ∧ w.cell? ⟨g, 1, none⟩ = some y ∧ w.frozen? ⟨g, 0, none⟩ = false ∧ w.frozen? ⟨g, 1, none⟩ = false := by
  obtain ⟨t, h⟩ := h
  exact ⟨Joins.cell_of_block h 0, Joins.cell_of_block h 1, Joins.unfrozen_of_block h 0, Joins.unfrozen_of_block h 1⟩
theorem two_new (w : World) (x y : Value) (t : TypeId) : Two (w.alloc (.cells #[x, y] t)) w.heap.size x y :=
  ⟨t, by show (w.heap.push _)[w.heap.size]? = _; rw [Array.getElem?_push, if_pos rfl]⟩
theorem Two.drew {w : World} {g : Nat} {x y : Value} (h : Two w g x y) : Two w.drew g x y := h
theorem two_at {w : World} (g : Nat) (x y : Value) (t : TypeId) (hg : g = w.heap.size) : Two (w.alloc (.cells #[x, y] t)) g x y := hg ▸ two_new w x y t
theorem Two.set {w : World} {g : Nat} {x y x' y' : Value} (h : Two w g x y) : Two ((w.setCell ⟨g, 0, none⟩ x').setCell ⟨g, 1, none⟩ y') g x' y' := by
  obtain ⟨t, h⟩ := h
  exact ⟨t, Joins.block_setCell (i := 1) (Joins.block_setCell (i := 0) h x') y'⟩
theorem Two.other {w : World} {g h i : Nat} {x y : Value} (ht : Two w g x y) (hne : g ≠ h) (v : Value) : Two (w.setCell ⟨h, i, none⟩ v) g x y := by
  obtain ⟨t, ht⟩ := ht
  exact ⟨t, (Below.heap_setCell w ⟨h, i, none⟩ v g hne).trans ht⟩
theorem two_alloc {w : World} {g : Nat} {x y : Value} (h : Two w g x y) (o : Obj) : Two (w.alloc o) g x y :=
  h.on ((Below.refl w.heap.size w).alloc (Nat.le_refl _) o) (Nat.le_refl _)

theorem All_any (v : Int) (w : World) :
    Calls Try.prog 19 #[.int .i64 v] w fun e w' => e = .returned (.agg #[.int .u64 (allO v), .int .u64 (allZ v)]) ∧ Below w.heap.size w w' := by
  have h : (v = 0) ∨ (v = 1) ∨ (v ≠ 0 ∧ v ≠ 1) := by omega
  rcases h with rfl | rfl | h
  · go_enter Try.func19, Try.ntmps19
    go_wp2
    exact bodyPost_ret (v := .agg #[.int .u64 0, .int .u64 18446744073709551615]) (by simp [results, Try.results19, go_sem]) rfl ⟨rfl, by repeat (first | exact Below.refl _ _ | refine Below.setCell ?_ (by simp) _ | refine Below.alloc ?_ (by simp) _)⟩
  · go_enter Try.func19, Try.ntmps19
    go_wp2
    exact bodyPost_ret (v := .agg #[.int .u64 18446744073709551615, .int .u64 0]) (by simp [results, Try.results19, go_sem]) rfl ⟨rfl, by repeat (first | exact Below.refl _ _ | refine Below.setCell ?_ (by simp) _ | refine Below.alloc ?_ (by simp) _)⟩
  · obtain ⟨c1, c2⟩ := ne0 h
    have HO : Hid (allO v = 0) := Lib.hid (by unfold allO; rw [if_neg h.2])
    have HZ : Hid (allZ v = 0) := Lib.hid (by unfold allZ; rw [if_neg h.1])
    clear h
    rw [HO.out, HZ.out]
    go_enter Try.func19, Try.ntmps19
    go_wp2
    exact bodyPost_ret (v := .agg #[.int .u64 0, .int .u64 0]) (by simp [results, Try.results19, go_sem]) rfl ⟨rfl, by repeat (first | exact Below.refl _ _ | refine Below.setCell ?_ (by simp) _ | refine Below.alloc ?_ (by simp) _)⟩

set_option maxHeartbeats 800000 in
theorem NotWord_any (o z : Int) (w : World) :
    Calls Try.prog 41 #[.agg #[.int .u64 o, .int .u64 z]] w fun e w' => e = .returned (.agg #[.int .u64 (cO z o), .int .u64 (cO o z)]) ∧ Below w.heap.size w w' := by
  go_enter Try.func41, Try.ntmps41
  go_wp2_with fail
  go_at_call 38; refine (clean_any _ _ _).mono ?_; rintro e w1 ⟨rfl, hb⟩
  obtain ⟨x0, x1, f0, f1⟩ := ((two_alloc (two_new w (.int .u64 o) (.int .u64 z) 33) _).on hb (Nat.le_refl _)).cells
  obtain ⟨x2, x3, f2, f3⟩ := ((two_at (w.heap.size + 1) (.int .u64 0) (.int .u64 0) 33 (by simp)).on hb (Nat.le_refl _)).cells
  have HB : Hid (Below w.heap.size w w1) := Lib.hid ((Joins.below_alloc2 w _ _).trans (hb.mono (by simp; omega)))
  clear hb
  go_wp2_with fail
  refine bodyPost_ret (v := .agg #[.int .u64 (cO z o), .int .u64 (cO o z)]) (by simp [results, Try.results41, go_sem, x2, x3]) rfl ⟨rfl, ?_⟩
  repeat (first | exact HB.out | refine Below.setCell ?_ (by simp) _)

set_option maxHeartbeats 6400000 in
theorem AndWord_any (o z p q : Int) (w : World) :
    Calls Try.prog 25 #[.agg #[.int .u64 o, .int .u64 z], .agg #[.int .u64 p, .int .u64 q]] w fun e w' => e = .returned (.agg #[.int .u64 (aO o z p q), .int .u64 (aZ o z p q)]) ∧ Below w.heap.size w w' := by
  go_enter Try.func25, Try.ntmps25
  go_wp2_with fail
  obtain ⟨w0, hw0⟩ : ∃ w0, w0 = ((w.alloc (.cells #[.int .u64 o, .int .u64 z] 33)).alloc (.cells #[.int .u64 p, .int .u64 q] 33)).alloc (.cells #[.int .u64 0, .int .u64 0] 33) := ⟨_, rfl⟩
  have A2 : Two w0.drew w.heap.size (.int .u64 o) (.int .u64 z) := by rw [hw0]; exact (two_alloc (two_alloc (two_new _ _ _ _) _) _).drew
  have A3 : Two w0.drew (w.heap.size + 1) (.int .u64 p) (.int .u64 q) := by rw [hw0]; exact (two_alloc (two_at _ _ _ _ (by simp)) _).drew
  have A4 : Two w0.drew (w.heap.size + 2) (.int .u64 0) (.int .u64 0) := by rw [hw0]; exact (two_at _ _ _ _ (by simp)).drew
  have HB : Hid (Below w.heap.size w w0.drew) := Lib.hid (by rw [hw0]; exact (Joins.below_alloc3 w _ _ _).drew)
  have HS : Hid (w.heap.size ≤ w0.drew.heap.size) := Lib.hid (by rw [hw0]; simp; omega)
  rw [← hw0]
  clear hw0
  go_cut [2, 3, 4] (fun s2 s3 s4 wx => s2 = .pointer (some ⟨w.heap.size, 0, none⟩) ∧ s3 = .pointer (some ⟨w.heap.size + 1, 0, none⟩) ∧ s4 = .pointer (some ⟨w.heap.size + 2, 0, none⟩) ∧
    Two wx w.heap.size (.int .u64 (cO o z)) (.int .u64 (cO z o)) ∧ Two wx (w.heap.size + 1) (.int .u64 (cO p q)) (.int .u64 (cO q p)) ∧ Two wx (w.heap.size + 2) (.int .u64 0) (.int .u64 0) ∧ Hid (Below w.heap.size w wx))
  case first =>
    obtain ⟨x0, x1, -, -⟩ := A2.cells
    obtain ⟨x2, x3, -, -⟩ := A3.cells
    go_region_with (go_at_call 38; refine (clean_any _ _ _).mono ?_; rintro e w1 ⟨rfl, hb⟩; (first
      | (have B2 := A2.on hb (Nat.le_refl _); have B3 := A3.on hb (Nat.le_refl _); have B4 := A4.on hb (Nat.le_refl _); have HB1 := Lib.hid (HB.out.trans (hb.mono HS.out)); have HS1 := Lib.hid (Nat.le_trans HS.out hb.size); clear hb A2 A3 A4 x0 x1 x2 x3 HB HS
         obtain ⟨y2, y3, -, -⟩ := B3.cells)
      | (have C2 := B2.on hb (Nat.le_refl _); have C3 := B3.on hb (Nat.le_refl _); have C4 := B4.on hb (Nat.le_refl _); have HB2 := Lib.hid (HB1.out.trans (hb.mono HS1.out)); clear hb B2 B3 B4 HB1 HS1 y2 y3
         obtain ⟨z0, z1, k0, k1⟩ := C2.cells; obtain ⟨z2, z3, k2, k3⟩ := C3.cells)))
    all_goals
      go_wp2_with fail
      go_meet
      refine ⟨rfl, rfl, rfl, ((C2.set).other (by omega) _).other (by omega) _, ((C3.other (by omega) _).other (by omega) _).set, (((C4.other (by omega) _).other (by omega) _).other (by omega) _).other (by omega) _, Lib.hid ?_⟩
      repeat (first | exact HB2.out | refine Below.setCell ?_ (by simp) _)
  case rest =>
    obtain ⟨rfl, rfl, rfl, D2, D3, D4, HB⟩ := hcut
    obtain ⟨z0, z1, k0, k1⟩ := D2.cells
    obtain ⟨z2, z3, k2, k3⟩ := D3.cells
    obtain ⟨z4, z5, k4, k5⟩ := D4.cells
    go_wp2_with fail
    refine bodyPost_ret (v := .agg #[.int .u64 (aO o z p q), .int .u64 (aZ o z p q)]) (by simp [results, Try.results25, go_sem, z4, z5, aO, aZ]) rfl ⟨rfl, ?_⟩
    repeat (first | exact HB.out | refine Below.setCell ?_ (by simp) _)
end Go.Proofs.Ytoacedadfjoneaa.tri
