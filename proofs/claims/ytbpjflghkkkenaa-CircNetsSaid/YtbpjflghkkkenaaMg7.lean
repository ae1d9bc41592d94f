import Derived.Test.YtbpjflghkkkenaaMg6
import Derived.Deep.DeepCutAuto
import Derived.Deep.QuietTactic
/- The walk of the statements' Own: a circuit in memory of its own. (Printed by mkN3.py.) -/
namespace Go.Proofs.Ytbpjflghkkkenaa.row
open Go.RowKit
open Go.Proofs.Ytbpjflghkkkenaa.mem (own_on addr_add)
open Go.Proofs.Ytbpjflghkkkenaa.rinv

/-- a block of cells, known whole -/
def Blk (w : World) (X : Nat) (cs : Array Value) : Prop := ∃ t, w.heap[X]? = some (.cells cs t (0, 0))
section
variable {w w' : World} {X Y : Nat} {cs : Array Value}
theorem Blk.lt (h : Blk w X cs) : X < w.heap.size := by obtain ⟨t, h⟩ := h; exact (Array.getElem?_eq_some_iff.1 h).1
theorem Blk.on (h : Blk w X cs) (hb : Below w.heap.size w w') : Blk w' X cs := by
  have hl := h.lt
  obtain ⟨t, h⟩ := h
  exact ⟨t, (hb.block X hl).trans h⟩
theorem Blk.cell (h : Blk w X cs) (j : Nat) : w.cell? ⟨X, j, none⟩ = cs[j]? ∧ w.frozen? ⟨X, j, none⟩ = false := by
  obtain ⟨t, h⟩ := h
  exact ⟨Joins.cell_of_block h j, Joins.unfrozen_of_block h j⟩
theorem Blk.other (h : Blk w X cs) (hne : X ≠ Y) {i : Nat} (v : Value) : Blk (w.setCell ⟨Y, i, none⟩ v) X cs := by
  obtain ⟨t, h⟩ := h
  exact ⟨t, (Below.heap_setCell w ⟨Y, i, none⟩ v X hne).trans h⟩
theorem Blk.put (h : Blk w X cs) (j : Nat) (v : Value) : Blk (w.setCell ⟨X, j, none⟩ v) X (cs.setIfInBounds j v) := by
  obtain ⟨t, h⟩ := h
  exact ⟨t, Joins.block_setCell h v⟩
theorem blk_new (w : World) (cs : Array Value) (t : TypeId) : Blk (w.alloc (.cells cs t)) w.heap.size cs :=
  ⟨t, by show (w.heap.push _)[w.heap.size]? = _; rw [Array.getElem?_push, if_pos rfl]⟩
theorem Blk.drewN (h : Blk w X cs) (n : Nat) : Blk (w.drewN n) X cs := h
/-- an empty slice of one's own -/
def Em (w : World) (B : Nat) (e : TypeId) (u : Value) : Prop := ∃ g, u = .slice (some ⟨g, 0, none⟩) 0 0 ∧ B ≤ g ∧ w.heap[g]? = some (.cells #[] e (0, 0))
variable {B : Nat} {e : TypeId} {u : Value}
theorem Em.on (h : Em w B e u) (hb : Below w.heap.size w w') : Em w' B e u := by
  obtain ⟨g, h1, h2, h3⟩ := h
  exact ⟨g, h1, h2, (hb.block g (Array.getElem?_eq_some_iff.1 h3).1).trans h3⟩
theorem Em.far (h : Em w B e u) (hY : Y < B) {i : Nat} (v : Value) : Em (w.setCell ⟨Y, i, none⟩ v) B e u := by
  obtain ⟨g, h1, h2, h3⟩ := h
  exact ⟨g, h1, h2, (Below.heap_setCell w ⟨Y, i, none⟩ v g (show g ≠ Y by omega)).trans h3⟩
theorem em_new (w : World) (hB : B ≤ w.heap.size) : Em (w.alloc (.cells #[] e)) B e (.slice (some ⟨w.heap.size, 0, none⟩) 0 0) :=
  ⟨w.heap.size, rfl, hB, by show (w.heap.push _)[w.heap.size]? = _; rw [Array.getElem?_push, if_pos rfl]⟩
end
theorem infI : (Try.prog.info? 3).map (fun i => (i.zero, i.size, i.bytes)) = some (some (.int .i64 0), 1, 8) := by kernel_rfl
theorem infL : (Try.prog.info? 45).map (fun i => (i.zero, i.size, i.bytes)) = some (some (.agg #[.int .i64 0, .int .i64 0, .int .i64 0]), 3, 24) := by kernel_rfl
theorem infG : (Try.prog.info? 47).map (fun i => (i.zero, i.size, i.bytes)) = some (some (.agg #[.int .i64 0, .int .i64 0, .int .i64 0]), 3, 24) := by kernel_rfl
theorem infS : (Try.prog.info? 59).map (fun i => (i.zero, i.size, i.bytes)) = some (some (.agg #[.int .u8 0, .int .i64 0, .string ⟨#[]⟩]), 3, 32) := by kernel_rfl
/-- the cells of the copy, as far as they are stored -/
def dA (f : Nat → Bool) (c0 c1 c2 c3 c4 c5 c6 c7 c8 u8 u12 u16 u20 : Value) : Array Value := #[c0, if f 17 then u8 else c1, c2, if f 19 then u12 else c3, if f 21 then u16 else c4, if f 23 then u20 else c5, c6, c7, c8]
structure JA (D : CD) (F : CF) (P : Nat → Prop) (W : World) (X T : Nat) (c0 c1 c2 c3 c4 c5 c6 c7 c8 : Value) (f : Nat → Bool) (u5 u6 u7 u8 u9 u10 u11 u12 u13 u14 u15 u16 u17 u18 u19 u20 u21 u22 u23 u24 : Value) (w : World) : Prop where
  x : Blk w X (ccells D F)
  t : Blk w T (dA f c0 c1 c2 c3 c4 c5 c6 c7 c8 u8 u12 u16 u20)
  bel : Below T W w
  far : ∀ k, k < W.heap.size → k ≠ T → w.heap[k]? = W.heap[k]?
  room : T + 1 ≤ w.heap.size
  xt : X < T
  inc : InC P w D F
  h0 : f 0 = true → Em w (T + 1) 3 u5
  h1 : f 1 = true → u6 = .pointer (some ⟨X, 1, none⟩)
  h2 : f 2 = true → u7 = .slice F.ai D.ins.length F.ci
  h3 : f 3 = true → w.ownsRow (T + 1) 3 1 u8 D.ins.length (flat enc1 D.ins)
  h4 : f 4 = true → Em w (T + 1) 3 u9
  h5 : f 5 = true → u10 = .pointer (some ⟨X, 3, none⟩)
  h6 : f 6 = true → u11 = .slice F.ao D.outs.length F.co
  h7 : f 7 = true → w.ownsRow (T + 1) 3 1 u12 D.outs.length (flat enc1 D.outs)
  h8 : f 8 = true → Em w (T + 1) 3 u13
  h9 : f 9 = true → u14 = .pointer (some ⟨X, 4, none⟩)
  h10 : f 10 = true → u15 = .slice F.ab D.bads.length F.cb
  h11 : f 11 = true → w.ownsRow (T + 1) 3 1 u16 D.bads.length (flat enc1 D.bads)
  h12 : f 12 = true → Em w (T + 1) 3 u17
  h13 : f 13 = true → u18 = .pointer (some ⟨X, 5, none⟩)
  h14 : f 14 = true → u19 = .slice F.ac D.cons.length F.cc
  h15 : f 15 = true → w.ownsRow (T + 1) 3 1 u20 D.cons.length (flat enc1 D.cons)
  h16 : f 16 = true → u21 = .pointer (some ⟨T, 1, none⟩)
  e17 : f 17 = true → f 3 = true
  h18 : f 18 = true → u22 = .pointer (some ⟨T, 3, none⟩)
  e19 : f 19 = true → f 7 = true
  h20 : f 20 = true → u23 = .pointer (some ⟨T, 4, none⟩)
  e21 : f 21 = true → f 11 = true
  h22 : f 22 = true → u24 = .pointer (some ⟨T, 5, none⟩)
  e23 : f 23 = true → f 15 = true
theorem JA.on {D : CD} {F : CF} {P : Nat → Prop} {W : World} {X T : Nat} {c0 c1 c2 c3 c4 c5 c6 c7 c8 : Value} {f : Nat → Bool} {u5 u6 u7 u8 u9 u10 u11 u12 u13 u14 u15 u16 u17 u18 u19 u20 u21 u22 u23 u24 : Value} {w : World} {w' : World} (h : JA D F P W X T c0 c1 c2 c3 c4 c5 c6 c7 c8 f u5 u6 u7 u8 u9 u10 u11 u12 u13 u14 u15 u16 u17 u18 u19 u20 u21 u22 u23 u24 w) (hb : Below w.heap.size w w') : JA D F P W X T c0 c1 c2 c3 c4 c5 c6 c7 c8 f u5 u6 u7 u8 u9 u10 u11 u12 u13 u14 u15 u16 u17 u18 u19 u20 u21 u22 u23 u24 w' :=
  ⟨h.x.on hb, h.t.on hb, h.bel.trans (hb.mono (by have := h.room; omega)), fun k hk hne => (hb.block k (Nat.lt_of_lt_of_le hk h.bel.size)).trans (h.far k hk hne), Nat.le_trans h.room hb.size, h.xt, h.inc.on hb, fun k => (h.h0 k).on hb, h.h1, h.h2, fun k => own_on (h.h3 k) hb, fun k => (h.h4 k).on hb, h.h5, h.h6, fun k => own_on (h.h7 k) hb, fun k => (h.h8 k).on hb, h.h9, h.h10, fun k => own_on (h.h11 k) hb, fun k => (h.h12 k).on hb, h.h13, h.h14, fun k => own_on (h.h15 k) hb, h.h16, h.e17, h.h18, h.e19, h.h20, h.e21, h.h22, h.e23⟩
theorem JA.s0 {D : CD} {F : CF} {P : Nat → Prop} {W : World} {X T : Nat} {c0 c1 c2 c3 c4 c5 c6 c7 c8 : Value} {f : Nat → Bool} {u5 u6 u7 u8 u9 u10 u11 u12 u13 u14 u15 u16 u17 u18 u19 u20 u21 u22 u23 u24 : Value} {w : World} (h : JA D F P W X T c0 c1 c2 c3 c4 c5 c6 c7 c8 f u5 u6 u7 u8 u9 u10 u11 u12 u13 u14 u15 u16 u17 u18 u19 u20 u21 u22 u23 u24 w) : JA D F P W X T c0 c1 c2 c3 c4 c5 c6 c7 c8 (upd f 0) (.slice (some ⟨w.heap.size, 0, none⟩) 0 0) u6 u7 u8 u9 u10 u11 u12 u13 u14 u15 u16 u17 u18 u19 u20 u21 u22 u23 u24 (w.alloc (.cells #[] 3)) := by
  have hb : Below w.heap.size w (w.alloc (.cells #[] 3)) := (Below.refl _ _).alloc (Nat.le_refl _) _
  exact ⟨h.x.on hb, by simpa [dA, upd] using h.t.on hb, h.bel.trans (hb.mono (by have := h.room; omega)), fun k hk hne => (hb.block k (Nat.lt_of_lt_of_le hk h.bel.size)).trans (h.far k hk hne), Nat.le_trans h.room hb.size, h.xt, h.inc.on hb, fun _ => em_new w h.room, fun k => h.h1 (by simpa [upd] using k), fun k => h.h2 (by simpa [upd] using k), fun k => own_on (h.h3 (by simpa [upd] using k)) hb, fun k => (h.h4 (by simpa [upd] using k)).on hb, fun k => h.h5 (by simpa [upd] using k), fun k => h.h6 (by simpa [upd] using k), fun k => own_on (h.h7 (by simpa [upd] using k)) hb, fun k => (h.h8 (by simpa [upd] using k)).on hb, fun k => h.h9 (by simpa [upd] using k), fun k => h.h10 (by simpa [upd] using k), fun k => own_on (h.h11 (by simpa [upd] using k)) hb, fun k => (h.h12 (by simpa [upd] using k)).on hb, fun k => h.h13 (by simpa [upd] using k), fun k => h.h14 (by simpa [upd] using k), fun k => own_on (h.h15 (by simpa [upd] using k)) hb, fun k => h.h16 (by simpa [upd] using k), fun k => by have := h.e17 (by simpa [upd] using k); simp [upd, this], fun k => h.h18 (by simpa [upd] using k), fun k => by have := h.e19 (by simpa [upd] using k); simp [upd, this], fun k => h.h20 (by simpa [upd] using k), fun k => by have := h.e21 (by simpa [upd] using k); simp [upd, this], fun k => h.h22 (by simpa [upd] using k), fun k => by have := h.e23 (by simpa [upd] using k); simp [upd, this]⟩
theorem JA.s1 {D : CD} {F : CF} {P : Nat → Prop} {W : World} {X T : Nat} {c0 c1 c2 c3 c4 c5 c6 c7 c8 : Value} {f : Nat → Bool} {u5 u6 u7 u8 u9 u10 u11 u12 u13 u14 u15 u16 u17 u18 u19 u20 u21 u22 u23 u24 : Value} {w : World} (h : JA D F P W X T c0 c1 c2 c3 c4 c5 c6 c7 c8 f u5 u6 u7 u8 u9 u10 u11 u12 u13 u14 u15 u16 u17 u18 u19 u20 u21 u22 u23 u24 w) : JA D F P W X T c0 c1 c2 c3 c4 c5 c6 c7 c8 (upd f 1) u5 (.pointer (some ⟨X, 1, none⟩)) u7 u8 u9 u10 u11 u12 u13 u14 u15 u16 u17 u18 u19 u20 u21 u22 u23 u24 w :=
  ⟨h.x, by simpa [dA, upd] using h.t, h.bel, h.far, h.room, h.xt, h.inc, fun k => h.h0 (by simpa [upd] using k), fun _ => rfl, fun k => h.h2 (by simpa [upd] using k), fun k => h.h3 (by simpa [upd] using k), fun k => h.h4 (by simpa [upd] using k), fun k => h.h5 (by simpa [upd] using k), fun k => h.h6 (by simpa [upd] using k), fun k => h.h7 (by simpa [upd] using k), fun k => h.h8 (by simpa [upd] using k), fun k => h.h9 (by simpa [upd] using k), fun k => h.h10 (by simpa [upd] using k), fun k => h.h11 (by simpa [upd] using k), fun k => h.h12 (by simpa [upd] using k), fun k => h.h13 (by simpa [upd] using k), fun k => h.h14 (by simpa [upd] using k), fun k => h.h15 (by simpa [upd] using k), fun k => h.h16 (by simpa [upd] using k), fun k => by have := h.e17 (by simpa [upd] using k); simp [upd, this], fun k => h.h18 (by simpa [upd] using k), fun k => by have := h.e19 (by simpa [upd] using k); simp [upd, this], fun k => h.h20 (by simpa [upd] using k), fun k => by have := h.e21 (by simpa [upd] using k); simp [upd, this], fun k => h.h22 (by simpa [upd] using k), fun k => by have := h.e23 (by simpa [upd] using k); simp [upd, this]⟩
theorem JA.s2 {D : CD} {F : CF} {P : Nat → Prop} {W : World} {X T : Nat} {c0 c1 c2 c3 c4 c5 c6 c7 c8 : Value} {f : Nat → Bool} {u5 u6 u7 u8 u9 u10 u11 u12 u13 u14 u15 u16 u17 u18 u19 u20 u21 u22 u23 u24 : Value} {w : World} (h : JA D F P W X T c0 c1 c2 c3 c4 c5 c6 c7 c8 f u5 u6 u7 u8 u9 u10 u11 u12 u13 u14 u15 u16 u17 u18 u19 u20 u21 u22 u23 u24 w) : JA D F P W X T c0 c1 c2 c3 c4 c5 c6 c7 c8 (upd f 2) u5 u6 (.slice F.ai D.ins.length F.ci) u8 u9 u10 u11 u12 u13 u14 u15 u16 u17 u18 u19 u20 u21 u22 u23 u24 w :=
  ⟨h.x, by simpa [dA, upd] using h.t, h.bel, h.far, h.room, h.xt, h.inc, fun k => h.h0 (by simpa [upd] using k), fun k => h.h1 (by simpa [upd] using k), fun _ => rfl, fun k => h.h3 (by simpa [upd] using k), fun k => h.h4 (by simpa [upd] using k), fun k => h.h5 (by simpa [upd] using k), fun k => h.h6 (by simpa [upd] using k), fun k => h.h7 (by simpa [upd] using k), fun k => h.h8 (by simpa [upd] using k), fun k => h.h9 (by simpa [upd] using k), fun k => h.h10 (by simpa [upd] using k), fun k => h.h11 (by simpa [upd] using k), fun k => h.h12 (by simpa [upd] using k), fun k => h.h13 (by simpa [upd] using k), fun k => h.h14 (by simpa [upd] using k), fun k => h.h15 (by simpa [upd] using k), fun k => h.h16 (by simpa [upd] using k), fun k => by have := h.e17 (by simpa [upd] using k); simp [upd, this], fun k => h.h18 (by simpa [upd] using k), fun k => by have := h.e19 (by simpa [upd] using k); simp [upd, this], fun k => h.h20 (by simpa [upd] using k), fun k => by have := h.e21 (by simpa [upd] using k); simp [upd, this], fun k => h.h22 (by simpa [upd] using k), fun k => by have := h.e23 (by simpa [upd] using k); simp [upd, this]⟩
theorem JA.s3 {D : CD} {F : CF} {P : Nat → Prop} {W : World} {X T : Nat} {c0 c1 c2 c3 c4 c5 c6 c7 c8 : Value} {f : Nat → Bool} {u5 u6 u7 u8 u9 u10 u11 u12 u13 u14 u15 u16 u17 u18 u19 u20 u21 u22 u23 u24 : Value} {w : World} {v' : Value} (h : JA D F P W X T c0 c1 c2 c3 c4 c5 c6 c7 c8 f u5 u6 u7 u8 u9 u10 u11 u12 u13 u14 u15 u16 u17 u18 u19 u20 u21 u22 u23 u24 w) (hf : f 3 = false) (hv : w.ownsRow (T + 1) 3 1 v' D.ins.length (flat enc1 D.ins)) : JA D F P W X T c0 c1 c2 c3 c4 c5 c6 c7 c8 (upd f 3) u5 u6 u7 v' u9 u10 u11 u12 u13 u14 u15 u16 u17 u18 u19 u20 u21 u22 u23 u24 w := by
  have e : f 17 = false := by
    cases hs : f 17 with
    | false => rfl
    | true => exact absurd (h.e17 hs) (by simp [hf])
  exact ⟨h.x, by simpa [dA, upd, e] using h.t, h.bel, h.far, h.room, h.xt, h.inc, fun k => h.h0 (by simpa [upd] using k), fun k => h.h1 (by simpa [upd] using k), fun k => h.h2 (by simpa [upd] using k), fun _ => hv, fun k => h.h4 (by simpa [upd] using k), fun k => h.h5 (by simpa [upd] using k), fun k => h.h6 (by simpa [upd] using k), fun k => h.h7 (by simpa [upd] using k), fun k => h.h8 (by simpa [upd] using k), fun k => h.h9 (by simpa [upd] using k), fun k => h.h10 (by simpa [upd] using k), fun k => h.h11 (by simpa [upd] using k), fun k => h.h12 (by simpa [upd] using k), fun k => h.h13 (by simpa [upd] using k), fun k => h.h14 (by simpa [upd] using k), fun k => h.h15 (by simpa [upd] using k), fun k => h.h16 (by simpa [upd] using k), fun _ => by simp [upd], fun k => h.h18 (by simpa [upd] using k), fun k => by have := h.e19 (by simpa [upd] using k); simp [upd, this], fun k => h.h20 (by simpa [upd] using k), fun k => by have := h.e21 (by simpa [upd] using k); simp [upd, this], fun k => h.h22 (by simpa [upd] using k), fun k => by have := h.e23 (by simpa [upd] using k); simp [upd, this]⟩
theorem JA.s4 {D : CD} {F : CF} {P : Nat → Prop} {W : World} {X T : Nat} {c0 c1 c2 c3 c4 c5 c6 c7 c8 : Value} {f : Nat → Bool} {u5 u6 u7 u8 u9 u10 u11 u12 u13 u14 u15 u16 u17 u18 u19 u20 u21 u22 u23 u24 : Value} {w : World} (h : JA D F P W X T c0 c1 c2 c3 c4 c5 c6 c7 c8 f u5 u6 u7 u8 u9 u10 u11 u12 u13 u14 u15 u16 u17 u18 u19 u20 u21 u22 u23 u24 w) : JA D F P W X T c0 c1 c2 c3 c4 c5 c6 c7 c8 (upd f 4) u5 u6 u7 u8 (.slice (some ⟨w.heap.size, 0, none⟩) 0 0) u10 u11 u12 u13 u14 u15 u16 u17 u18 u19 u20 u21 u22 u23 u24 (w.alloc (.cells #[] 3)) := by
  have hb : Below w.heap.size w (w.alloc (.cells #[] 3)) := (Below.refl _ _).alloc (Nat.le_refl _) _
  exact ⟨h.x.on hb, by simpa [dA, upd] using h.t.on hb, h.bel.trans (hb.mono (by have := h.room; omega)), fun k hk hne => (hb.block k (Nat.lt_of_lt_of_le hk h.bel.size)).trans (h.far k hk hne), Nat.le_trans h.room hb.size, h.xt, h.inc.on hb, fun k => (h.h0 (by simpa [upd] using k)).on hb, fun k => h.h1 (by simpa [upd] using k), fun k => h.h2 (by simpa [upd] using k), fun k => own_on (h.h3 (by simpa [upd] using k)) hb, fun _ => em_new w h.room, fun k => h.h5 (by simpa [upd] using k), fun k => h.h6 (by simpa [upd] using k), fun k => own_on (h.h7 (by simpa [upd] using k)) hb, fun k => (h.h8 (by simpa [upd] using k)).on hb, fun k => h.h9 (by simpa [upd] using k), fun k => h.h10 (by simpa [upd] using k), fun k => own_on (h.h11 (by simpa [upd] using k)) hb, fun k => (h.h12 (by simpa [upd] using k)).on hb, fun k => h.h13 (by simpa [upd] using k), fun k => h.h14 (by simpa [upd] using k), fun k => own_on (h.h15 (by simpa [upd] using k)) hb, fun k => h.h16 (by simpa [upd] using k), fun k => by have := h.e17 (by simpa [upd] using k); simp [upd, this], fun k => h.h18 (by simpa [upd] using k), fun k => by have := h.e19 (by simpa [upd] using k); simp [upd, this], fun k => h.h20 (by simpa [upd] using k), fun k => by have := h.e21 (by simpa [upd] using k); simp [upd, this], fun k => h.h22 (by simpa [upd] using k), fun k => by have := h.e23 (by simpa [upd] using k); simp [upd, this]⟩
theorem JA.s5 {D : CD} {F : CF} {P : Nat → Prop} {W : World} {X T : Nat} {c0 c1 c2 c3 c4 c5 c6 c7 c8 : Value} {f : Nat → Bool} {u5 u6 u7 u8 u9 u10 u11 u12 u13 u14 u15 u16 u17 u18 u19 u20 u21 u22 u23 u24 : Value} {w : World} (h : JA D F P W X T c0 c1 c2 c3 c4 c5 c6 c7 c8 f u5 u6 u7 u8 u9 u10 u11 u12 u13 u14 u15 u16 u17 u18 u19 u20 u21 u22 u23 u24 w) : JA D F P W X T c0 c1 c2 c3 c4 c5 c6 c7 c8 (upd f 5) u5 u6 u7 u8 u9 (.pointer (some ⟨X, 3, none⟩)) u11 u12 u13 u14 u15 u16 u17 u18 u19 u20 u21 u22 u23 u24 w :=
  ⟨h.x, by simpa [dA, upd] using h.t, h.bel, h.far, h.room, h.xt, h.inc, fun k => h.h0 (by simpa [upd] using k), fun k => h.h1 (by simpa [upd] using k), fun k => h.h2 (by simpa [upd] using k), fun k => h.h3 (by simpa [upd] using k), fun k => h.h4 (by simpa [upd] using k), fun _ => rfl, fun k => h.h6 (by simpa [upd] using k), fun k => h.h7 (by simpa [upd] using k), fun k => h.h8 (by simpa [upd] using k), fun k => h.h9 (by simpa [upd] using k), fun k => h.h10 (by simpa [upd] using k), fun k => h.h11 (by simpa [upd] using k), fun k => h.h12 (by simpa [upd] using k), fun k => h.h13 (by simpa [upd] using k), fun k => h.h14 (by simpa [upd] using k), fun k => h.h15 (by simpa [upd] using k), fun k => h.h16 (by simpa [upd] using k), fun k => by have := h.e17 (by simpa [upd] using k); simp [upd, this], fun k => h.h18 (by simpa [upd] using k), fun k => by have := h.e19 (by simpa [upd] using k); simp [upd, this], fun k => h.h20 (by simpa [upd] using k), fun k => by have := h.e21 (by simpa [upd] using k); simp [upd, this], fun k => h.h22 (by simpa [upd] using k), fun k => by have := h.e23 (by simpa [upd] using k); simp [upd, this]⟩
theorem JA.s6 {D : CD} {F : CF} {P : Nat → Prop} {W : World} {X T : Nat} {c0 c1 c2 c3 c4 c5 c6 c7 c8 : Value} {f : Nat → Bool} {u5 u6 u7 u8 u9 u10 u11 u12 u13 u14 u15 u16 u17 u18 u19 u20 u21 u22 u23 u24 : Value} {w : World} (h : JA D F P W X T c0 c1 c2 c3 c4 c5 c6 c7 c8 f u5 u6 u7 u8 u9 u10 u11 u12 u13 u14 u15 u16 u17 u18 u19 u20 u21 u22 u23 u24 w) : JA D F P W X T c0 c1 c2 c3 c4 c5 c6 c7 c8 (upd f 6) u5 u6 u7 u8 u9 u10 (.slice F.ao D.outs.length F.co) u12 u13 u14 u15 u16 u17 u18 u19 u20 u21 u22 u23 u24 w :=
  ⟨h.x, by simpa [dA, upd] using h.t, h.bel, h.far, h.room, h.xt, h.inc, fun k => h.h0 (by simpa [upd] using k), fun k => h.h1 (by simpa [upd] using k), fun k => h.h2 (by simpa [upd] using k), fun k => h.h3 (by simpa [upd] using k), fun k => h.h4 (by simpa [upd] using k), fun k => h.h5 (by simpa [upd] using k), fun _ => rfl, fun k => h.h7 (by simpa [upd] using k), fun k => h.h8 (by simpa [upd] using k), fun k => h.h9 (by simpa [upd] using k), fun k => h.h10 (by simpa [upd] using k), fun k => h.h11 (by simpa [upd] using k), fun k => h.h12 (by simpa [upd] using k), fun k => h.h13 (by simpa [upd] using k), fun k => h.h14 (by simpa [upd] using k), fun k => h.h15 (by simpa [upd] using k), fun k => h.h16 (by simpa [upd] using k), fun k => by have := h.e17 (by simpa [upd] using k); simp [upd, this], fun k => h.h18 (by simpa [upd] using k), fun k => by have := h.e19 (by simpa [upd] using k); simp [upd, this], fun k => h.h20 (by simpa [upd] using k), fun k => by have := h.e21 (by simpa [upd] using k); simp [upd, this], fun k => h.h22 (by simpa [upd] using k), fun k => by have := h.e23 (by simpa [upd] using k); simp [upd, this]⟩
theorem JA.s7 {D : CD} {F : CF} {P : Nat → Prop} {W : World} {X T : Nat} {c0 c1 c2 c3 c4 c5 c6 c7 c8 : Value} {f : Nat → Bool} {u5 u6 u7 u8 u9 u10 u11 u12 u13 u14 u15 u16 u17 u18 u19 u20 u21 u22 u23 u24 : Value} {w : World} {v' : Value} (h : JA D F P W X T c0 c1 c2 c3 c4 c5 c6 c7 c8 f u5 u6 u7 u8 u9 u10 u11 u12 u13 u14 u15 u16 u17 u18 u19 u20 u21 u22 u23 u24 w) (hf : f 7 = false) (hv : w.ownsRow (T + 1) 3 1 v' D.outs.length (flat enc1 D.outs)) : JA D F P W X T c0 c1 c2 c3 c4 c5 c6 c7 c8 (upd f 7) u5 u6 u7 u8 u9 u10 u11 v' u13 u14 u15 u16 u17 u18 u19 u20 u21 u22 u23 u24 w := by
  have e : f 19 = false := by
    cases hs : f 19 with
    | false => rfl
    | true => exact absurd (h.e19 hs) (by simp [hf])
  exact ⟨h.x, by simpa [dA, upd, e] using h.t, h.bel, h.far, h.room, h.xt, h.inc, fun k => h.h0 (by simpa [upd] using k), fun k => h.h1 (by simpa [upd] using k), fun k => h.h2 (by simpa [upd] using k), fun k => h.h3 (by simpa [upd] using k), fun k => h.h4 (by simpa [upd] using k), fun k => h.h5 (by simpa [upd] using k), fun k => h.h6 (by simpa [upd] using k), fun _ => hv, fun k => h.h8 (by simpa [upd] using k), fun k => h.h9 (by simpa [upd] using k), fun k => h.h10 (by simpa [upd] using k), fun k => h.h11 (by simpa [upd] using k), fun k => h.h12 (by simpa [upd] using k), fun k => h.h13 (by simpa [upd] using k), fun k => h.h14 (by simpa [upd] using k), fun k => h.h15 (by simpa [upd] using k), fun k => h.h16 (by simpa [upd] using k), fun k => by have := h.e17 (by simpa [upd] using k); simp [upd, this], fun k => h.h18 (by simpa [upd] using k), fun _ => by simp [upd], fun k => h.h20 (by simpa [upd] using k), fun k => by have := h.e21 (by simpa [upd] using k); simp [upd, this], fun k => h.h22 (by simpa [upd] using k), fun k => by have := h.e23 (by simpa [upd] using k); simp [upd, this]⟩
theorem JA.s8 {D : CD} {F : CF} {P : Nat → Prop} {W : World} {X T : Nat} {c0 c1 c2 c3 c4 c5 c6 c7 c8 : Value} {f : Nat → Bool} {u5 u6 u7 u8 u9 u10 u11 u12 u13 u14 u15 u16 u17 u18 u19 u20 u21 u22 u23 u24 : Value} {w : World} (h : JA D F P W X T c0 c1 c2 c3 c4 c5 c6 c7 c8 f u5 u6 u7 u8 u9 u10 u11 u12 u13 u14 u15 u16 u17 u18 u19 u20 u21 u22 u23 u24 w) : JA D F P W X T c0 c1 c2 c3 c4 c5 c6 c7 c8 (upd f 8) u5 u6 u7 u8 u9 u10 u11 u12 (.slice (some ⟨w.heap.size, 0, none⟩) 0 0) u14 u15 u16 u17 u18 u19 u20 u21 u22 u23 u24 (w.alloc (.cells #[] 3)) := by
  have hb : Below w.heap.size w (w.alloc (.cells #[] 3)) := (Below.refl _ _).alloc (Nat.le_refl _) _
  exact ⟨h.x.on hb, by simpa [dA, upd] using h.t.on hb, h.bel.trans (hb.mono (by have := h.room; omega)), fun k hk hne => (hb.block k (Nat.lt_of_lt_of_le hk h.bel.size)).trans (h.far k hk hne), Nat.le_trans h.room hb.size, h.xt, h.inc.on hb, fun k => (h.h0 (by simpa [upd] using k)).on hb, fun k => h.h1 (by simpa [upd] using k), fun k => h.h2 (by simpa [upd] using k), fun k => own_on (h.h3 (by simpa [upd] using k)) hb, fun k => (h.h4 (by simpa [upd] using k)).on hb, fun k => h.h5 (by simpa [upd] using k), fun k => h.h6 (by simpa [upd] using k), fun k => own_on (h.h7 (by simpa [upd] using k)) hb, fun _ => em_new w h.room, fun k => h.h9 (by simpa [upd] using k), fun k => h.h10 (by simpa [upd] using k), fun k => own_on (h.h11 (by simpa [upd] using k)) hb, fun k => (h.h12 (by simpa [upd] using k)).on hb, fun k => h.h13 (by simpa [upd] using k), fun k => h.h14 (by simpa [upd] using k), fun k => own_on (h.h15 (by simpa [upd] using k)) hb, fun k => h.h16 (by simpa [upd] using k), fun k => by have := h.e17 (by simpa [upd] using k); simp [upd, this], fun k => h.h18 (by simpa [upd] using k), fun k => by have := h.e19 (by simpa [upd] using k); simp [upd, this], fun k => h.h20 (by simpa [upd] using k), fun k => by have := h.e21 (by simpa [upd] using k); simp [upd, this], fun k => h.h22 (by simpa [upd] using k), fun k => by have := h.e23 (by simpa [upd] using k); simp [upd, this]⟩
theorem JA.s9 {D : CD} {F : CF} {P : Nat → Prop} {W : World} {X T : Nat} {c0 c1 c2 c3 c4 c5 c6 c7 c8 : Value} {f : Nat → Bool} {u5 u6 u7 u8 u9 u10 u11 u12 u13 u14 u15 u16 u17 u18 u19 u20 u21 u22 u23 u24 : Value} {w : World} (h : JA D F P W X T c0 c1 c2 c3 c4 c5 c6 c7 c8 f u5 u6 u7 u8 u9 u10 u11 u12 u13 u14 u15 u16 u17 u18 u19 u20 u21 u22 u23 u24 w) : JA D F P W X T c0 c1 c2 c3 c4 c5 c6 c7 c8 (upd f 9) u5 u6 u7 u8 u9 u10 u11 u12 u13 (.pointer (some ⟨X, 4, none⟩)) u15 u16 u17 u18 u19 u20 u21 u22 u23 u24 w :=
  ⟨h.x, by simpa [dA, upd] using h.t, h.bel, h.far, h.room, h.xt, h.inc, fun k => h.h0 (by simpa [upd] using k), fun k => h.h1 (by simpa [upd] using k), fun k => h.h2 (by simpa [upd] using k), fun k => h.h3 (by simpa [upd] using k), fun k => h.h4 (by simpa [upd] using k), fun k => h.h5 (by simpa [upd] using k), fun k => h.h6 (by simpa [upd] using k), fun k => h.h7 (by simpa [upd] using k), fun k => h.h8 (by simpa [upd] using k), fun _ => rfl, fun k => h.h10 (by simpa [upd] using k), fun k => h.h11 (by simpa [upd] using k), fun k => h.h12 (by simpa [upd] using k), fun k => h.h13 (by simpa [upd] using k), fun k => h.h14 (by simpa [upd] using k), fun k => h.h15 (by simpa [upd] using k), fun k => h.h16 (by simpa [upd] using k), fun k => by have := h.e17 (by simpa [upd] using k); simp [upd, this], fun k => h.h18 (by simpa [upd] using k), fun k => by have := h.e19 (by simpa [upd] using k); simp [upd, this], fun k => h.h20 (by simpa [upd] using k), fun k => by have := h.e21 (by simpa [upd] using k); simp [upd, this], fun k => h.h22 (by simpa [upd] using k), fun k => by have := h.e23 (by simpa [upd] using k); simp [upd, this]⟩
theorem JA.s10 {D : CD} {F : CF} {P : Nat → Prop} {W : World} {X T : Nat} {c0 c1 c2 c3 c4 c5 c6 c7 c8 : Value} {f : Nat → Bool} {u5 u6 u7 u8 u9 u10 u11 u12 u13 u14 u15 u16 u17 u18 u19 u20 u21 u22 u23 u24 : Value} {w : World} (h : JA D F P W X T c0 c1 c2 c3 c4 c5 c6 c7 c8 f u5 u6 u7 u8 u9 u10 u11 u12 u13 u14 u15 u16 u17 u18 u19 u20 u21 u22 u23 u24 w) : JA D F P W X T c0 c1 c2 c3 c4 c5 c6 c7 c8 (upd f 10) u5 u6 u7 u8 u9 u10 u11 u12 u13 u14 (.slice F.ab D.bads.length F.cb) u16 u17 u18 u19 u20 u21 u22 u23 u24 w :=
  ⟨h.x, by simpa [dA, upd] using h.t, h.bel, h.far, h.room, h.xt, h.inc, fun k => h.h0 (by simpa [upd] using k), fun k => h.h1 (by simpa [upd] using k), fun k => h.h2 (by simpa [upd] using k), fun k => h.h3 (by simpa [upd] using k), fun k => h.h4 (by simpa [upd] using k), fun k => h.h5 (by simpa [upd] using k), fun k => h.h6 (by simpa [upd] using k), fun k => h.h7 (by simpa [upd] using k), fun k => h.h8 (by simpa [upd] using k), fun k => h.h9 (by simpa [upd] using k), fun _ => rfl, fun k => h.h11 (by simpa [upd] using k), fun k => h.h12 (by simpa [upd] using k), fun k => h.h13 (by simpa [upd] using k), fun k => h.h14 (by simpa [upd] using k), fun k => h.h15 (by simpa [upd] using k), fun k => h.h16 (by simpa [upd] using k), fun k => by have := h.e17 (by simpa [upd] using k); simp [upd, this], fun k => h.h18 (by simpa [upd] using k), fun k => by have := h.e19 (by simpa [upd] using k); simp [upd, this], fun k => h.h20 (by simpa [upd] using k), fun k => by have := h.e21 (by simpa [upd] using k); simp [upd, this], fun k => h.h22 (by simpa [upd] using k), fun k => by have := h.e23 (by simpa [upd] using k); simp [upd, this]⟩
theorem JA.s11 {D : CD} {F : CF} {P : Nat → Prop} {W : World} {X T : Nat} {c0 c1 c2 c3 c4 c5 c6 c7 c8 : Value} {f : Nat → Bool} {u5 u6 u7 u8 u9 u10 u11 u12 u13 u14 u15 u16 u17 u18 u19 u20 u21 u22 u23 u24 : Value} {w : World} {v' : Value} (h : JA D F P W X T c0 c1 c2 c3 c4 c5 c6 c7 c8 f u5 u6 u7 u8 u9 u10 u11 u12 u13 u14 u15 u16 u17 u18 u19 u20 u21 u22 u23 u24 w) (hf : f 11 = false) (hv : w.ownsRow (T + 1) 3 1 v' D.bads.length (flat enc1 D.bads)) : JA D F P W X T c0 c1 c2 c3 c4 c5 c6 c7 c8 (upd f 11) u5 u6 u7 u8 u9 u10 u11 u12 u13 u14 u15 v' u17 u18 u19 u20 u21 u22 u23 u24 w := by
  have e : f 21 = false := by
    cases hs : f 21 with
    | false => rfl
    | true => exact absurd (h.e21 hs) (by simp [hf])
  exact ⟨h.x, by simpa [dA, upd, e] using h.t, h.bel, h.far, h.room, h.xt, h.inc, fun k => h.h0 (by simpa [upd] using k), fun k => h.h1 (by simpa [upd] using k), fun k => h.h2 (by simpa [upd] using k), fun k => h.h3 (by simpa [upd] using k), fun k => h.h4 (by simpa [upd] using k), fun k => h.h5 (by simpa [upd] using k), fun k => h.h6 (by simpa [upd] using k), fun k => h.h7 (by simpa [upd] using k), fun k => h.h8 (by simpa [upd] using k), fun k => h.h9 (by simpa [upd] using k), fun k => h.h10 (by simpa [upd] using k), fun _ => hv, fun k => h.h12 (by simpa [upd] using k), fun k => h.h13 (by simpa [upd] using k), fun k => h.h14 (by simpa [upd] using k), fun k => h.h15 (by simpa [upd] using k), fun k => h.h16 (by simpa [upd] using k), fun k => by have := h.e17 (by simpa [upd] using k); simp [upd, this], fun k => h.h18 (by simpa [upd] using k), fun k => by have := h.e19 (by simpa [upd] using k); simp [upd, this], fun k => h.h20 (by simpa [upd] using k), fun _ => by simp [upd], fun k => h.h22 (by simpa [upd] using k), fun k => by have := h.e23 (by simpa [upd] using k); simp [upd, this]⟩
theorem JA.s12 {D : CD} {F : CF} {P : Nat → Prop} {W : World} {X T : Nat} {c0 c1 c2 c3 c4 c5 c6 c7 c8 : Value} {f : Nat → Bool} {u5 u6 u7 u8 u9 u10 u11 u12 u13 u14 u15 u16 u17 u18 u19 u20 u21 u22 u23 u24 : Value} {w : World} (h : JA D F P W X T c0 c1 c2 c3 c4 c5 c6 c7 c8 f u5 u6 u7 u8 u9 u10 u11 u12 u13 u14 u15 u16 u17 u18 u19 u20 u21 u22 u23 u24 w) : JA D F P W X T c0 c1 c2 c3 c4 c5 c6 c7 c8 (upd f 12) u5 u6 u7 u8 u9 u10 u11 u12 u13 u14 u15 u16 (.slice (some ⟨w.heap.size, 0, none⟩) 0 0) u18 u19 u20 u21 u22 u23 u24 (w.alloc (.cells #[] 3)) := by
  have hb : Below w.heap.size w (w.alloc (.cells #[] 3)) := (Below.refl _ _).alloc (Nat.le_refl _) _
  exact ⟨h.x.on hb, by simpa [dA, upd] using h.t.on hb, h.bel.trans (hb.mono (by have := h.room; omega)), fun k hk hne => (hb.block k (Nat.lt_of_lt_of_le hk h.bel.size)).trans (h.far k hk hne), Nat.le_trans h.room hb.size, h.xt, h.inc.on hb, fun k => (h.h0 (by simpa [upd] using k)).on hb, fun k => h.h1 (by simpa [upd] using k), fun k => h.h2 (by simpa [upd] using k), fun k => own_on (h.h3 (by simpa [upd] using k)) hb, fun k => (h.h4 (by simpa [upd] using k)).on hb, fun k => h.h5 (by simpa [upd] using k), fun k => h.h6 (by simpa [upd] using k), fun k => own_on (h.h7 (by simpa [upd] using k)) hb, fun k => (h.h8 (by simpa [upd] using k)).on hb, fun k => h.h9 (by simpa [upd] using k), fun k => h.h10 (by simpa [upd] using k), fun k => own_on (h.h11 (by simpa [upd] using k)) hb, fun _ => em_new w h.room, fun k => h.h13 (by simpa [upd] using k), fun k => h.h14 (by simpa [upd] using k), fun k => own_on (h.h15 (by simpa [upd] using k)) hb, fun k => h.h16 (by simpa [upd] using k), fun k => by have := h.e17 (by simpa [upd] using k); simp [upd, this], fun k => h.h18 (by simpa [upd] using k), fun k => by have := h.e19 (by simpa [upd] using k); simp [upd, this], fun k => h.h20 (by simpa [upd] using k), fun k => by have := h.e21 (by simpa [upd] using k); simp [upd, this], fun k => h.h22 (by simpa [upd] using k), fun k => by have := h.e23 (by simpa [upd] using k); simp [upd, this]⟩
theorem JA.s13 {D : CD} {F : CF} {P : Nat → Prop} {W : World} {X T : Nat} {c0 c1 c2 c3 c4 c5 c6 c7 c8 : Value} {f : Nat → Bool} {u5 u6 u7 u8 u9 u10 u11 u12 u13 u14 u15 u16 u17 u18 u19 u20 u21 u22 u23 u24 : Value} {w : World} (h : JA D F P W X T c0 c1 c2 c3 c4 c5 c6 c7 c8 f u5 u6 u7 u8 u9 u10 u11 u12 u13 u14 u15 u16 u17 u18 u19 u20 u21 u22 u23 u24 w) : JA D F P W X T c0 c1 c2 c3 c4 c5 c6 c7 c8 (upd f 13) u5 u6 u7 u8 u9 u10 u11 u12 u13 u14 u15 u16 u17 (.pointer (some ⟨X, 5, none⟩)) u19 u20 u21 u22 u23 u24 w :=
  ⟨h.x, by simpa [dA, upd] using h.t, h.bel, h.far, h.room, h.xt, h.inc, fun k => h.h0 (by simpa [upd] using k), fun k => h.h1 (by simpa [upd] using k), fun k => h.h2 (by simpa [upd] using k), fun k => h.h3 (by simpa [upd] using k), fun k => h.h4 (by simpa [upd] using k), fun k => h.h5 (by simpa [upd] using k), fun k => h.h6 (by simpa [upd] using k), fun k => h.h7 (by simpa [upd] using k), fun k => h.h8 (by simpa [upd] using k), fun k => h.h9 (by simpa [upd] using k), fun k => h.h10 (by simpa [upd] using k), fun k => h.h11 (by simpa [upd] using k), fun k => h.h12 (by simpa [upd] using k), fun _ => rfl, fun k => h.h14 (by simpa [upd] using k), fun k => h.h15 (by simpa [upd] using k), fun k => h.h16 (by simpa [upd] using k), fun k => by have := h.e17 (by simpa [upd] using k); simp [upd, this], fun k => h.h18 (by simpa [upd] using k), fun k => by have := h.e19 (by simpa [upd] using k); simp [upd, this], fun k => h.h20 (by simpa [upd] using k), fun k => by have := h.e21 (by simpa [upd] using k); simp [upd, this], fun k => h.h22 (by simpa [upd] using k), fun k => by have := h.e23 (by simpa [upd] using k); simp [upd, this]⟩
theorem JA.s14 {D : CD} {F : CF} {P : Nat → Prop} {W : World} {X T : Nat} {c0 c1 c2 c3 c4 c5 c6 c7 c8 : Value} {f : Nat → Bool} {u5 u6 u7 u8 u9 u10 u11 u12 u13 u14 u15 u16 u17 u18 u19 u20 u21 u22 u23 u24 : Value} {w : World} (h : JA D F P W X T c0 c1 c2 c3 c4 c5 c6 c7 c8 f u5 u6 u7 u8 u9 u10 u11 u12 u13 u14 u15 u16 u17 u18 u19 u20 u21 u22 u23 u24 w) : JA D F P W X T c0 c1 c2 c3 c4 c5 c6 c7 c8 (upd f 14) u5 u6 u7 u8 u9 u10 u11 u12 u13 u14 u15 u16 u17 u18 (.slice F.ac D.cons.length F.cc) u20 u21 u22 u23 u24 w :=
  ⟨h.x, by simpa [dA, upd] using h.t, h.bel, h.far, h.room, h.xt, h.inc, fun k => h.h0 (by simpa [upd] using k), fun k => h.h1 (by simpa [upd] using k), fun k => h.h2 (by simpa [upd] using k), fun k => h.h3 (by simpa [upd] using k), fun k => h.h4 (by simpa [upd] using k), fun k => h.h5 (by simpa [upd] using k), fun k => h.h6 (by simpa [upd] using k), fun k => h.h7 (by simpa [upd] using k), fun k => h.h8 (by simpa [upd] using k), fun k => h.h9 (by simpa [upd] using k), fun k => h.h10 (by simpa [upd] using k), fun k => h.h11 (by simpa [upd] using k), fun k => h.h12 (by simpa [upd] using k), fun k => h.h13 (by simpa [upd] using k), fun _ => rfl, fun k => h.h15 (by simpa [upd] using k), fun k => h.h16 (by simpa [upd] using k), fun k => by have := h.e17 (by simpa [upd] using k); simp [upd, this], fun k => h.h18 (by simpa [upd] using k), fun k => by have := h.e19 (by simpa [upd] using k); simp [upd, this], fun k => h.h20 (by simpa [upd] using k), fun k => by have := h.e21 (by simpa [upd] using k); simp [upd, this], fun k => h.h22 (by simpa [upd] using k), fun k => by have := h.e23 (by simpa [upd] using k); simp [upd, this]⟩
theorem JA.s15 {D : CD} {F : CF} {P : Nat → Prop} {W : World} {X T : Nat} {c0 c1 c2 c3 c4 c5 c6 c7 c8 : Value} {f : Nat → Bool} {u5 u6 u7 u8 u9 u10 u11 u12 u13 u14 u15 u16 u17 u18 u19 u20 u21 u22 u23 u24 : Value} {w : World} {v' : Value} (h : JA D F P W X T c0 c1 c2 c3 c4 c5 c6 c7 c8 f u5 u6 u7 u8 u9 u10 u11 u12 u13 u14 u15 u16 u17 u18 u19 u20 u21 u22 u23 u24 w) (hf : f 15 = false) (hv : w.ownsRow (T + 1) 3 1 v' D.cons.length (flat enc1 D.cons)) : JA D F P W X T c0 c1 c2 c3 c4 c5 c6 c7 c8 (upd f 15) u5 u6 u7 u8 u9 u10 u11 u12 u13 u14 u15 u16 u17 u18 u19 v' u21 u22 u23 u24 w := by
  have e : f 23 = false := by
    cases hs : f 23 with
    | false => rfl
    | true => exact absurd (h.e23 hs) (by simp [hf])
  exact ⟨h.x, by simpa [dA, upd, e] using h.t, h.bel, h.far, h.room, h.xt, h.inc, fun k => h.h0 (by simpa [upd] using k), fun k => h.h1 (by simpa [upd] using k), fun k => h.h2 (by simpa [upd] using k), fun k => h.h3 (by simpa [upd] using k), fun k => h.h4 (by simpa [upd] using k), fun k => h.h5 (by simpa [upd] using k), fun k => h.h6 (by simpa [upd] using k), fun k => h.h7 (by simpa [upd] using k), fun k => h.h8 (by simpa [upd] using k), fun k => h.h9 (by simpa [upd] using k), fun k => h.h10 (by simpa [upd] using k), fun k => h.h11 (by simpa [upd] using k), fun k => h.h12 (by simpa [upd] using k), fun k => h.h13 (by simpa [upd] using k), fun k => h.h14 (by simpa [upd] using k), fun _ => hv, fun k => h.h16 (by simpa [upd] using k), fun k => by have := h.e17 (by simpa [upd] using k); simp [upd, this], fun k => h.h18 (by simpa [upd] using k), fun k => by have := h.e19 (by simpa [upd] using k); simp [upd, this], fun k => h.h20 (by simpa [upd] using k), fun k => by have := h.e21 (by simpa [upd] using k); simp [upd, this], fun k => h.h22 (by simpa [upd] using k), fun _ => by simp [upd]⟩
theorem JA.s16 {D : CD} {F : CF} {P : Nat → Prop} {W : World} {X T : Nat} {c0 c1 c2 c3 c4 c5 c6 c7 c8 : Value} {f : Nat → Bool} {u5 u6 u7 u8 u9 u10 u11 u12 u13 u14 u15 u16 u17 u18 u19 u20 u21 u22 u23 u24 : Value} {w : World} (h : JA D F P W X T c0 c1 c2 c3 c4 c5 c6 c7 c8 f u5 u6 u7 u8 u9 u10 u11 u12 u13 u14 u15 u16 u17 u18 u19 u20 u21 u22 u23 u24 w) : JA D F P W X T c0 c1 c2 c3 c4 c5 c6 c7 c8 (upd f 16) u5 u6 u7 u8 u9 u10 u11 u12 u13 u14 u15 u16 u17 u18 u19 u20 (.pointer (some ⟨T, 1, none⟩)) u22 u23 u24 w :=
  ⟨h.x, by simpa [dA, upd] using h.t, h.bel, h.far, h.room, h.xt, h.inc, fun k => h.h0 (by simpa [upd] using k), fun k => h.h1 (by simpa [upd] using k), fun k => h.h2 (by simpa [upd] using k), fun k => h.h3 (by simpa [upd] using k), fun k => h.h4 (by simpa [upd] using k), fun k => h.h5 (by simpa [upd] using k), fun k => h.h6 (by simpa [upd] using k), fun k => h.h7 (by simpa [upd] using k), fun k => h.h8 (by simpa [upd] using k), fun k => h.h9 (by simpa [upd] using k), fun k => h.h10 (by simpa [upd] using k), fun k => h.h11 (by simpa [upd] using k), fun k => h.h12 (by simpa [upd] using k), fun k => h.h13 (by simpa [upd] using k), fun k => h.h14 (by simpa [upd] using k), fun k => h.h15 (by simpa [upd] using k), fun _ => rfl, fun k => by have := h.e17 (by simpa [upd] using k); simp [upd, this], fun k => h.h18 (by simpa [upd] using k), fun k => by have := h.e19 (by simpa [upd] using k); simp [upd, this], fun k => h.h20 (by simpa [upd] using k), fun k => by have := h.e21 (by simpa [upd] using k); simp [upd, this], fun k => h.h22 (by simpa [upd] using k), fun k => by have := h.e23 (by simpa [upd] using k); simp [upd, this]⟩
theorem JA.s17 {D : CD} {F : CF} {P : Nat → Prop} {W : World} {X T : Nat} {c0 c1 c2 c3 c4 c5 c6 c7 c8 : Value} {f : Nat → Bool} {u5 u6 u7 u8 u9 u10 u11 u12 u13 u14 u15 u16 u17 u18 u19 u20 u21 u22 u23 u24 : Value} {w : World} (h : JA D F P W X T c0 c1 c2 c3 c4 c5 c6 c7 c8 f u5 u6 u7 u8 u9 u10 u11 u12 u13 u14 u15 u16 u17 u18 u19 u20 u21 u22 u23 u24 w) (ha : f 3 = true) (hinc : InC P (w.setCell ⟨T, 1, none⟩ u8) D F) : JA D F P W X T c0 c1 c2 c3 c4 c5 c6 c7 c8 (upd f 17) u5 u6 u7 u8 u9 u10 u11 u12 u13 u14 u15 u16 u17 u18 u19 u20 u21 u22 u23 u24 (w.setCell ⟨T, 1, none⟩ u8) :=
  ⟨h.x.other (by have := h.xt; omega) _, by have hh := h.t.put 1 u8; simpa [dA, upd] using hh, h.bel.setCell (p := ⟨T, 1, none⟩) (Nat.le_refl _) _, fun k hk hne => (Below.heap_setCell w ⟨T, 1, none⟩ _ k hne).trans (h.far k hk hne), by simpa using h.room, h.xt, hinc, fun k => (h.h0 (by simpa [upd] using k)).far (by omega) _, fun k => h.h1 (by simpa [upd] using k), fun k => h.h2 (by simpa [upd] using k), fun k => ownsRow_setCell_below (h.h3 (by simpa [upd] using k)) (a := ⟨T, 1, none⟩) (by show T < T + 1; omega) _, fun k => (h.h4 (by simpa [upd] using k)).far (by omega) _, fun k => h.h5 (by simpa [upd] using k), fun k => h.h6 (by simpa [upd] using k), fun k => ownsRow_setCell_below (h.h7 (by simpa [upd] using k)) (a := ⟨T, 1, none⟩) (by show T < T + 1; omega) _, fun k => (h.h8 (by simpa [upd] using k)).far (by omega) _, fun k => h.h9 (by simpa [upd] using k), fun k => h.h10 (by simpa [upd] using k), fun k => ownsRow_setCell_below (h.h11 (by simpa [upd] using k)) (a := ⟨T, 1, none⟩) (by show T < T + 1; omega) _, fun k => (h.h12 (by simpa [upd] using k)).far (by omega) _, fun k => h.h13 (by simpa [upd] using k), fun k => h.h14 (by simpa [upd] using k), fun k => ownsRow_setCell_below (h.h15 (by simpa [upd] using k)) (a := ⟨T, 1, none⟩) (by show T < T + 1; omega) _, fun k => h.h16 (by simpa [upd] using k), fun _ => by simp [upd, ha], fun k => h.h18 (by simpa [upd] using k), fun k => by have := h.e19 (by simpa [upd] using k); simp [upd, this], fun k => h.h20 (by simpa [upd] using k), fun k => by have := h.e21 (by simpa [upd] using k); simp [upd, this], fun k => h.h22 (by simpa [upd] using k), fun k => by have := h.e23 (by simpa [upd] using k); simp [upd, this]⟩
theorem JA.s18 {D : CD} {F : CF} {P : Nat → Prop} {W : World} {X T : Nat} {c0 c1 c2 c3 c4 c5 c6 c7 c8 : Value} {f : Nat → Bool} {u5 u6 u7 u8 u9 u10 u11 u12 u13 u14 u15 u16 u17 u18 u19 u20 u21 u22 u23 u24 : Value} {w : World} (h : JA D F P W X T c0 c1 c2 c3 c4 c5 c6 c7 c8 f u5 u6 u7 u8 u9 u10 u11 u12 u13 u14 u15 u16 u17 u18 u19 u20 u21 u22 u23 u24 w) : JA D F P W X T c0 c1 c2 c3 c4 c5 c6 c7 c8 (upd f 18) u5 u6 u7 u8 u9 u10 u11 u12 u13 u14 u15 u16 u17 u18 u19 u20 u21 (.pointer (some ⟨T, 3, none⟩)) u23 u24 w :=
  ⟨h.x, by simpa [dA, upd] using h.t, h.bel, h.far, h.room, h.xt, h.inc, fun k => h.h0 (by simpa [upd] using k), fun k => h.h1 (by simpa [upd] using k), fun k => h.h2 (by simpa [upd] using k), fun k => h.h3 (by simpa [upd] using k), fun k => h.h4 (by simpa [upd] using k), fun k => h.h5 (by simpa [upd] using k), fun k => h.h6 (by simpa [upd] using k), fun k => h.h7 (by simpa [upd] using k), fun k => h.h8 (by simpa [upd] using k), fun k => h.h9 (by simpa [upd] using k), fun k => h.h10 (by simpa [upd] using k), fun k => h.h11 (by simpa [upd] using k), fun k => h.h12 (by simpa [upd] using k), fun k => h.h13 (by simpa [upd] using k), fun k => h.h14 (by simpa [upd] using k), fun k => h.h15 (by simpa [upd] using k), fun k => h.h16 (by simpa [upd] using k), fun k => by have := h.e17 (by simpa [upd] using k); simp [upd, this], fun _ => rfl, fun k => by have := h.e19 (by simpa [upd] using k); simp [upd, this], fun k => h.h20 (by simpa [upd] using k), fun k => by have := h.e21 (by simpa [upd] using k); simp [upd, this], fun k => h.h22 (by simpa [upd] using k), fun k => by have := h.e23 (by simpa [upd] using k); simp [upd, this]⟩
theorem JA.s19 {D : CD} {F : CF} {P : Nat → Prop} {W : World} {X T : Nat} {c0 c1 c2 c3 c4 c5 c6 c7 c8 : Value} {f : Nat → Bool} {u5 u6 u7 u8 u9 u10 u11 u12 u13 u14 u15 u16 u17 u18 u19 u20 u21 u22 u23 u24 : Value} {w : World} (h : JA D F P W X T c0 c1 c2 c3 c4 c5 c6 c7 c8 f u5 u6 u7 u8 u9 u10 u11 u12 u13 u14 u15 u16 u17 u18 u19 u20 u21 u22 u23 u24 w) (ha : f 7 = true) (hinc : InC P (w.setCell ⟨T, 3, none⟩ u12) D F) : JA D F P W X T c0 c1 c2 c3 c4 c5 c6 c7 c8 (upd f 19) u5 u6 u7 u8 u9 u10 u11 u12 u13 u14 u15 u16 u17 u18 u19 u20 u21 u22 u23 u24 (w.setCell ⟨T, 3, none⟩ u12) :=
  ⟨h.x.other (by have := h.xt; omega) _, by have hh := h.t.put 3 u12; simpa [dA, upd] using hh, h.bel.setCell (p := ⟨T, 3, none⟩) (Nat.le_refl _) _, fun k hk hne => (Below.heap_setCell w ⟨T, 3, none⟩ _ k hne).trans (h.far k hk hne), by simpa using h.room, h.xt, hinc, fun k => (h.h0 (by simpa [upd] using k)).far (by omega) _, fun k => h.h1 (by simpa [upd] using k), fun k => h.h2 (by simpa [upd] using k), fun k => ownsRow_setCell_below (h.h3 (by simpa [upd] using k)) (a := ⟨T, 3, none⟩) (by show T < T + 1; omega) _, fun k => (h.h4 (by simpa [upd] using k)).far (by omega) _, fun k => h.h5 (by simpa [upd] using k), fun k => h.h6 (by simpa [upd] using k), fun k => ownsRow_setCell_below (h.h7 (by simpa [upd] using k)) (a := ⟨T, 3, none⟩) (by show T < T + 1; omega) _, fun k => (h.h8 (by simpa [upd] using k)).far (by omega) _, fun k => h.h9 (by simpa [upd] using k), fun k => h.h10 (by simpa [upd] using k), fun k => ownsRow_setCell_below (h.h11 (by simpa [upd] using k)) (a := ⟨T, 3, none⟩) (by show T < T + 1; omega) _, fun k => (h.h12 (by simpa [upd] using k)).far (by omega) _, fun k => h.h13 (by simpa [upd] using k), fun k => h.h14 (by simpa [upd] using k), fun k => ownsRow_setCell_below (h.h15 (by simpa [upd] using k)) (a := ⟨T, 3, none⟩) (by show T < T + 1; omega) _, fun k => h.h16 (by simpa [upd] using k), fun k => by have := h.e17 (by simpa [upd] using k); simp [upd, this], fun k => h.h18 (by simpa [upd] using k), fun _ => by simp [upd, ha], fun k => h.h20 (by simpa [upd] using k), fun k => by have := h.e21 (by simpa [upd] using k); simp [upd, this], fun k => h.h22 (by simpa [upd] using k), fun k => by have := h.e23 (by simpa [upd] using k); simp [upd, this]⟩
theorem JA.s20 {D : CD} {F : CF} {P : Nat → Prop} {W : World} {X T : Nat} {c0 c1 c2 c3 c4 c5 c6 c7 c8 : Value} {f : Nat → Bool} {u5 u6 u7 u8 u9 u10 u11 u12 u13 u14 u15 u16 u17 u18 u19 u20 u21 u22 u23 u24 : Value} {w : World} (h : JA D F P W X T c0 c1 c2 c3 c4 c5 c6 c7 c8 f u5 u6 u7 u8 u9 u10 u11 u12 u13 u14 u15 u16 u17 u18 u19 u20 u21 u22 u23 u24 w) : JA D F P W X T c0 c1 c2 c3 c4 c5 c6 c7 c8 (upd f 20) u5 u6 u7 u8 u9 u10 u11 u12 u13 u14 u15 u16 u17 u18 u19 u20 u21 u22 (.pointer (some ⟨T, 4, none⟩)) u24 w :=
  ⟨h.x, by simpa [dA, upd] using h.t, h.bel, h.far, h.room, h.xt, h.inc, fun k => h.h0 (by simpa [upd] using k), fun k => h.h1 (by simpa [upd] using k), fun k => h.h2 (by simpa [upd] using k), fun k => h.h3 (by simpa [upd] using k), fun k => h.h4 (by simpa [upd] using k), fun k => h.h5 (by simpa [upd] using k), fun k => h.h6 (by simpa [upd] using k), fun k => h.h7 (by simpa [upd] using k), fun k => h.h8 (by simpa [upd] using k), fun k => h.h9 (by simpa [upd] using k), fun k => h.h10 (by simpa [upd] using k), fun k => h.h11 (by simpa [upd] using k), fun k => h.h12 (by simpa [upd] using k), fun k => h.h13 (by simpa [upd] using k), fun k => h.h14 (by simpa [upd] using k), fun k => h.h15 (by simpa [upd] using k), fun k => h.h16 (by simpa [upd] using k), fun k => by have := h.e17 (by simpa [upd] using k); simp [upd, this], fun k => h.h18 (by simpa [upd] using k), fun k => by have := h.e19 (by simpa [upd] using k); simp [upd, this], fun _ => rfl, fun k => by have := h.e21 (by simpa [upd] using k); simp [upd, this], fun k => h.h22 (by simpa [upd] using k), fun k => by have := h.e23 (by simpa [upd] using k); simp [upd, this]⟩
theorem JA.s21 {D : CD} {F : CF} {P : Nat → Prop} {W : World} {X T : Nat} {c0 c1 c2 c3 c4 c5 c6 c7 c8 : Value} {f : Nat → Bool} {u5 u6 u7 u8 u9 u10 u11 u12 u13 u14 u15 u16 u17 u18 u19 u20 u21 u22 u23 u24 : Value} {w : World} (h : JA D F P W X T c0 c1 c2 c3 c4 c5 c6 c7 c8 f u5 u6 u7 u8 u9 u10 u11 u12 u13 u14 u15 u16 u17 u18 u19 u20 u21 u22 u23 u24 w) (ha : f 11 = true) (hinc : InC P (w.setCell ⟨T, 4, none⟩ u16) D F) : JA D F P W X T c0 c1 c2 c3 c4 c5 c6 c7 c8 (upd f 21) u5 u6 u7 u8 u9 u10 u11 u12 u13 u14 u15 u16 u17 u18 u19 u20 u21 u22 u23 u24 (w.setCell ⟨T, 4, none⟩ u16) :=
  ⟨h.x.other (by have := h.xt; omega) _, by have hh := h.t.put 4 u16; simpa [dA, upd] using hh, h.bel.setCell (p := ⟨T, 4, none⟩) (Nat.le_refl _) _, fun k hk hne => (Below.heap_setCell w ⟨T, 4, none⟩ _ k hne).trans (h.far k hk hne), by simpa using h.room, h.xt, hinc, fun k => (h.h0 (by simpa [upd] using k)).far (by omega) _, fun k => h.h1 (by simpa [upd] using k), fun k => h.h2 (by simpa [upd] using k), fun k => ownsRow_setCell_below (h.h3 (by simpa [upd] using k)) (a := ⟨T, 4, none⟩) (by show T < T + 1; omega) _, fun k => (h.h4 (by simpa [upd] using k)).far (by omega) _, fun k => h.h5 (by simpa [upd] using k), fun k => h.h6 (by simpa [upd] using k), fun k => ownsRow_setCell_below (h.h7 (by simpa [upd] using k)) (a := ⟨T, 4, none⟩) (by show T < T + 1; omega) _, fun k => (h.h8 (by simpa [upd] using k)).far (by omega) _, fun k => h.h9 (by simpa [upd] using k), fun k => h.h10 (by simpa [upd] using k), fun k => ownsRow_setCell_below (h.h11 (by simpa [upd] using k)) (a := ⟨T, 4, none⟩) (by show T < T + 1; omega) _, fun k => (h.h12 (by simpa [upd] using k)).far (by omega) _, fun k => h.h13 (by simpa [upd] using k), fun k => h.h14 (by simpa [upd] using k), fun k => ownsRow_setCell_below (h.h15 (by simpa [upd] using k)) (a := ⟨T, 4, none⟩) (by show T < T + 1; omega) _, fun k => h.h16 (by simpa [upd] using k), fun k => by have := h.e17 (by simpa [upd] using k); simp [upd, this], fun k => h.h18 (by simpa [upd] using k), fun k => by have := h.e19 (by simpa [upd] using k); simp [upd, this], fun k => h.h20 (by simpa [upd] using k), fun _ => by simp [upd, ha], fun k => h.h22 (by simpa [upd] using k), fun k => by have := h.e23 (by simpa [upd] using k); simp [upd, this]⟩
theorem JA.s22 {D : CD} {F : CF} {P : Nat → Prop} {W : World} {X T : Nat} {c0 c1 c2 c3 c4 c5 c6 c7 c8 : Value} {f : Nat → Bool} {u5 u6 u7 u8 u9 u10 u11 u12 u13 u14 u15 u16 u17 u18 u19 u20 u21 u22 u23 u24 : Value} {w : World} (h : JA D F P W X T c0 c1 c2 c3 c4 c5 c6 c7 c8 f u5 u6 u7 u8 u9 u10 u11 u12 u13 u14 u15 u16 u17 u18 u19 u20 u21 u22 u23 u24 w) : JA D F P W X T c0 c1 c2 c3 c4 c5 c6 c7 c8 (upd f 22) u5 u6 u7 u8 u9 u10 u11 u12 u13 u14 u15 u16 u17 u18 u19 u20 u21 u22 u23 (.pointer (some ⟨T, 5, none⟩)) w :=
  ⟨h.x, by simpa [dA, upd] using h.t, h.bel, h.far, h.room, h.xt, h.inc, fun k => h.h0 (by simpa [upd] using k), fun k => h.h1 (by simpa [upd] using k), fun k => h.h2 (by simpa [upd] using k), fun k => h.h3 (by simpa [upd] using k), fun k => h.h4 (by simpa [upd] using k), fun k => h.h5 (by simpa [upd] using k), fun k => h.h6 (by simpa [upd] using k), fun k => h.h7 (by simpa [upd] using k), fun k => h.h8 (by simpa [upd] using k), fun k => h.h9 (by simpa [upd] using k), fun k => h.h10 (by simpa [upd] using k), fun k => h.h11 (by simpa [upd] using k), fun k => h.h12 (by simpa [upd] using k), fun k => h.h13 (by simpa [upd] using k), fun k => h.h14 (by simpa [upd] using k), fun k => h.h15 (by simpa [upd] using k), fun k => h.h16 (by simpa [upd] using k), fun k => by have := h.e17 (by simpa [upd] using k); simp [upd, this], fun k => h.h18 (by simpa [upd] using k), fun k => by have := h.e19 (by simpa [upd] using k); simp [upd, this], fun k => h.h20 (by simpa [upd] using k), fun k => by have := h.e21 (by simpa [upd] using k); simp [upd, this], fun _ => rfl, fun k => by have := h.e23 (by simpa [upd] using k); simp [upd, this]⟩
theorem JA.s23 {D : CD} {F : CF} {P : Nat → Prop} {W : World} {X T : Nat} {c0 c1 c2 c3 c4 c5 c6 c7 c8 : Value} {f : Nat → Bool} {u5 u6 u7 u8 u9 u10 u11 u12 u13 u14 u15 u16 u17 u18 u19 u20 u21 u22 u23 u24 : Value} {w : World} (h : JA D F P W X T c0 c1 c2 c3 c4 c5 c6 c7 c8 f u5 u6 u7 u8 u9 u10 u11 u12 u13 u14 u15 u16 u17 u18 u19 u20 u21 u22 u23 u24 w) (ha : f 15 = true) (hinc : InC P (w.setCell ⟨T, 5, none⟩ u20) D F) : JA D F P W X T c0 c1 c2 c3 c4 c5 c6 c7 c8 (upd f 23) u5 u6 u7 u8 u9 u10 u11 u12 u13 u14 u15 u16 u17 u18 u19 u20 u21 u22 u23 u24 (w.setCell ⟨T, 5, none⟩ u20) :=
  ⟨h.x.other (by have := h.xt; omega) _, by have hh := h.t.put 5 u20; simpa [dA, upd] using hh, h.bel.setCell (p := ⟨T, 5, none⟩) (Nat.le_refl _) _, fun k hk hne => (Below.heap_setCell w ⟨T, 5, none⟩ _ k hne).trans (h.far k hk hne), by simpa using h.room, h.xt, hinc, fun k => (h.h0 (by simpa [upd] using k)).far (by omega) _, fun k => h.h1 (by simpa [upd] using k), fun k => h.h2 (by simpa [upd] using k), fun k => ownsRow_setCell_below (h.h3 (by simpa [upd] using k)) (a := ⟨T, 5, none⟩) (by show T < T + 1; omega) _, fun k => (h.h4 (by simpa [upd] using k)).far (by omega) _, fun k => h.h5 (by simpa [upd] using k), fun k => h.h6 (by simpa [upd] using k), fun k => ownsRow_setCell_below (h.h7 (by simpa [upd] using k)) (a := ⟨T, 5, none⟩) (by show T < T + 1; omega) _, fun k => (h.h8 (by simpa [upd] using k)).far (by omega) _, fun k => h.h9 (by simpa [upd] using k), fun k => h.h10 (by simpa [upd] using k), fun k => ownsRow_setCell_below (h.h11 (by simpa [upd] using k)) (a := ⟨T, 5, none⟩) (by show T < T + 1; omega) _, fun k => (h.h12 (by simpa [upd] using k)).far (by omega) _, fun k => h.h13 (by simpa [upd] using k), fun k => h.h14 (by simpa [upd] using k), fun k => ownsRow_setCell_below (h.h15 (by simpa [upd] using k)) (a := ⟨T, 5, none⟩) (by show T < T + 1; omega) _, fun k => h.h16 (by simpa [upd] using k), fun k => by have := h.e17 (by simpa [upd] using k); simp [upd, this], fun k => h.h18 (by simpa [upd] using k), fun k => by have := h.e19 (by simpa [upd] using k); simp [upd, this], fun k => h.h20 (by simpa [upd] using k), fun k => by have := h.e21 (by simpa [upd] using k); simp [upd, this], fun k => h.h22 (by simpa [upd] using k), fun _ => by simp [upd, ha]⟩
/-- the cells of the copy, as far as they are stored -/
def dB (f : Nat → Bool) (c0 c1 c2 c3 c4 c5 c6 c7 c8 u28 u32 u36 : Value) : Array Value := #[c0, c1, if f 13 then u28 else c2, c3, c4, c5, if f 15 then u32 else c6, if f 17 then u36 else c7, c8]
structure JB (D : CD) (F : CF) (P : Nat → Prop) (W : World) (X T : Nat) (c0 c1 c2 c3 c4 c5 c6 c7 c8 : Value) (f : Nat → Bool) (u25 u26 u27 u28 u29 u30 u31 u32 u33 u34 u35 u36 u37 u38 u39 : Value) (w : World) : Prop where
  x : Blk w X (ccells D F)
  t : Blk w T (dB f c0 c1 c2 c3 c4 c5 c6 c7 c8 u28 u32 u36)
  bel : Below T W w
  far : ∀ k, k < W.heap.size → k ≠ T → w.heap[k]? = W.heap[k]?
  room : T + 1 ≤ w.heap.size
  xt : X < T
  inc : InC P w D F
  h0 : f 0 = true → Em w (T + 1) 45 u25
  h1 : f 1 = true → u26 = .pointer (some ⟨X, 2, none⟩)
  h2 : f 2 = true → u27 = .slice F.al D.lats.length F.cl
  h3 : f 3 = true → w.ownsRow (T + 1) 45 3 u28 D.lats.length (flat enc3 D.lats)
  h4 : f 4 = true → Em w (T + 1) 47 u29
  h5 : f 5 = true → u30 = .pointer (some ⟨X, 6, none⟩)
  h6 : f 6 = true → u31 = .slice F.ag D.gates.length F.cg
  h7 : f 7 = true → w.ownsRow (T + 1) 47 3 u32 D.gates.length (flat enc3 D.gates)
  h8 : f 8 = true → Em w (T + 1) 59 u33
  h9 : f 9 = true → u34 = .pointer (some ⟨X, 7, none⟩)
  h10 : f 10 = true → u35 = .slice F.as_ D.syms.length F.cs
  h11 : f 11 = true → w.ownsRow (T + 1) 59 3 u36 D.syms.length (flat encS D.syms)
  h12 : f 12 = true → u37 = .pointer (some ⟨T, 2, none⟩)
  e13 : f 13 = true → f 3 = true
  h14 : f 14 = true → u38 = .pointer (some ⟨T, 6, none⟩)
  e15 : f 15 = true → f 7 = true
  h16 : f 16 = true → u39 = .pointer (some ⟨T, 7, none⟩)
  e17 : f 17 = true → f 11 = true
theorem JB.on {D : CD} {F : CF} {P : Nat → Prop} {W : World} {X T : Nat} {c0 c1 c2 c3 c4 c5 c6 c7 c8 : Value} {f : Nat → Bool} {u25 u26 u27 u28 u29 u30 u31 u32 u33 u34 u35 u36 u37 u38 u39 : Value} {w : World} {w' : World} (h : JB D F P W X T c0 c1 c2 c3 c4 c5 c6 c7 c8 f u25 u26 u27 u28 u29 u30 u31 u32 u33 u34 u35 u36 u37 u38 u39 w) (hb : Below w.heap.size w w') : JB D F P W X T c0 c1 c2 c3 c4 c5 c6 c7 c8 f u25 u26 u27 u28 u29 u30 u31 u32 u33 u34 u35 u36 u37 u38 u39 w' :=
  ⟨h.x.on hb, h.t.on hb, h.bel.trans (hb.mono (by have := h.room; omega)), fun k hk hne => (hb.block k (Nat.lt_of_lt_of_le hk h.bel.size)).trans (h.far k hk hne), Nat.le_trans h.room hb.size, h.xt, h.inc.on hb, fun k => (h.h0 k).on hb, h.h1, h.h2, fun k => own_on (h.h3 k) hb, fun k => (h.h4 k).on hb, h.h5, h.h6, fun k => own_on (h.h7 k) hb, fun k => (h.h8 k).on hb, h.h9, h.h10, fun k => own_on (h.h11 k) hb, h.h12, h.e13, h.h14, h.e15, h.h16, h.e17⟩
theorem JB.s0 {D : CD} {F : CF} {P : Nat → Prop} {W : World} {X T : Nat} {c0 c1 c2 c3 c4 c5 c6 c7 c8 : Value} {f : Nat → Bool} {u25 u26 u27 u28 u29 u30 u31 u32 u33 u34 u35 u36 u37 u38 u39 : Value} {w : World} (h : JB D F P W X T c0 c1 c2 c3 c4 c5 c6 c7 c8 f u25 u26 u27 u28 u29 u30 u31 u32 u33 u34 u35 u36 u37 u38 u39 w) : JB D F P W X T c0 c1 c2 c3 c4 c5 c6 c7 c8 (upd f 0) (.slice (some ⟨w.heap.size, 0, none⟩) 0 0) u26 u27 u28 u29 u30 u31 u32 u33 u34 u35 u36 u37 u38 u39 (w.alloc (.cells #[] 45)) := by
  have hb : Below w.heap.size w (w.alloc (.cells #[] 45)) := (Below.refl _ _).alloc (Nat.le_refl _) _
  exact ⟨h.x.on hb, by simpa [dB, upd] using h.t.on hb, h.bel.trans (hb.mono (by have := h.room; omega)), fun k hk hne => (hb.block k (Nat.lt_of_lt_of_le hk h.bel.size)).trans (h.far k hk hne), Nat.le_trans h.room hb.size, h.xt, h.inc.on hb, fun _ => em_new w h.room, fun k => h.h1 (by simpa [upd] using k), fun k => h.h2 (by simpa [upd] using k), fun k => own_on (h.h3 (by simpa [upd] using k)) hb, fun k => (h.h4 (by simpa [upd] using k)).on hb, fun k => h.h5 (by simpa [upd] using k), fun k => h.h6 (by simpa [upd] using k), fun k => own_on (h.h7 (by simpa [upd] using k)) hb, fun k => (h.h8 (by simpa [upd] using k)).on hb, fun k => h.h9 (by simpa [upd] using k), fun k => h.h10 (by simpa [upd] using k), fun k => own_on (h.h11 (by simpa [upd] using k)) hb, fun k => h.h12 (by simpa [upd] using k), fun k => by have := h.e13 (by simpa [upd] using k); simp [upd, this], fun k => h.h14 (by simpa [upd] using k), fun k => by have := h.e15 (by simpa [upd] using k); simp [upd, this], fun k => h.h16 (by simpa [upd] using k), fun k => by have := h.e17 (by simpa [upd] using k); simp [upd, this]⟩
theorem JB.s1 {D : CD} {F : CF} {P : Nat → Prop} {W : World} {X T : Nat} {c0 c1 c2 c3 c4 c5 c6 c7 c8 : Value} {f : Nat → Bool} {u25 u26 u27 u28 u29 u30 u31 u32 u33 u34 u35 u36 u37 u38 u39 : Value} {w : World} (h : JB D F P W X T c0 c1 c2 c3 c4 c5 c6 c7 c8 f u25 u26 u27 u28 u29 u30 u31 u32 u33 u34 u35 u36 u37 u38 u39 w) : JB D F P W X T c0 c1 c2 c3 c4 c5 c6 c7 c8 (upd f 1) u25 (.pointer (some ⟨X, 2, none⟩)) u27 u28 u29 u30 u31 u32 u33 u34 u35 u36 u37 u38 u39 w :=
  ⟨h.x, by simpa [dB, upd] using h.t, h.bel, h.far, h.room, h.xt, h.inc, fun k => h.h0 (by simpa [upd] using k), fun _ => rfl, fun k => h.h2 (by simpa [upd] using k), fun k => h.h3 (by simpa [upd] using k), fun k => h.h4 (by simpa [upd] using k), fun k => h.h5 (by simpa [upd] using k), fun k => h.h6 (by simpa [upd] using k), fun k => h.h7 (by simpa [upd] using k), fun k => h.h8 (by simpa [upd] using k), fun k => h.h9 (by simpa [upd] using k), fun k => h.h10 (by simpa [upd] using k), fun k => h.h11 (by simpa [upd] using k), fun k => h.h12 (by simpa [upd] using k), fun k => by have := h.e13 (by simpa [upd] using k); simp [upd, this], fun k => h.h14 (by simpa [upd] using k), fun k => by have := h.e15 (by simpa [upd] using k); simp [upd, this], fun k => h.h16 (by simpa [upd] using k), fun k => by have := h.e17 (by simpa [upd] using k); simp [upd, this]⟩
theorem JB.s2 {D : CD} {F : CF} {P : Nat → Prop} {W : World} {X T : Nat} {c0 c1 c2 c3 c4 c5 c6 c7 c8 : Value} {f : Nat → Bool} {u25 u26 u27 u28 u29 u30 u31 u32 u33 u34 u35 u36 u37 u38 u39 : Value} {w : World} (h : JB D F P W X T c0 c1 c2 c3 c4 c5 c6 c7 c8 f u25 u26 u27 u28 u29 u30 u31 u32 u33 u34 u35 u36 u37 u38 u39 w) : JB D F P W X T c0 c1 c2 c3 c4 c5 c6 c7 c8 (upd f 2) u25 u26 (.slice F.al D.lats.length F.cl) u28 u29 u30 u31 u32 u33 u34 u35 u36 u37 u38 u39 w :=
  ⟨h.x, by simpa [dB, upd] using h.t, h.bel, h.far, h.room, h.xt, h.inc, fun k => h.h0 (by simpa [upd] using k), fun k => h.h1 (by simpa [upd] using k), fun _ => rfl, fun k => h.h3 (by simpa [upd] using k), fun k => h.h4 (by simpa [upd] using k), fun k => h.h5 (by simpa [upd] using k), fun k => h.h6 (by simpa [upd] using k), fun k => h.h7 (by simpa [upd] using k), fun k => h.h8 (by simpa [upd] using k), fun k => h.h9 (by simpa [upd] using k), fun k => h.h10 (by simpa [upd] using k), fun k => h.h11 (by simpa [upd] using k), fun k => h.h12 (by simpa [upd] using k), fun k => by have := h.e13 (by simpa [upd] using k); simp [upd, this], fun k => h.h14 (by simpa [upd] using k), fun k => by have := h.e15 (by simpa [upd] using k); simp [upd, this], fun k => h.h16 (by simpa [upd] using k), fun k => by have := h.e17 (by simpa [upd] using k); simp [upd, this]⟩
theorem JB.s3 {D : CD} {F : CF} {P : Nat → Prop} {W : World} {X T : Nat} {c0 c1 c2 c3 c4 c5 c6 c7 c8 : Value} {f : Nat → Bool} {u25 u26 u27 u28 u29 u30 u31 u32 u33 u34 u35 u36 u37 u38 u39 : Value} {w : World} {v' : Value} (h : JB D F P W X T c0 c1 c2 c3 c4 c5 c6 c7 c8 f u25 u26 u27 u28 u29 u30 u31 u32 u33 u34 u35 u36 u37 u38 u39 w) (hf : f 3 = false) (hv : w.ownsRow (T + 1) 45 3 v' D.lats.length (flat enc3 D.lats)) : JB D F P W X T c0 c1 c2 c3 c4 c5 c6 c7 c8 (upd f 3) u25 u26 u27 v' u29 u30 u31 u32 u33 u34 u35 u36 u37 u38 u39 w := by
  have e : f 13 = false := by
    cases hs : f 13 with
    | false => rfl
    | true => exact absurd (h.e13 hs) (by simp [hf])
  exact ⟨h.x, by simpa [dB, upd, e] using h.t, h.bel, h.far, h.room, h.xt, h.inc, fun k => h.h0 (by simpa [upd] using k), fun k => h.h1 (by simpa [upd] using k), fun k => h.h2 (by simpa [upd] using k), fun _ => hv, fun k => h.h4 (by simpa [upd] using k), fun k => h.h5 (by simpa [upd] using k), fun k => h.h6 (by simpa [upd] using k), fun k => h.h7 (by simpa [upd] using k), fun k => h.h8 (by simpa [upd] using k), fun k => h.h9 (by simpa [upd] using k), fun k => h.h10 (by simpa [upd] using k), fun k => h.h11 (by simpa [upd] using k), fun k => h.h12 (by simpa [upd] using k), fun _ => by simp [upd], fun k => h.h14 (by simpa [upd] using k), fun k => by have := h.e15 (by simpa [upd] using k); simp [upd, this], fun k => h.h16 (by simpa [upd] using k), fun k => by have := h.e17 (by simpa [upd] using k); simp [upd, this]⟩
theorem JB.s4 {D : CD} {F : CF} {P : Nat → Prop} {W : World} {X T : Nat} {c0 c1 c2 c3 c4 c5 c6 c7 c8 : Value} {f : Nat → Bool} {u25 u26 u27 u28 u29 u30 u31 u32 u33 u34 u35 u36 u37 u38 u39 : Value} {w : World} (h : JB D F P W X T c0 c1 c2 c3 c4 c5 c6 c7 c8 f u25 u26 u27 u28 u29 u30 u31 u32 u33 u34 u35 u36 u37 u38 u39 w) : JB D F P W X T c0 c1 c2 c3 c4 c5 c6 c7 c8 (upd f 4) u25 u26 u27 u28 (.slice (some ⟨w.heap.size, 0, none⟩) 0 0) u30 u31 u32 u33 u34 u35 u36 u37 u38 u39 (w.alloc (.cells #[] 47)) := by
  have hb : Below w.heap.size w (w.alloc (.cells #[] 47)) := (Below.refl _ _).alloc (Nat.le_refl _) _
  exact ⟨h.x.on hb, by simpa [dB, upd] using h.t.on hb, h.bel.trans (hb.mono (by have := h.room; omega)), fun k hk hne => (hb.block k (Nat.lt_of_lt_of_le hk h.bel.size)).trans (h.far k hk hne), Nat.le_trans h.room hb.size, h.xt, h.inc.on hb, fun k => (h.h0 (by simpa [upd] using k)).on hb, fun k => h.h1 (by simpa [upd] using k), fun k => h.h2 (by simpa [upd] using k), fun k => own_on (h.h3 (by simpa [upd] using k)) hb, fun _ => em_new w h.room, fun k => h.h5 (by simpa [upd] using k), fun k => h.h6 (by simpa [upd] using k), fun k => own_on (h.h7 (by simpa [upd] using k)) hb, fun k => (h.h8 (by simpa [upd] using k)).on hb, fun k => h.h9 (by simpa [upd] using k), fun k => h.h10 (by simpa [upd] using k), fun k => own_on (h.h11 (by simpa [upd] using k)) hb, fun k => h.h12 (by simpa [upd] using k), fun k => by have := h.e13 (by simpa [upd] using k); simp [upd, this], fun k => h.h14 (by simpa [upd] using k), fun k => by have := h.e15 (by simpa [upd] using k); simp [upd, this], fun k => h.h16 (by simpa [upd] using k), fun k => by have := h.e17 (by simpa [upd] using k); simp [upd, this]⟩
theorem JB.s5 {D : CD} {F : CF} {P : Nat → Prop} {W : World} {X T : Nat} {c0 c1 c2 c3 c4 c5 c6 c7 c8 : Value} {f : Nat → Bool} {u25 u26 u27 u28 u29 u30 u31 u32 u33 u34 u35 u36 u37 u38 u39 : Value} {w : World} (h : JB D F P W X T c0 c1 c2 c3 c4 c5 c6 c7 c8 f u25 u26 u27 u28 u29 u30 u31 u32 u33 u34 u35 u36 u37 u38 u39 w) : JB D F P W X T c0 c1 c2 c3 c4 c5 c6 c7 c8 (upd f 5) u25 u26 u27 u28 u29 (.pointer (some ⟨X, 6, none⟩)) u31 u32 u33 u34 u35 u36 u37 u38 u39 w :=
  ⟨h.x, by simpa [dB, upd] using h.t, h.bel, h.far, h.room, h.xt, h.inc, fun k => h.h0 (by simpa [upd] using k), fun k => h.h1 (by simpa [upd] using k), fun k => h.h2 (by simpa [upd] using k), fun k => h.h3 (by simpa [upd] using k), fun k => h.h4 (by simpa [upd] using k), fun _ => rfl, fun k => h.h6 (by simpa [upd] using k), fun k => h.h7 (by simpa [upd] using k), fun k => h.h8 (by simpa [upd] using k), fun k => h.h9 (by simpa [upd] using k), fun k => h.h10 (by simpa [upd] using k), fun k => h.h11 (by simpa [upd] using k), fun k => h.h12 (by simpa [upd] using k), fun k => by have := h.e13 (by simpa [upd] using k); simp [upd, this], fun k => h.h14 (by simpa [upd] using k), fun k => by have := h.e15 (by simpa [upd] using k); simp [upd, this], fun k => h.h16 (by simpa [upd] using k), fun k => by have := h.e17 (by simpa [upd] using k); simp [upd, this]⟩
theorem JB.s6 {D : CD} {F : CF} {P : Nat → Prop} {W : World} {X T : Nat} {c0 c1 c2 c3 c4 c5 c6 c7 c8 : Value} {f : Nat → Bool} {u25 u26 u27 u28 u29 u30 u31 u32 u33 u34 u35 u36 u37 u38 u39 : Value} {w : World} (h : JB D F P W X T c0 c1 c2 c3 c4 c5 c6 c7 c8 f u25 u26 u27 u28 u29 u30 u31 u32 u33 u34 u35 u36 u37 u38 u39 w) : JB D F P W X T c0 c1 c2 c3 c4 c5 c6 c7 c8 (upd f 6) u25 u26 u27 u28 u29 u30 (.slice F.ag D.gates.length F.cg) u32 u33 u34 u35 u36 u37 u38 u39 w :=
  ⟨h.x, by simpa [dB, upd] using h.t, h.bel, h.far, h.room, h.xt, h.inc, fun k => h.h0 (by simpa [upd] using k), fun k => h.h1 (by simpa [upd] using k), fun k => h.h2 (by simpa [upd] using k), fun k => h.h3 (by simpa [upd] using k), fun k => h.h4 (by simpa [upd] using k), fun k => h.h5 (by simpa [upd] using k), fun _ => rfl, fun k => h.h7 (by simpa [upd] using k), fun k => h.h8 (by simpa [upd] using k), fun k => h.h9 (by simpa [upd] using k), fun k => h.h10 (by simpa [upd] using k), fun k => h.h11 (by simpa [upd] using k), fun k => h.h12 (by simpa [upd] using k), fun k => by have := h.e13 (by simpa [upd] using k); simp [upd, this], fun k => h.h14 (by simpa [upd] using k), fun k => by have := h.e15 (by simpa [upd] using k); simp [upd, this], fun k => h.h16 (by simpa [upd] using k), fun k => by have := h.e17 (by simpa [upd] using k); simp [upd, this]⟩
theorem JB.s7 {D : CD} {F : CF} {P : Nat → Prop} {W : World} {X T : Nat} {c0 c1 c2 c3 c4 c5 c6 c7 c8 : Value} {f : Nat → Bool} {u25 u26 u27 u28 u29 u30 u31 u32 u33 u34 u35 u36 u37 u38 u39 : Value} {w : World} {v' : Value} (h : JB D F P W X T c0 c1 c2 c3 c4 c5 c6 c7 c8 f u25 u26 u27 u28 u29 u30 u31 u32 u33 u34 u35 u36 u37 u38 u39 w) (hf : f 7 = false) (hv : w.ownsRow (T + 1) 47 3 v' D.gates.length (flat enc3 D.gates)) : JB D F P W X T c0 c1 c2 c3 c4 c5 c6 c7 c8 (upd f 7) u25 u26 u27 u28 u29 u30 u31 v' u33 u34 u35 u36 u37 u38 u39 w := by
  have e : f 15 = false := by
    cases hs : f 15 with
    | false => rfl
    | true => exact absurd (h.e15 hs) (by simp [hf])
  exact ⟨h.x, by simpa [dB, upd, e] using h.t, h.bel, h.far, h.room, h.xt, h.inc, fun k => h.h0 (by simpa [upd] using k), fun k => h.h1 (by simpa [upd] using k), fun k => h.h2 (by simpa [upd] using k), fun k => h.h3 (by simpa [upd] using k), fun k => h.h4 (by simpa [upd] using k), fun k => h.h5 (by simpa [upd] using k), fun k => h.h6 (by simpa [upd] using k), fun _ => hv, fun k => h.h8 (by simpa [upd] using k), fun k => h.h9 (by simpa [upd] using k), fun k => h.h10 (by simpa [upd] using k), fun k => h.h11 (by simpa [upd] using k), fun k => h.h12 (by simpa [upd] using k), fun k => by have := h.e13 (by simpa [upd] using k); simp [upd, this], fun k => h.h14 (by simpa [upd] using k), fun _ => by simp [upd], fun k => h.h16 (by simpa [upd] using k), fun k => by have := h.e17 (by simpa [upd] using k); simp [upd, this]⟩
theorem JB.s8 {D : CD} {F : CF} {P : Nat → Prop} {W : World} {X T : Nat} {c0 c1 c2 c3 c4 c5 c6 c7 c8 : Value} {f : Nat → Bool} {u25 u26 u27 u28 u29 u30 u31 u32 u33 u34 u35 u36 u37 u38 u39 : Value} {w : World} (h : JB D F P W X T c0 c1 c2 c3 c4 c5 c6 c7 c8 f u25 u26 u27 u28 u29 u30 u31 u32 u33 u34 u35 u36 u37 u38 u39 w) : JB D F P W X T c0 c1 c2 c3 c4 c5 c6 c7 c8 (upd f 8) u25 u26 u27 u28 u29 u30 u31 u32 (.slice (some ⟨w.heap.size, 0, none⟩) 0 0) u34 u35 u36 u37 u38 u39 (w.alloc (.cells #[] 59)) := by
  have hb : Below w.heap.size w (w.alloc (.cells #[] 59)) := (Below.refl _ _).alloc (Nat.le_refl _) _
  exact ⟨h.x.on hb, by simpa [dB, upd] using h.t.on hb, h.bel.trans (hb.mono (by have := h.room; omega)), fun k hk hne => (hb.block k (Nat.lt_of_lt_of_le hk h.bel.size)).trans (h.far k hk hne), Nat.le_trans h.room hb.size, h.xt, h.inc.on hb, fun k => (h.h0 (by simpa [upd] using k)).on hb, fun k => h.h1 (by simpa [upd] using k), fun k => h.h2 (by simpa [upd] using k), fun k => own_on (h.h3 (by simpa [upd] using k)) hb, fun k => (h.h4 (by simpa [upd] using k)).on hb, fun k => h.h5 (by simpa [upd] using k), fun k => h.h6 (by simpa [upd] using k), fun k => own_on (h.h7 (by simpa [upd] using k)) hb, fun _ => em_new w h.room, fun k => h.h9 (by simpa [upd] using k), fun k => h.h10 (by simpa [upd] using k), fun k => own_on (h.h11 (by simpa [upd] using k)) hb, fun k => h.h12 (by simpa [upd] using k), fun k => by have := h.e13 (by simpa [upd] using k); simp [upd, this], fun k => h.h14 (by simpa [upd] using k), fun k => by have := h.e15 (by simpa [upd] using k); simp [upd, this], fun k => h.h16 (by simpa [upd] using k), fun k => by have := h.e17 (by simpa [upd] using k); simp [upd, this]⟩
theorem JB.s9 {D : CD} {F : CF} {P : Nat → Prop} {W : World} {X T : Nat} {c0 c1 c2 c3 c4 c5 c6 c7 c8 : Value} {f : Nat → Bool} {u25 u26 u27 u28 u29 u30 u31 u32 u33 u34 u35 u36 u37 u38 u39 : Value} {w : World} (h : JB D F P W X T c0 c1 c2 c3 c4 c5 c6 c7 c8 f u25 u26 u27 u28 u29 u30 u31 u32 u33 u34 u35 u36 u37 u38 u39 w) : JB D F P W X T c0 c1 c2 c3 c4 c5 c6 c7 c8 (upd f 9) u25 u26 u27 u28 u29 u30 u31 u32 u33 (.pointer (some ⟨X, 7, none⟩)) u35 u36 u37 u38 u39 w :=
  ⟨h.x, by simpa [dB, upd] using h.t, h.bel, h.far, h.room, h.xt, h.inc, fun k => h.h0 (by simpa [upd] using k), fun k => h.h1 (by simpa [upd] using k), fun k => h.h2 (by simpa [upd] using k), fun k => h.h3 (by simpa [upd] using k), fun k => h.h4 (by simpa [upd] using k), fun k => h.h5 (by simpa [upd] using k), fun k => h.h6 (by simpa [upd] using k), fun k => h.h7 (by simpa [upd] using k), fun k => h.h8 (by simpa [upd] using k), fun _ => rfl, fun k => h.h10 (by simpa [upd] using k), fun k => h.h11 (by simpa [upd] using k), fun k => h.h12 (by simpa [upd] using k), fun k => by have := h.e13 (by simpa [upd] using k); simp [upd, this], fun k => h.h14 (by simpa [upd] using k), fun k => by have := h.e15 (by simpa [upd] using k); simp [upd, this], fun k => h.h16 (by simpa [upd] using k), fun k => by have := h.e17 (by simpa [upd] using k); simp [upd, this]⟩
theorem JB.s10 {D : CD} {F : CF} {P : Nat → Prop} {W : World} {X T : Nat} {c0 c1 c2 c3 c4 c5 c6 c7 c8 : Value} {f : Nat → Bool} {u25 u26 u27 u28 u29 u30 u31 u32 u33 u34 u35 u36 u37 u38 u39 : Value} {w : World} (h : JB D F P W X T c0 c1 c2 c3 c4 c5 c6 c7 c8 f u25 u26 u27 u28 u29 u30 u31 u32 u33 u34 u35 u36 u37 u38 u39 w) : JB D F P W X T c0 c1 c2 c3 c4 c5 c6 c7 c8 (upd f 10) u25 u26 u27 u28 u29 u30 u31 u32 u33 u34 (.slice F.as_ D.syms.length F.cs) u36 u37 u38 u39 w :=
  ⟨h.x, by simpa [dB, upd] using h.t, h.bel, h.far, h.room, h.xt, h.inc, fun k => h.h0 (by simpa [upd] using k), fun k => h.h1 (by simpa [upd] using k), fun k => h.h2 (by simpa [upd] using k), fun k => h.h3 (by simpa [upd] using k), fun k => h.h4 (by simpa [upd] using k), fun k => h.h5 (by simpa [upd] using k), fun k => h.h6 (by simpa [upd] using k), fun k => h.h7 (by simpa [upd] using k), fun k => h.h8 (by simpa [upd] using k), fun k => h.h9 (by simpa [upd] using k), fun _ => rfl, fun k => h.h11 (by simpa [upd] using k), fun k => h.h12 (by simpa [upd] using k), fun k => by have := h.e13 (by simpa [upd] using k); simp [upd, this], fun k => h.h14 (by simpa [upd] using k), fun k => by have := h.e15 (by simpa [upd] using k); simp [upd, this], fun k => h.h16 (by simpa [upd] using k), fun k => by have := h.e17 (by simpa [upd] using k); simp [upd, this]⟩
theorem JB.s11 {D : CD} {F : CF} {P : Nat → Prop} {W : World} {X T : Nat} {c0 c1 c2 c3 c4 c5 c6 c7 c8 : Value} {f : Nat → Bool} {u25 u26 u27 u28 u29 u30 u31 u32 u33 u34 u35 u36 u37 u38 u39 : Value} {w : World} {v' : Value} (h : JB D F P W X T c0 c1 c2 c3 c4 c5 c6 c7 c8 f u25 u26 u27 u28 u29 u30 u31 u32 u33 u34 u35 u36 u37 u38 u39 w) (hf : f 11 = false) (hv : w.ownsRow (T + 1) 59 3 v' D.syms.length (flat encS D.syms)) : JB D F P W X T c0 c1 c2 c3 c4 c5 c6 c7 c8 (upd f 11) u25 u26 u27 u28 u29 u30 u31 u32 u33 u34 u35 v' u37 u38 u39 w := by
  have e : f 17 = false := by
    cases hs : f 17 with
    | false => rfl
    | true => exact absurd (h.e17 hs) (by simp [hf])
  exact ⟨h.x, by simpa [dB, upd, e] using h.t, h.bel, h.far, h.room, h.xt, h.inc, fun k => h.h0 (by simpa [upd] using k), fun k => h.h1 (by simpa [upd] using k), fun k => h.h2 (by simpa [upd] using k), fun k => h.h3 (by simpa [upd] using k), fun k => h.h4 (by simpa [upd] using k), fun k => h.h5 (by simpa [upd] using k), fun k => h.h6 (by simpa [upd] using k), fun k => h.h7 (by simpa [upd] using k), fun k => h.h8 (by simpa [upd] using k), fun k => h.h9 (by simpa [upd] using k), fun k => h.h10 (by simpa [upd] using k), fun _ => hv, fun k => h.h12 (by simpa [upd] using k), fun k => by have := h.e13 (by simpa [upd] using k); simp [upd, this], fun k => h.h14 (by simpa [upd] using k), fun k => by have := h.e15 (by simpa [upd] using k); simp [upd, this], fun k => h.h16 (by simpa [upd] using k), fun _ => by simp [upd]⟩
theorem JB.s12 {D : CD} {F : CF} {P : Nat → Prop} {W : World} {X T : Nat} {c0 c1 c2 c3 c4 c5 c6 c7 c8 : Value} {f : Nat → Bool} {u25 u26 u27 u28 u29 u30 u31 u32 u33 u34 u35 u36 u37 u38 u39 : Value} {w : World} (h : JB D F P W X T c0 c1 c2 c3 c4 c5 c6 c7 c8 f u25 u26 u27 u28 u29 u30 u31 u32 u33 u34 u35 u36 u37 u38 u39 w) : JB D F P W X T c0 c1 c2 c3 c4 c5 c6 c7 c8 (upd f 12) u25 u26 u27 u28 u29 u30 u31 u32 u33 u34 u35 u36 (.pointer (some ⟨T, 2, none⟩)) u38 u39 w :=
  ⟨h.x, by simpa [dB, upd] using h.t, h.bel, h.far, h.room, h.xt, h.inc, fun k => h.h0 (by simpa [upd] using k), fun k => h.h1 (by simpa [upd] using k), fun k => h.h2 (by simpa [upd] using k), fun k => h.h3 (by simpa [upd] using k), fun k => h.h4 (by simpa [upd] using k), fun k => h.h5 (by simpa [upd] using k), fun k => h.h6 (by simpa [upd] using k), fun k => h.h7 (by simpa [upd] using k), fun k => h.h8 (by simpa [upd] using k), fun k => h.h9 (by simpa [upd] using k), fun k => h.h10 (by simpa [upd] using k), fun k => h.h11 (by simpa [upd] using k), fun _ => rfl, fun k => by have := h.e13 (by simpa [upd] using k); simp [upd, this], fun k => h.h14 (by simpa [upd] using k), fun k => by have := h.e15 (by simpa [upd] using k); simp [upd, this], fun k => h.h16 (by simpa [upd] using k), fun k => by have := h.e17 (by simpa [upd] using k); simp [upd, this]⟩
theorem JB.s13 {D : CD} {F : CF} {P : Nat → Prop} {W : World} {X T : Nat} {c0 c1 c2 c3 c4 c5 c6 c7 c8 : Value} {f : Nat → Bool} {u25 u26 u27 u28 u29 u30 u31 u32 u33 u34 u35 u36 u37 u38 u39 : Value} {w : World} (h : JB D F P W X T c0 c1 c2 c3 c4 c5 c6 c7 c8 f u25 u26 u27 u28 u29 u30 u31 u32 u33 u34 u35 u36 u37 u38 u39 w) (ha : f 3 = true) (hinc : InC P (w.setCell ⟨T, 2, none⟩ u28) D F) : JB D F P W X T c0 c1 c2 c3 c4 c5 c6 c7 c8 (upd f 13) u25 u26 u27 u28 u29 u30 u31 u32 u33 u34 u35 u36 u37 u38 u39 (w.setCell ⟨T, 2, none⟩ u28) :=
  ⟨h.x.other (by have := h.xt; omega) _, by have hh := h.t.put 2 u28; simpa [dB, upd] using hh, h.bel.setCell (p := ⟨T, 2, none⟩) (Nat.le_refl _) _, fun k hk hne => (Below.heap_setCell w ⟨T, 2, none⟩ _ k hne).trans (h.far k hk hne), by simpa using h.room, h.xt, hinc, fun k => (h.h0 (by simpa [upd] using k)).far (by omega) _, fun k => h.h1 (by simpa [upd] using k), fun k => h.h2 (by simpa [upd] using k), fun k => ownsRow_setCell_below (h.h3 (by simpa [upd] using k)) (a := ⟨T, 2, none⟩) (by show T < T + 1; omega) _, fun k => (h.h4 (by simpa [upd] using k)).far (by omega) _, fun k => h.h5 (by simpa [upd] using k), fun k => h.h6 (by simpa [upd] using k), fun k => ownsRow_setCell_below (h.h7 (by simpa [upd] using k)) (a := ⟨T, 2, none⟩) (by show T < T + 1; omega) _, fun k => (h.h8 (by simpa [upd] using k)).far (by omega) _, fun k => h.h9 (by simpa [upd] using k), fun k => h.h10 (by simpa [upd] using k), fun k => ownsRow_setCell_below (h.h11 (by simpa [upd] using k)) (a := ⟨T, 2, none⟩) (by show T < T + 1; omega) _, fun k => h.h12 (by simpa [upd] using k), fun _ => by simp [upd, ha], fun k => h.h14 (by simpa [upd] using k), fun k => by have := h.e15 (by simpa [upd] using k); simp [upd, this], fun k => h.h16 (by simpa [upd] using k), fun k => by have := h.e17 (by simpa [upd] using k); simp [upd, this]⟩
theorem JB.s14 {D : CD} {F : CF} {P : Nat → Prop} {W : World} {X T : Nat} {c0 c1 c2 c3 c4 c5 c6 c7 c8 : Value} {f : Nat → Bool} {u25 u26 u27 u28 u29 u30 u31 u32 u33 u34 u35 u36 u37 u38 u39 : Value} {w : World} (h : JB D F P W X T c0 c1 c2 c3 c4 c5 c6 c7 c8 f u25 u26 u27 u28 u29 u30 u31 u32 u33 u34 u35 u36 u37 u38 u39 w) : JB D F P W X T c0 c1 c2 c3 c4 c5 c6 c7 c8 (upd f 14) u25 u26 u27 u28 u29 u30 u31 u32 u33 u34 u35 u36 u37 (.pointer (some ⟨T, 6, none⟩)) u39 w :=
  ⟨h.x, by simpa [dB, upd] using h.t, h.bel, h.far, h.room, h.xt, h.inc, fun k => h.h0 (by simpa [upd] using k), fun k => h.h1 (by simpa [upd] using k), fun k => h.h2 (by simpa [upd] using k), fun k => h.h3 (by simpa [upd] using k), fun k => h.h4 (by simpa [upd] using k), fun k => h.h5 (by simpa [upd] using k), fun k => h.h6 (by simpa [upd] using k), fun k => h.h7 (by simpa [upd] using k), fun k => h.h8 (by simpa [upd] using k), fun k => h.h9 (by simpa [upd] using k), fun k => h.h10 (by simpa [upd] using k), fun k => h.h11 (by simpa [upd] using k), fun k => h.h12 (by simpa [upd] using k), fun k => by have := h.e13 (by simpa [upd] using k); simp [upd, this], fun _ => rfl, fun k => by have := h.e15 (by simpa [upd] using k); simp [upd, this], fun k => h.h16 (by simpa [upd] using k), fun k => by have := h.e17 (by simpa [upd] using k); simp [upd, this]⟩
theorem JB.s15 {D : CD} {F : CF} {P : Nat → Prop} {W : World} {X T : Nat} {c0 c1 c2 c3 c4 c5 c6 c7 c8 : Value} {f : Nat → Bool} {u25 u26 u27 u28 u29 u30 u31 u32 u33 u34 u35 u36 u37 u38 u39 : Value} {w : World} (h : JB D F P W X T c0 c1 c2 c3 c4 c5 c6 c7 c8 f u25 u26 u27 u28 u29 u30 u31 u32 u33 u34 u35 u36 u37 u38 u39 w) (ha : f 7 = true) (hinc : InC P (w.setCell ⟨T, 6, none⟩ u32) D F) : JB D F P W X T c0 c1 c2 c3 c4 c5 c6 c7 c8 (upd f 15) u25 u26 u27 u28 u29 u30 u31 u32 u33 u34 u35 u36 u37 u38 u39 (w.setCell ⟨T, 6, none⟩ u32) :=
  ⟨h.x.other (by have := h.xt; omega) _, by have hh := h.t.put 6 u32; simpa [dB, upd] using hh, h.bel.setCell (p := ⟨T, 6, none⟩) (Nat.le_refl _) _, fun k hk hne => (Below.heap_setCell w ⟨T, 6, none⟩ _ k hne).trans (h.far k hk hne), by simpa using h.room, h.xt, hinc, fun k => (h.h0 (by simpa [upd] using k)).far (by omega) _, fun k => h.h1 (by simpa [upd] using k), fun k => h.h2 (by simpa [upd] using k), fun k => ownsRow_setCell_below (h.h3 (by simpa [upd] using k)) (a := ⟨T, 6, none⟩) (by show T < T + 1; omega) _, fun k => (h.h4 (by simpa [upd] using k)).far (by omega) _, fun k => h.h5 (by simpa [upd] using k), fun k => h.h6 (by simpa [upd] using k), fun k => ownsRow_setCell_below (h.h7 (by simpa [upd] using k)) (a := ⟨T, 6, none⟩) (by show T < T + 1; omega) _, fun k => (h.h8 (by simpa [upd] using k)).far (by omega) _, fun k => h.h9 (by simpa [upd] using k), fun k => h.h10 (by simpa [upd] using k), fun k => ownsRow_setCell_below (h.h11 (by simpa [upd] using k)) (a := ⟨T, 6, none⟩) (by show T < T + 1; omega) _, fun k => h.h12 (by simpa [upd] using k), fun k => by have := h.e13 (by simpa [upd] using k); simp [upd, this], fun k => h.h14 (by simpa [upd] using k), fun _ => by simp [upd, ha], fun k => h.h16 (by simpa [upd] using k), fun k => by have := h.e17 (by simpa [upd] using k); simp [upd, this]⟩
theorem JB.s16 {D : CD} {F : CF} {P : Nat → Prop} {W : World} {X T : Nat} {c0 c1 c2 c3 c4 c5 c6 c7 c8 : Value} {f : Nat → Bool} {u25 u26 u27 u28 u29 u30 u31 u32 u33 u34 u35 u36 u37 u38 u39 : Value} {w : World} (h : JB D F P W X T c0 c1 c2 c3 c4 c5 c6 c7 c8 f u25 u26 u27 u28 u29 u30 u31 u32 u33 u34 u35 u36 u37 u38 u39 w) : JB D F P W X T c0 c1 c2 c3 c4 c5 c6 c7 c8 (upd f 16) u25 u26 u27 u28 u29 u30 u31 u32 u33 u34 u35 u36 u37 u38 (.pointer (some ⟨T, 7, none⟩)) w :=
  ⟨h.x, by simpa [dB, upd] using h.t, h.bel, h.far, h.room, h.xt, h.inc, fun k => h.h0 (by simpa [upd] using k), fun k => h.h1 (by simpa [upd] using k), fun k => h.h2 (by simpa [upd] using k), fun k => h.h3 (by simpa [upd] using k), fun k => h.h4 (by simpa [upd] using k), fun k => h.h5 (by simpa [upd] using k), fun k => h.h6 (by simpa [upd] using k), fun k => h.h7 (by simpa [upd] using k), fun k => h.h8 (by simpa [upd] using k), fun k => h.h9 (by simpa [upd] using k), fun k => h.h10 (by simpa [upd] using k), fun k => h.h11 (by simpa [upd] using k), fun k => h.h12 (by simpa [upd] using k), fun k => by have := h.e13 (by simpa [upd] using k); simp [upd, this], fun k => h.h14 (by simpa [upd] using k), fun k => by have := h.e15 (by simpa [upd] using k); simp [upd, this], fun _ => rfl, fun k => by have := h.e17 (by simpa [upd] using k); simp [upd, this]⟩
theorem JB.s17 {D : CD} {F : CF} {P : Nat → Prop} {W : World} {X T : Nat} {c0 c1 c2 c3 c4 c5 c6 c7 c8 : Value} {f : Nat → Bool} {u25 u26 u27 u28 u29 u30 u31 u32 u33 u34 u35 u36 u37 u38 u39 : Value} {w : World} (h : JB D F P W X T c0 c1 c2 c3 c4 c5 c6 c7 c8 f u25 u26 u27 u28 u29 u30 u31 u32 u33 u34 u35 u36 u37 u38 u39 w) (ha : f 11 = true) (hinc : InC P (w.setCell ⟨T, 7, none⟩ u36) D F) : JB D F P W X T c0 c1 c2 c3 c4 c5 c6 c7 c8 (upd f 17) u25 u26 u27 u28 u29 u30 u31 u32 u33 u34 u35 u36 u37 u38 u39 (w.setCell ⟨T, 7, none⟩ u36) :=
  ⟨h.x.other (by have := h.xt; omega) _, by have hh := h.t.put 7 u36; simpa [dB, upd] using hh, h.bel.setCell (p := ⟨T, 7, none⟩) (Nat.le_refl _) _, fun k hk hne => (Below.heap_setCell w ⟨T, 7, none⟩ _ k hne).trans (h.far k hk hne), by simpa using h.room, h.xt, hinc, fun k => (h.h0 (by simpa [upd] using k)).far (by omega) _, fun k => h.h1 (by simpa [upd] using k), fun k => h.h2 (by simpa [upd] using k), fun k => ownsRow_setCell_below (h.h3 (by simpa [upd] using k)) (a := ⟨T, 7, none⟩) (by show T < T + 1; omega) _, fun k => (h.h4 (by simpa [upd] using k)).far (by omega) _, fun k => h.h5 (by simpa [upd] using k), fun k => h.h6 (by simpa [upd] using k), fun k => ownsRow_setCell_below (h.h7 (by simpa [upd] using k)) (a := ⟨T, 7, none⟩) (by show T < T + 1; omega) _, fun k => (h.h8 (by simpa [upd] using k)).far (by omega) _, fun k => h.h9 (by simpa [upd] using k), fun k => h.h10 (by simpa [upd] using k), fun k => ownsRow_setCell_below (h.h11 (by simpa [upd] using k)) (a := ⟨T, 7, none⟩) (by show T < T + 1; omega) _, fun k => h.h12 (by simpa [upd] using k), fun k => by have := h.e13 (by simpa [upd] using k); simp [upd, this], fun k => h.h14 (by simpa [upd] using k), fun k => by have := h.e15 (by simpa [upd] using k); simp [upd, this], fun k => h.h16 (by simpa [upd] using k), fun _ => by simp [upd, ha]⟩
end Go.Proofs.Ytbpjflghkkkenaa.row

/- The walk of the statements' Own: a circuit in memory of its own. (Printed by mkN4.py.) -/
namespace Go.Proofs.Ytbpjflghkkkenaa.row
open Go.RowKit
open Go.Proofs.Ytbpjflghkkkenaa.mem (own_on addr_add)
open Go.Proofs.Ytbpjflghkkkenaa.rinv
theorem all_of24 {T : Nat → Prop} (h0 : T 0) (h1 : T 1) (h2 : T 2) (h3 : T 3) (h4 : T 4) (h5 : T 5) (h6 : T 6) (h7 : T 7) (h8 : T 8) (h9 : T 9) (h10 : T 10) (h11 : T 11) (h12 : T 12) (h13 : T 13) (h14 : T 14) (h15 : T 15) (h16 : T 16) (h17 : T 17) (h18 : T 18) (h19 : T 19) (h20 : T 20) (h21 : T 21) (h22 : T 22) (h23 : T 23) : ∀ i, i < 24 → T i := by
  intro i hi
  match i, hi with
  | 0, _ => exact h0
  | 1, _ => exact h1
  | 2, _ => exact h2
  | 3, _ => exact h3
  | 4, _ => exact h4
  | 5, _ => exact h5
  | 6, _ => exact h6
  | 7, _ => exact h7
  | 8, _ => exact h8
  | 9, _ => exact h9
  | 10, _ => exact h10
  | 11, _ => exact h11
  | 12, _ => exact h12
  | 13, _ => exact h13
  | 14, _ => exact h14
  | 15, _ => exact h15
  | 16, _ => exact h16
  | 17, _ => exact h17
  | 18, _ => exact h18
  | 19, _ => exact h19
  | 20, _ => exact h20
  | 21, _ => exact h21
  | 22, _ => exact h22
  | 23, _ => exact h23
  | n + 24, h => omega
theorem all_of18 {T : Nat → Prop} (h0 : T 0) (h1 : T 1) (h2 : T 2) (h3 : T 3) (h4 : T 4) (h5 : T 5) (h6 : T 6) (h7 : T 7) (h8 : T 8) (h9 : T 9) (h10 : T 10) (h11 : T 11) (h12 : T 12) (h13 : T 13) (h14 : T 14) (h15 : T 15) (h16 : T 16) (h17 : T 17) : ∀ i, i < 18 → T i := by
  intro i hi
  match i, hi with
  | 0, _ => exact h0
  | 1, _ => exact h1
  | 2, _ => exact h2
  | 3, _ => exact h3
  | 4, _ => exact h4
  | 5, _ => exact h5
  | 6, _ => exact h6
  | 7, _ => exact h7
  | 8, _ => exact h8
  | 9, _ => exact h9
  | 10, _ => exact h10
  | 11, _ => exact h11
  | 12, _ => exact h12
  | 13, _ => exact h13
  | 14, _ => exact h14
  | 15, _ => exact h15
  | 16, _ => exact h16
  | 17, _ => exact h17
  | n + 18, h => omega
theorem inf_of {e : TypeId} {z : Option Value} {n m : Nat} (h : (Try.prog.info? e).map (fun i => (i.zero, i.size, i.bytes)) = some (z, n, m)) : ∃ i, Try.prog.info? e = some i ∧ i.zero = z ∧ i.size = n ∧ i.bytes = m := by
  cases hi : Try.prog.info? e with
  | none => rw [hi] at h; cases h
  | some i =>
    rw [hi] at h
    simp only [Option.map_some, Option.some.injEq, Prod.mk.injEq] at h
    exact ⟨i, rfl, h.1, h.2.1, h.2.2⟩
noncomputable def ifoI := Classical.indefiniteDescription _ (inf_of infI)
noncomputable def ifoL := Classical.indefiniteDescription _ (inf_of infL)
noncomputable def ifoG := Classical.indefiniteDescription _ (inf_of infG)
noncomputable def ifoS := Classical.indefiniteDescription _ (inf_of infS)
/-- what a copy costs -/
structure Lens (D : CD) : Prop where
  i : D.ins.length ≤ 1000
  l : D.lats.length ≤ 1000
  o : D.outs.length ≤ 1000
  b : D.bads.length ≤ 1000
  c : D.cons.length ≤ 1000
  g : D.gates.length ≤ 1000
  s : D.syms.length ≤ 1000
/-- half way -/
def MidA (D : CD) (F : CF) (W v w : World) : Prop := ∃ a1 a3 a4 a5, Blk w W.heap.size (ccells D F) ∧ Blk w (W.heap.size + 1 + 1) #[.int .i64 D.max, a1, .slice F.al D.lats.length F.cl, a3, a4, a5, .slice F.ag D.gates.length F.cg, .slice F.as_ D.syms.length F.cs, .string D.com] ∧ Below (W.heap.size + 1 + 1) v w ∧ (∀ k, k < v.heap.size → k ≠ W.heap.size + 1 + 1 → w.heap[k]? = v.heap[k]?) ∧ W.heap.size + 1 + 1 + 1 ≤ w.heap.size ∧ InC (NewR W) w D F ∧ w.ownsRow (W.heap.size + 1 + 1 + 1) 3 1 a1 D.ins.length (flat enc1 D.ins) ∧ w.ownsRow (W.heap.size + 1 + 1 + 1) 3 1 a3 D.outs.length (flat enc1 D.outs) ∧ w.ownsRow (W.heap.size + 1 + 1 + 1) 3 1 a4 D.bads.length (flat enc1 D.bads) ∧ w.ownsRow (W.heap.size + 1 + 1 + 1) 3 1 a5 D.cons.length (flat enc1 D.cons)
/-- the rest of the way -/
def MidB (D : CD) (F : CF) (a1 a3 a4 a5 : Value) (W v w : World) : Prop := ∃ a2 a6 a7, Blk w W.heap.size (ccells D F) ∧ Blk w (W.heap.size + 1 + 1) #[.int .i64 D.max, a1, a2, a3, a4, a5, a6, a7, .string D.com] ∧ Below (W.heap.size + 1 + 1) v w ∧ (∀ k, k < v.heap.size → k ≠ W.heap.size + 1 + 1 → w.heap[k]? = v.heap[k]?) ∧ W.heap.size + 1 + 1 + 1 ≤ w.heap.size ∧ InC (NewR W) w D F ∧ w.ownsRow (W.heap.size + 1 + 1 + 1) 45 3 a2 D.lats.length (flat enc3 D.lats) ∧ w.ownsRow (W.heap.size + 1 + 1 + 1) 47 3 a6 D.gates.length (flat enc3 D.gates) ∧ w.ownsRow (W.heap.size + 1 + 1 + 1) 59 3 a7 D.syms.length (flat encS D.syms)
/-- a circuit in memory of its own -/
structure OwnC (B : Nat) (w : World) (D : CD) (F : CF) : Prop where
  i : w.ownsRow B 3 1 (.slice F.ai D.ins.length F.ci) D.ins.length (flat enc1 D.ins)
  l : w.ownsRow B 45 3 (.slice F.al D.lats.length F.cl) D.lats.length (flat enc3 D.lats)
  o : w.ownsRow B 3 1 (.slice F.ao D.outs.length F.co) D.outs.length (flat enc1 D.outs)
  b : w.ownsRow B 3 1 (.slice F.ab D.bads.length F.cb) D.bads.length (flat enc1 D.bads)
  c : w.ownsRow B 3 1 (.slice F.ac D.cons.length F.cc) D.cons.length (flat enc1 D.cons)
  g : w.ownsRow B 47 3 (.slice F.ag D.gates.length F.cg) D.gates.length (flat enc3 D.gates)
  s : w.ownsRow B 59 3 (.slice F.as_ D.syms.length F.cs) D.syms.length (flat encS D.syms)
/-- the same, of values -/
structure OwnAll (B : Nat) (w : World) (D : CD) (a1 a2 a3 a4 a5 a6 a7 : Value) : Prop where
  i : w.ownsRow B 3 1 a1 D.ins.length (flat enc1 D.ins)
  l : w.ownsRow B 45 3 a2 D.lats.length (flat enc3 D.lats)
  o : w.ownsRow B 3 1 a3 D.outs.length (flat enc1 D.outs)
  b : w.ownsRow B 3 1 a4 D.bads.length (flat enc1 D.bads)
  c : w.ownsRow B 3 1 a5 D.cons.length (flat enc1 D.cons)
  g : w.ownsRow B 47 3 a6 D.gates.length (flat enc3 D.gates)
  s : w.ownsRow B 59 3 a7 D.syms.length (flat encS D.syms)
theorem Blk.lo {v w : World} {X T : Nat} {cs : Array Value} (h : Blk v X cs) (hb : Below T v w) (hX : X < T) : Blk w X cs := by
  obtain ⟨t, h⟩ := h
  exact ⟨t, (hb.block X hX).trans h⟩
theorem nine_put {w : World} {R : Nat} {y0 y1 y2 y3 y4 y5 y6 y7 y8 : Value} (v0 v1 v2 v3 v4 v5 v6 v7 v8 : Value) (h : Blk w R #[y0, y1, y2, y3, y4, y5, y6, y7, y8]) : Blk (((((((((w.setCell ⟨R, 0, none⟩ v0).setCell ⟨R, 1, none⟩ v1).setCell ⟨R, 2, none⟩ v2).setCell ⟨R, 3, none⟩ v3).setCell ⟨R, 4, none⟩ v4).setCell ⟨R, 5, none⟩ v5).setCell ⟨R, 6, none⟩ v6).setCell ⟨R, 7, none⟩ v7).setCell ⟨R, 8, none⟩ v8) R #[v0, v1, v2, v3, v4, v5, v6, v7, v8] := by
  have h9 := (((((((((h.put 0 v0).put 1 v1).put 2 v2).put 3 v3).put 4 v4).put 5 v5).put 6 v6).put 7 v7).put 8 v8)
  simpa using h9
theorem nine_below {W w : World} {R B : Nat} (v0 v1 v2 v3 v4 v5 v6 v7 v8 : Value) (h : Below B W w) (hB : B ≤ R) : Below B W (((((((((w.setCell ⟨R, 0, none⟩ v0).setCell ⟨R, 1, none⟩ v1).setCell ⟨R, 2, none⟩ v2).setCell ⟨R, 3, none⟩ v3).setCell ⟨R, 4, none⟩ v4).setCell ⟨R, 5, none⟩ v5).setCell ⟨R, 6, none⟩ v6).setCell ⟨R, 7, none⟩ v7).setCell ⟨R, 8, none⟩ v8) := by
  have q : ∀ (u : World) (j : Nat) (v : Value), Below B W u → Below B W (u.setCell ⟨R, j, none⟩ v) := fun u j v h => h.setCell (p := ⟨R, j, none⟩) hB _
  exact q _ _ _ (q _ _ _ (q _ _ _ (q _ _ _ (q _ _ _ (q _ _ _ (q _ _ _ (q _ _ _ (q _ _ _ h))))))))
theorem nine_own {w : World} {R B sz n : Nat} {e : TypeId} {v : Value} {xs : List Value} (v0 v1 v2 v3 v4 v5 v6 v7 v8 : Value) (h : w.ownsRow B e sz v n xs) (hB : R < B) : (((((((((w.setCell ⟨R, 0, none⟩ v0).setCell ⟨R, 1, none⟩ v1).setCell ⟨R, 2, none⟩ v2).setCell ⟨R, 3, none⟩ v3).setCell ⟨R, 4, none⟩ v4).setCell ⟨R, 5, none⟩ v5).setCell ⟨R, 6, none⟩ v6).setCell ⟨R, 7, none⟩ v7).setCell ⟨R, 8, none⟩ v8).ownsRow B e sz v n xs := by
  have q : ∀ (u : World) (j : Nat) (z : Value), u.ownsRow B e sz v n xs → (u.setCell ⟨R, j, none⟩ z).ownsRow B e sz v n xs := fun u j z h => ownsRow_setCell_below (a := ⟨R, j, none⟩) h hB _
  exact q _ _ _ (q _ _ _ (q _ _ _ (q _ _ _ (q _ _ _ (q _ _ _ (q _ _ _ (q _ _ _ (q _ _ _ h))))))))
theorem OwnC.inC {B : Nat} {w : World} {D : CD} {F : CF} {P : Nat → Prop} (h : OwnC B w D F) (hP : ∀ k, P k → k < B) : InC P w D F :=
  ⟨rw_of_owned enc1_len h.i hP, rw_of_owned enc3_len h.l hP, rw_of_owned enc1_len h.o hP, rw_of_owned enc1_len h.b hP, rw_of_owned enc1_len h.c hP, rw_of_owned enc3_len h.g hP, rw_of_owned encS_len h.s hP⟩
theorem OwnC.on {B : Nat} {w w' : World} {D : CD} {F : CF} (h : OwnC B w D F) (hb : Below w.heap.size w w') : OwnC B w' D F :=
  ⟨own_on h.i hb, own_on h.l hb, own_on h.o hb, own_on h.b hb, own_on h.c hb, own_on h.g hb, own_on h.s hb⟩
theorem owns_form {w : World} {B sz n : Nat} {e : TypeId} {v : Value} {xs : List Value} (h : w.ownsRow B e sz v n xs) : ∃ a cap, v = .slice a n cap := by
  rcases Joins.ownsRow_forms h with ⟨h1, h2⟩ | ⟨g, cap, h1⟩
  · exact ⟨none, 0, by rw [h1, h2]⟩
  · exact ⟨_, _, h1⟩
/-- a row survives where its blocks do -/
theorem own_far {w w' : World} {B sz n T : Nat} {e : TypeId} {v : Value} {xs : List Value} (h : w.ownsRow B e sz v n xs) (hT : T < B) (hf : ∀ k, k < w.heap.size → k ≠ T → w'.heap[k]? = w.heap[k]?) : w'.ownsRow B e sz v n xs := by
  rcases h.2 with h0 | ⟨g, cap, cur, hv, hb, hg, r⟩
  · exact ⟨h.1, .inl h0⟩
  · exact ⟨h.1, .inr ⟨g, cap, cur, hv, hb, (hf g (Array.getElem?_eq_some_iff.1 hg).1 (by omega)).trans hg, r⟩⟩
theorem three_new (w : World) (c1 c2 c3 : Array Value) (t : TypeId) :
    Blk (((w.alloc (.cells c1 t)).alloc (.cells c2 t)).alloc (.cells c3 t)) w.heap.size c1 ∧ Blk (((w.alloc (.cells c1 t)).alloc (.cells c2 t)).alloc (.cells c3 t)) (w.heap.size + 1) c2 ∧
    Blk (((w.alloc (.cells c1 t)).alloc (.cells c2 t)).alloc (.cells c3 t)) (w.heap.size + 1 + 1) c3 ∧ Below w.heap.size w (((w.alloc (.cells c1 t)).alloc (.cells c2 t)).alloc (.cells c3 t)) ∧ (((w.alloc (.cells c1 t)).alloc (.cells c2 t)).alloc (.cells c3 t)).heap.size = w.heap.size + 1 + 1 + 1 := by
  have s1 : (w.alloc (.cells c1 t)).heap.size = w.heap.size + 1 := by simp
  have s2 : ((w.alloc (.cells c1 t)).alloc (.cells c2 t)).heap.size = w.heap.size + 1 + 1 := by simp
  have b1 := blk_new w c1 t
  have b2 := blk_new (w.alloc (.cells c1 t)) c2 t
  have b3 := blk_new ((w.alloc (.cells c1 t)).alloc (.cells c2 t)) c3 t
  rw [s1] at b2
  rw [s2] at b3
  have q1 : ∀ (w : World) (b : Obj), Below w.heap.size w (w.alloc b) := fun w b => (Below.refl _ _).alloc (Nat.le_refl _) _
  refine ⟨(b1.on (q1 _ _)).on (q1 _ _), b2.on (q1 _ _), b3, ?_, by simp⟩
  exact (q1 _ _).trans (((q1 _ _).mono (by omega)).trans ((q1 _ _).mono (by omega)))

set_option maxRecDepth 100000 in
set_option maxHeartbeats 6400000 in
theorem own_any (D : CD) (F : CF) (w : World) (hc : InC (NewR w) w D F) (hl : Lens D) :
    Calls Try.prog 9 #[cval D F] w fun e w' => ∃ F', e = .returned (cval D F') ∧ OwnC w.heap.size w' D F' ∧ Below w.heap.size w w' := by
  have Hi := Lib.hid hl.i
  have Hl := Lib.hid hl.l
  have Ho := Lib.hid hl.o
  have Hb := Lib.hid hl.b
  have Hc := Lib.hid hl.c
  have Hg := Lib.hid hl.g
  have Hs := Lib.hid hl.s
  have HC := Lib.hid hc
  clear hl hc
  go_enter Try.func9, Try.ntmps9
  go_upto_region 2 with fail
  obtain ⟨X0, Y0, T0, B0, R0⟩ := three_new w (ccells D F) #[.int .i64 0, .slice none 0 0, .slice none 0 0, .slice none 0 0, .slice none 0 0, .slice none 0 0, .slice none 0 0, .slice none 0 0, .string ⟨#[]⟩] #[.int .i64 D.max, .slice F.ai D.ins.length F.ci, .slice F.al D.lats.length F.cl, .slice F.ao D.outs.length F.co, .slice F.ab D.bads.length F.cb, .slice F.ac D.cons.length F.cc, .slice F.ag D.gates.length F.cg, .slice F.as_ D.syms.length F.cs, .string D.com] 27
  have I0 := HC.out.on B0
  have HB := Lib.hid B0
  clear B0 HC
  generalize (((w.alloc (.cells (ccells D F) 27)).alloc (.cells #[.int .i64 0, .slice none 0 0, .slice none 0 0, .slice none 0 0, .slice none 0 0, .slice none 0 0, .slice none 0 0, .slice none 0 0, .string ⟨#[]⟩] 27)).alloc (.cells #[.int .i64 D.max, .slice F.ai D.ins.length F.ci, .slice F.al D.lats.length F.cl, .slice F.ao D.outs.length F.co, .slice F.ab D.bads.length F.cb, .slice F.ac D.cons.length F.cc, .slice F.ag D.gates.length F.cg, .slice F.as_ D.syms.length F.cs, .string D.com] 27)) = v at *
  have HX := Lib.hid X0
  have HY := Lib.hid Y0
  have HT := Lib.hid T0
  have HR := Lib.hid R0
  have HI := Lib.hid I0
  clear X0 Y0 T0 R0 I0
  go_cut [] (fun wx => MidA D F w v wx)
  case first =>
    have X0 := HX.out
    have T0 := HT.out
    have R0 : w.heap.size + 1 + 1 + 1 ≤ v.heap.size := by have := HR.out; omega
    have I0 := HI.out
    have B0 : Below (w.heap.size + 1 + 1) v v := Below.refl _ _
    refine wp_region_inv (by kernel_rfl) (by kernel_rfl) (fun f a w' => ∃ u5 u6 u7 u8 u9 u10 u11 u12 u13 u14 u15 u16 u17 u18 u19 u20 u21 u22 u23 u24, a = ⟨#[cval D F, .pointer (some ⟨w.heap.size, 0, none⟩), .pointer (some ⟨w.heap.size + 1, 0, none⟩), .pointer (some ⟨w.heap.size + 1 + 1, 0, none⟩), cval D F, u5, u6, u7, u8, u9, u10, u11, u12, u13, u14, u15, u16, u17, u18, u19, u20, u21, u22, u23, u24, undef, undef, undef, undef, undef, undef, undef, undef, undef, undef, undef, undef, undef, undef, undef, undef], []⟩ ∧ JA D F (NewR w) v w.heap.size (w.heap.size + 1 + 1) (.int .i64 D.max) (.slice F.ai D.ins.length F.ci) (.slice F.al D.lats.length F.cl) (.slice F.ao D.outs.length F.co) (.slice F.ab D.bads.length F.cb) (.slice F.ac D.cons.length F.cc) (.slice F.ag D.gates.length F.cg) (.slice F.as_ D.syms.length F.cs) (.string D.com) f u5 u6 u7 u8 u9 u10 u11 u12 u13 u14 u15 u16 u17 u18 u19 u20 u21 u22 u23 u24 w') ?_ ?_ ?_
    · exact ⟨undef, undef, undef, undef, undef, undef, undef, undef, undef, undef, undef, undef, undef, undef, undef, undef, undef, undef, undef, undef, rfl, ⟨X0, T0, B0.drew, fun _ _ _ => rfl, R0, by omega, I0.same (Nat.le_refl _) (fun _ _ _ => rfl), nofun, nofun, nofun, nofun, nofun, nofun, nofun, nofun, nofun, nofun, nofun, nofun, nofun, nofun, nofun, nofun, nofun, nofun, nofun, nofun, nofun, nofun, nofun, nofun⟩⟩
    · refine all_of24 ?_ ?_ ?_ ?_ ?_ ?_ ?_ ?_ ?_ ?_ ?_ ?_ ?_ ?_ ?_ ?_ ?_ ?_ ?_ ?_ ?_ ?_ ?_ ?_
      · intro f a w1 hf he hI
        obtain ⟨u5, u6, u7, u8, u9, u10, u11, u12, u13, u14, u15, u16, u17, u18, u19, u20, u21, u22, u23, u24, rfl, J⟩ := hI
        clear he
        refine wpOp_of rfl rfl (fun K hK => ?_)
        go_simp
        exact hK _ _ ⟨_, _, _, _, _, _, _, _, _, _, _, _, _, _, _, _, _, _, _, _, rfl, J.s0⟩
      · intro f a w1 hf he hI
        obtain ⟨u5, u6, u7, u8, u9, u10, u11, u12, u13, u14, u15, u16, u17, u18, u19, u20, u21, u22, u23, u24, rfl, J⟩ := hI
        clear he
        refine wpOp_of rfl rfl (fun K hK => ?_)
        go_simp
        exact hK _ _ ⟨_, _, _, _, _, _, _, _, _, _, _, _, _, _, _, _, _, _, _, _, rfl, J.s1⟩
      · intro f a w1 hf he hI
        obtain ⟨u5, u6, u7, u8, u9, u10, u11, u12, u13, u14, u15, u16, u17, u18, u19, u20, u21, u22, u23, u24, rfl, J⟩ := hI
        obtain rfl := J.h1 (he _ rfl ⟨1, .data⟩ (by simp) rfl)
        have x1 : w1.cell? ⟨w.heap.size, 1, none⟩ = some (.slice F.ai D.ins.length F.ci) := (J.x.cell 1).1
        clear he
        refine wpOp_of rfl rfl (fun K hK => ?_)
        go_simp
        exact hK _ _ ⟨_, _, _, _, _, _, _, _, _, _, _, _, _, _, _, _, _, _, _, _, rfl, J.s2⟩
      · intro f a w1 hf he hI
        obtain ⟨u5, u6, u7, u8, u9, u10, u11, u12, u13, u14, u15, u16, u17, u18, u19, u20, u21, u22, u23, u24, rfl, J⟩ := hI
        obtain ⟨g, rfl, hB, hg⟩ := J.h0 (he _ rfl ⟨0, .data⟩ (by simp) rfl)
        obtain rfl := J.h2 (he _ rfl ⟨2, .data⟩ (by simp) rfl)
        clear he
        refine wpOp_of rfl rfl (fun K hK => ?_)
        refine wp_clone (enc := enc1) (sz := 1) (w := w1) (.tmp 5) (.tmp 7) 22 3 (ifoI).1 (.int .i64 0) 8 rfl (by kernel_rfl) (ifoI).2.1 (ifoI).2.2.1 (ifoI).2.2.2.1 (ifoI).2.2.2.2 rfl (by decide) enc1_len (w.heap.size + 1 + 1 + 1) g hB hg rfl rfl J.inc.i (by have := Hi.out; omega) (fun v' w' hv hb => ?_)
        exact hK _ _ ⟨_, _, _, _, _, _, _, _, _, _, _, _, _, _, _, _, _, _, _, _, rfl, (J.on hb).s3 hf hv⟩
      · intro f a w1 hf he hI
        obtain ⟨u5, u6, u7, u8, u9, u10, u11, u12, u13, u14, u15, u16, u17, u18, u19, u20, u21, u22, u23, u24, rfl, J⟩ := hI
        clear he
        refine wpOp_of rfl rfl (fun K hK => ?_)
        go_simp
        exact hK _ _ ⟨_, _, _, _, _, _, _, _, _, _, _, _, _, _, _, _, _, _, _, _, rfl, J.s4⟩
      · intro f a w1 hf he hI
        obtain ⟨u5, u6, u7, u8, u9, u10, u11, u12, u13, u14, u15, u16, u17, u18, u19, u20, u21, u22, u23, u24, rfl, J⟩ := hI
        clear he
        refine wpOp_of rfl rfl (fun K hK => ?_)
        go_simp
        exact hK _ _ ⟨_, _, _, _, _, _, _, _, _, _, _, _, _, _, _, _, _, _, _, _, rfl, J.s5⟩
      · intro f a w1 hf he hI
        obtain ⟨u5, u6, u7, u8, u9, u10, u11, u12, u13, u14, u15, u16, u17, u18, u19, u20, u21, u22, u23, u24, rfl, J⟩ := hI
        obtain rfl := J.h5 (he _ rfl ⟨5, .data⟩ (by simp) rfl)
        have x1 : w1.cell? ⟨w.heap.size, 3, none⟩ = some (.slice F.ao D.outs.length F.co) := (J.x.cell 3).1
        clear he
        refine wpOp_of rfl rfl (fun K hK => ?_)
        go_simp
        exact hK _ _ ⟨_, _, _, _, _, _, _, _, _, _, _, _, _, _, _, _, _, _, _, _, rfl, J.s6⟩
      · intro f a w1 hf he hI
        obtain ⟨u5, u6, u7, u8, u9, u10, u11, u12, u13, u14, u15, u16, u17, u18, u19, u20, u21, u22, u23, u24, rfl, J⟩ := hI
        obtain ⟨g, rfl, hB, hg⟩ := J.h4 (he _ rfl ⟨4, .data⟩ (by simp) rfl)
        obtain rfl := J.h6 (he _ rfl ⟨6, .data⟩ (by simp) rfl)
        clear he
        refine wpOp_of rfl rfl (fun K hK => ?_)
        refine wp_clone (enc := enc1) (sz := 1) (w := w1) (.tmp 9) (.tmp 11) 22 3 (ifoI).1 (.int .i64 0) 8 rfl (by kernel_rfl) (ifoI).2.1 (ifoI).2.2.1 (ifoI).2.2.2.1 (ifoI).2.2.2.2 rfl (by decide) enc1_len (w.heap.size + 1 + 1 + 1) g hB hg rfl rfl J.inc.o (by have := Ho.out; omega) (fun v' w' hv hb => ?_)
        exact hK _ _ ⟨_, _, _, _, _, _, _, _, _, _, _, _, _, _, _, _, _, _, _, _, rfl, (J.on hb).s7 hf hv⟩
      · intro f a w1 hf he hI
        obtain ⟨u5, u6, u7, u8, u9, u10, u11, u12, u13, u14, u15, u16, u17, u18, u19, u20, u21, u22, u23, u24, rfl, J⟩ := hI
        clear he
        refine wpOp_of rfl rfl (fun K hK => ?_)
        go_simp
        exact hK _ _ ⟨_, _, _, _, _, _, _, _, _, _, _, _, _, _, _, _, _, _, _, _, rfl, J.s8⟩
      · intro f a w1 hf he hI
        obtain ⟨u5, u6, u7, u8, u9, u10, u11, u12, u13, u14, u15, u16, u17, u18, u19, u20, u21, u22, u23, u24, rfl, J⟩ := hI
        clear he
        refine wpOp_of rfl rfl (fun K hK => ?_)
        go_simp
        exact hK _ _ ⟨_, _, _, _, _, _, _, _, _, _, _, _, _, _, _, _, _, _, _, _, rfl, J.s9⟩
      · intro f a w1 hf he hI
        obtain ⟨u5, u6, u7, u8, u9, u10, u11, u12, u13, u14, u15, u16, u17, u18, u19, u20, u21, u22, u23, u24, rfl, J⟩ := hI
        obtain rfl := J.h9 (he _ rfl ⟨9, .data⟩ (by simp) rfl)
        have x1 : w1.cell? ⟨w.heap.size, 4, none⟩ = some (.slice F.ab D.bads.length F.cb) := (J.x.cell 4).1
        clear he
        refine wpOp_of rfl rfl (fun K hK => ?_)
        go_simp
        exact hK _ _ ⟨_, _, _, _, _, _, _, _, _, _, _, _, _, _, _, _, _, _, _, _, rfl, J.s10⟩
      · intro f a w1 hf he hI
        obtain ⟨u5, u6, u7, u8, u9, u10, u11, u12, u13, u14, u15, u16, u17, u18, u19, u20, u21, u22, u23, u24, rfl, J⟩ := hI
        obtain ⟨g, rfl, hB, hg⟩ := J.h8 (he _ rfl ⟨8, .data⟩ (by simp) rfl)
        obtain rfl := J.h10 (he _ rfl ⟨10, .data⟩ (by simp) rfl)
        clear he
        refine wpOp_of rfl rfl (fun K hK => ?_)
        refine wp_clone (enc := enc1) (sz := 1) (w := w1) (.tmp 13) (.tmp 15) 22 3 (ifoI).1 (.int .i64 0) 8 rfl (by kernel_rfl) (ifoI).2.1 (ifoI).2.2.1 (ifoI).2.2.2.1 (ifoI).2.2.2.2 rfl (by decide) enc1_len (w.heap.size + 1 + 1 + 1) g hB hg rfl rfl J.inc.b (by have := Hb.out; omega) (fun v' w' hv hb => ?_)
        exact hK _ _ ⟨_, _, _, _, _, _, _, _, _, _, _, _, _, _, _, _, _, _, _, _, rfl, (J.on hb).s11 hf hv⟩
      · intro f a w1 hf he hI
        obtain ⟨u5, u6, u7, u8, u9, u10, u11, u12, u13, u14, u15, u16, u17, u18, u19, u20, u21, u22, u23, u24, rfl, J⟩ := hI
        clear he
        refine wpOp_of rfl rfl (fun K hK => ?_)
        go_simp
        exact hK _ _ ⟨_, _, _, _, _, _, _, _, _, _, _, _, _, _, _, _, _, _, _, _, rfl, J.s12⟩
      · intro f a w1 hf he hI
        obtain ⟨u5, u6, u7, u8, u9, u10, u11, u12, u13, u14, u15, u16, u17, u18, u19, u20, u21, u22, u23, u24, rfl, J⟩ := hI
        clear he
        refine wpOp_of rfl rfl (fun K hK => ?_)
        go_simp
        exact hK _ _ ⟨_, _, _, _, _, _, _, _, _, _, _, _, _, _, _, _, _, _, _, _, rfl, J.s13⟩
      · intro f a w1 hf he hI
        obtain ⟨u5, u6, u7, u8, u9, u10, u11, u12, u13, u14, u15, u16, u17, u18, u19, u20, u21, u22, u23, u24, rfl, J⟩ := hI
        obtain rfl := J.h13 (he _ rfl ⟨13, .data⟩ (by simp) rfl)
        have x1 : w1.cell? ⟨w.heap.size, 5, none⟩ = some (.slice F.ac D.cons.length F.cc) := (J.x.cell 5).1
        clear he
        refine wpOp_of rfl rfl (fun K hK => ?_)
        go_simp
        exact hK _ _ ⟨_, _, _, _, _, _, _, _, _, _, _, _, _, _, _, _, _, _, _, _, rfl, J.s14⟩
      · intro f a w1 hf he hI
        obtain ⟨u5, u6, u7, u8, u9, u10, u11, u12, u13, u14, u15, u16, u17, u18, u19, u20, u21, u22, u23, u24, rfl, J⟩ := hI
        obtain ⟨g, rfl, hB, hg⟩ := J.h12 (he _ rfl ⟨12, .data⟩ (by simp) rfl)
        obtain rfl := J.h14 (he _ rfl ⟨14, .data⟩ (by simp) rfl)
        clear he
        refine wpOp_of rfl rfl (fun K hK => ?_)
        refine wp_clone (enc := enc1) (sz := 1) (w := w1) (.tmp 17) (.tmp 19) 22 3 (ifoI).1 (.int .i64 0) 8 rfl (by kernel_rfl) (ifoI).2.1 (ifoI).2.2.1 (ifoI).2.2.2.1 (ifoI).2.2.2.2 rfl (by decide) enc1_len (w.heap.size + 1 + 1 + 1) g hB hg rfl rfl J.inc.c (by have := Hc.out; omega) (fun v' w' hv hb => ?_)
        exact hK _ _ ⟨_, _, _, _, _, _, _, _, _, _, _, _, _, _, _, _, _, _, _, _, rfl, (J.on hb).s15 hf hv⟩
      · intro f a w1 hf he hI
        obtain ⟨u5, u6, u7, u8, u9, u10, u11, u12, u13, u14, u15, u16, u17, u18, u19, u20, u21, u22, u23, u24, rfl, J⟩ := hI
        clear he
        refine wpOp_of rfl rfl (fun K hK => ?_)
        go_simp
        exact hK _ _ ⟨_, _, _, _, _, _, _, _, _, _, _, _, _, _, _, _, _, _, _, _, rfl, J.s16⟩
      · intro f a w1 hf he hI
        obtain ⟨u5, u6, u7, u8, u9, u10, u11, u12, u13, u14, u15, u16, u17, u18, u19, u20, u21, u22, u23, u24, rfl, J⟩ := hI
        have ha : f 3 = true := (he _ rfl ⟨3, .data⟩ (by simp) rfl)
        obtain rfl := J.h16 (he _ rfl ⟨16, .data⟩ (by simp) rfl)
        obtain ⟨z0, hz0⟩ : ∃ z, w1.cell? ⟨w.heap.size + 1 + 1, 1, none⟩ = some z := ⟨_, (J.t.cell 1).1⟩
        have hz1 : w1.frozen? ⟨w.heap.size + 1 + 1, 1, none⟩ = false := (J.t.cell 1).2
        obtain ⟨aa, cc, hu⟩ := owns_form (J.h3 ha)
        obtain rfl := hu
        clear he
        refine wpOp_of rfl rfl (fun K hK => ?_)
        go_simp
        exact hK _ _ ⟨_, _, _, _, _, _, _, _, _, _, _, _, _, _, _, _, _, _, _, _, rfl, J.s17 ha (J.inc.same (by simp) (fun k _ hk => Below.heap_setCell w1 ⟨w.heap.size + 1 + 1, 1, none⟩ _ k (by show k ≠ w.heap.size + 1 + 1; intro e; apply hk; show w.heap.size ≤ k; omega)))⟩
      · intro f a w1 hf he hI
        obtain ⟨u5, u6, u7, u8, u9, u10, u11, u12, u13, u14, u15, u16, u17, u18, u19, u20, u21, u22, u23, u24, rfl, J⟩ := hI
        clear he
        refine wpOp_of rfl rfl (fun K hK => ?_)
        go_simp
        exact hK _ _ ⟨_, _, _, _, _, _, _, _, _, _, _, _, _, _, _, _, _, _, _, _, rfl, J.s18⟩
      · intro f a w1 hf he hI
        obtain ⟨u5, u6, u7, u8, u9, u10, u11, u12, u13, u14, u15, u16, u17, u18, u19, u20, u21, u22, u23, u24, rfl, J⟩ := hI
        have ha : f 7 = true := (he _ rfl ⟨7, .data⟩ (by simp) rfl)
        obtain rfl := J.h18 (he _ rfl ⟨18, .data⟩ (by simp) rfl)
        obtain ⟨z0, hz0⟩ : ∃ z, w1.cell? ⟨w.heap.size + 1 + 1, 3, none⟩ = some z := ⟨_, (J.t.cell 3).1⟩
        have hz1 : w1.frozen? ⟨w.heap.size + 1 + 1, 3, none⟩ = false := (J.t.cell 3).2
        obtain ⟨aa, cc, hu⟩ := owns_form (J.h7 ha)
        obtain rfl := hu
        clear he
        refine wpOp_of rfl rfl (fun K hK => ?_)
        go_simp
        exact hK _ _ ⟨_, _, _, _, _, _, _, _, _, _, _, _, _, _, _, _, _, _, _, _, rfl, J.s19 ha (J.inc.same (by simp) (fun k _ hk => Below.heap_setCell w1 ⟨w.heap.size + 1 + 1, 3, none⟩ _ k (by show k ≠ w.heap.size + 1 + 1; intro e; apply hk; show w.heap.size ≤ k; omega)))⟩
      · intro f a w1 hf he hI
        obtain ⟨u5, u6, u7, u8, u9, u10, u11, u12, u13, u14, u15, u16, u17, u18, u19, u20, u21, u22, u23, u24, rfl, J⟩ := hI
        clear he
        refine wpOp_of rfl rfl (fun K hK => ?_)
        go_simp
        exact hK _ _ ⟨_, _, _, _, _, _, _, _, _, _, _, _, _, _, _, _, _, _, _, _, rfl, J.s20⟩
      · intro f a w1 hf he hI
        obtain ⟨u5, u6, u7, u8, u9, u10, u11, u12, u13, u14, u15, u16, u17, u18, u19, u20, u21, u22, u23, u24, rfl, J⟩ := hI
        have ha : f 11 = true := (he _ rfl ⟨11, .data⟩ (by simp) rfl)
        obtain rfl := J.h20 (he _ rfl ⟨20, .data⟩ (by simp) rfl)
        obtain ⟨z0, hz0⟩ : ∃ z, w1.cell? ⟨w.heap.size + 1 + 1, 4, none⟩ = some z := ⟨_, (J.t.cell 4).1⟩
        have hz1 : w1.frozen? ⟨w.heap.size + 1 + 1, 4, none⟩ = false := (J.t.cell 4).2
        obtain ⟨aa, cc, hu⟩ := owns_form (J.h11 ha)
        obtain rfl := hu
        clear he
        refine wpOp_of rfl rfl (fun K hK => ?_)
        go_simp
        exact hK _ _ ⟨_, _, _, _, _, _, _, _, _, _, _, _, _, _, _, _, _, _, _, _, rfl, J.s21 ha (J.inc.same (by simp) (fun k _ hk => Below.heap_setCell w1 ⟨w.heap.size + 1 + 1, 4, none⟩ _ k (by show k ≠ w.heap.size + 1 + 1; intro e; apply hk; show w.heap.size ≤ k; omega)))⟩
      · intro f a w1 hf he hI
        obtain ⟨u5, u6, u7, u8, u9, u10, u11, u12, u13, u14, u15, u16, u17, u18, u19, u20, u21, u22, u23, u24, rfl, J⟩ := hI
        clear he
        refine wpOp_of rfl rfl (fun K hK => ?_)
        go_simp
        exact hK _ _ ⟨_, _, _, _, _, _, _, _, _, _, _, _, _, _, _, _, _, _, _, _, rfl, J.s22⟩
      · intro f a w1 hf he hI
        obtain ⟨u5, u6, u7, u8, u9, u10, u11, u12, u13, u14, u15, u16, u17, u18, u19, u20, u21, u22, u23, u24, rfl, J⟩ := hI
        have ha : f 15 = true := (he _ rfl ⟨15, .data⟩ (by simp) rfl)
        obtain rfl := J.h22 (he _ rfl ⟨22, .data⟩ (by simp) rfl)
        obtain ⟨z0, hz0⟩ : ∃ z, w1.cell? ⟨w.heap.size + 1 + 1, 5, none⟩ = some z := ⟨_, (J.t.cell 5).1⟩
        have hz1 : w1.frozen? ⟨w.heap.size + 1 + 1, 5, none⟩ = false := (J.t.cell 5).2
        obtain ⟨aa, cc, hu⟩ := owns_form (J.h15 ha)
        obtain rfl := hu
        clear he
        refine wpOp_of rfl rfl (fun K hK => ?_)
        go_simp
        exact hK _ _ ⟨_, _, _, _, _, _, _, _, _, _, _, _, _, _, _, _, _, _, _, _, rfl, J.s23 ha (J.inc.same (by simp) (fun k _ hk => Below.heap_setCell w1 ⟨w.heap.size + 1 + 1, 5, none⟩ _ k (by show k ≠ w.heap.size + 1 + 1; intro e; apply hk; show w.heap.size ≤ k; omega)))⟩
    · intro f a w1 hall hI
      obtain ⟨u5, u6, u7, u8, u9, u10, u11, u12, u13, u14, u15, u16, u17, u18, u19, u20, u21, u22, u23, u24, rfl, J⟩ := hI
      have ht := J.t
      unfold dA at ht
      rw [hall 17 (by decide), hall 19 (by decide), hall 21 (by decide), hall 23 (by decide)] at ht
      simp only [if_true] at ht
      have M : MidA D F w v w1 := ⟨u8, u12, u16, u20, J.x, ht, J.bel, J.far, J.room, J.inc, J.h3 (hall 3 (by decide)), J.h7 (hall 7 (by decide)), J.h11 (hall 11 (by decide)), J.h15 (hall 15 (by decide))⟩
      clear hall J ht
      go_wp2_with fail
      go_meet
      exact M

  case rest =>
    obtain ⟨a1, a3, a4, a5, X0, T0, B1, hf1, R1, I1, q1, q3, q4, q5⟩ := hcut
    have HB1 := Lib.hid B1
    have HX1 := Lib.hid X0
    have HT1 := Lib.hid T0
    have HR1 := Lib.hid R1
    have HI1 := Lib.hid I1
    have HF1 := Lib.hid hf1
    have Q1 := Lib.hid q1
    have Q3 := Lib.hid q3
    have Q4 := Lib.hid q4
    have Q5 := Lib.hid q5
    clear X0 T0 B1 hf1 R1 I1 q1 q3 q4 q5
    obtain ⟨v1, rfl⟩ : ∃ v1 : World, v1 = wc := ⟨_, rfl⟩
    go_upto_region 3 with fail
    go_cut [] (fun wx => MidB D F a1 a3 a4 a5 w v1 wx)
    case first =>
      have X0 := HX1.out
      have T0 := HT1.out
      have R0 := HR1.out
      have I0 := HI1.out
      have B0 : Below (w.heap.size + 1 + 1) v1 v1 := Below.refl _ _
      refine wp_region_inv (by kernel_rfl) (by kernel_rfl) (fun f a w' => ∃ u25 u26 u27 u28 u29 u30 u31 u32 u33 u34 u35 u36 u37 u38 u39, a = ⟨#[cval D F, .pointer (some ⟨w.heap.size, 0, none⟩), .pointer (some ⟨w.heap.size + 1, 0, none⟩), .pointer (some ⟨w.heap.size + 1 + 1, 0, none⟩), u4, u5, u6, u7, u8, u9, u10, u11, u12, u13, u14, u15, u16, u17, u18, u19, u20, u21, u22, u23, u24, u25, u26, u27, u28, u29, u30, u31, u32, u33, u34, u35, u36, u37, u38, u39, u40], []⟩ ∧ JB D F (NewR w) v1 w.heap.size (w.heap.size + 1 + 1) (.int .i64 D.max) a1 (.slice F.al D.lats.length F.cl) a3 a4 a5 (.slice F.ag D.gates.length F.cg) (.slice F.as_ D.syms.length F.cs) (.string D.com) f u25 u26 u27 u28 u29 u30 u31 u32 u33 u34 u35 u36 u37 u38 u39 w') ?_ ?_ ?_
      · exact ⟨u25, u26, u27, u28, u29, u30, u31, u32, u33, u34, u35, u36, u37, u38, u39, rfl, ⟨X0, T0, B0.drew, fun _ _ _ => rfl, R0, by omega, I0.same (Nat.le_refl _) (fun _ _ _ => rfl), nofun, nofun, nofun, nofun, nofun, nofun, nofun, nofun, nofun, nofun, nofun, nofun, nofun, nofun, nofun, nofun, nofun, nofun⟩⟩
      · refine all_of18 ?_ ?_ ?_ ?_ ?_ ?_ ?_ ?_ ?_ ?_ ?_ ?_ ?_ ?_ ?_ ?_ ?_ ?_
        · intro f a w1 hf he hI
          obtain ⟨u25, u26, u27, u28, u29, u30, u31, u32, u33, u34, u35, u36, u37, u38, u39, rfl, J⟩ := hI
          clear he
          refine wpOp_of rfl rfl (fun K hK => ?_)
          go_simp
          exact hK _ _ ⟨_, _, _, _, _, _, _, _, _, _, _, _, _, _, _, rfl, J.s0⟩
        · intro f a w1 hf he hI
          obtain ⟨u25, u26, u27, u28, u29, u30, u31, u32, u33, u34, u35, u36, u37, u38, u39, rfl, J⟩ := hI
          clear he
          refine wpOp_of rfl rfl (fun K hK => ?_)
          go_simp
          exact hK _ _ ⟨_, _, _, _, _, _, _, _, _, _, _, _, _, _, _, rfl, J.s1⟩
        · intro f a w1 hf he hI
          obtain ⟨u25, u26, u27, u28, u29, u30, u31, u32, u33, u34, u35, u36, u37, u38, u39, rfl, J⟩ := hI
          obtain rfl := J.h1 (he _ rfl ⟨1, .data⟩ (by simp) rfl)
          have x1 : w1.cell? ⟨w.heap.size, 2, none⟩ = some (.slice F.al D.lats.length F.cl) := (J.x.cell 2).1
          clear he
          refine wpOp_of rfl rfl (fun K hK => ?_)
          go_simp
          exact hK _ _ ⟨_, _, _, _, _, _, _, _, _, _, _, _, _, _, _, rfl, J.s2⟩
        · intro f a w1 hf he hI
          obtain ⟨u25, u26, u27, u28, u29, u30, u31, u32, u33, u34, u35, u36, u37, u38, u39, rfl, J⟩ := hI
          obtain ⟨g, rfl, hB, hg⟩ := J.h0 (he _ rfl ⟨0, .data⟩ (by simp) rfl)
          obtain rfl := J.h2 (he _ rfl ⟨2, .data⟩ (by simp) rfl)
          clear he
          refine wpOp_of rfl rfl (fun K hK => ?_)
          refine wp_clone (enc := enc3) (sz := 3) (w := w1) (.tmp 25) (.tmp 27) 23 45 (ifoL).1 (.agg #[.int .i64 0, .int .i64 0, .int .i64 0]) 24 rfl (by kernel_rfl) (ifoL).2.1 (ifoL).2.2.1 (ifoL).2.2.2.1 (ifoL).2.2.2.2 rfl (by decide) enc3_len (w.heap.size + 1 + 1 + 1) g hB hg rfl rfl J.inc.l (by have := Hl.out; omega) (fun v' w' hv hb => ?_)
          exact hK _ _ ⟨_, _, _, _, _, _, _, _, _, _, _, _, _, _, _, rfl, (J.on hb).s3 hf hv⟩
        · intro f a w1 hf he hI
          obtain ⟨u25, u26, u27, u28, u29, u30, u31, u32, u33, u34, u35, u36, u37, u38, u39, rfl, J⟩ := hI
          clear he
          refine wpOp_of rfl rfl (fun K hK => ?_)
          go_simp
          exact hK _ _ ⟨_, _, _, _, _, _, _, _, _, _, _, _, _, _, _, rfl, J.s4⟩
        · intro f a w1 hf he hI
          obtain ⟨u25, u26, u27, u28, u29, u30, u31, u32, u33, u34, u35, u36, u37, u38, u39, rfl, J⟩ := hI
          clear he
          refine wpOp_of rfl rfl (fun K hK => ?_)
          go_simp
          exact hK _ _ ⟨_, _, _, _, _, _, _, _, _, _, _, _, _, _, _, rfl, J.s5⟩
        · intro f a w1 hf he hI
          obtain ⟨u25, u26, u27, u28, u29, u30, u31, u32, u33, u34, u35, u36, u37, u38, u39, rfl, J⟩ := hI
          obtain rfl := J.h5 (he _ rfl ⟨5, .data⟩ (by simp) rfl)
          have x1 : w1.cell? ⟨w.heap.size, 6, none⟩ = some (.slice F.ag D.gates.length F.cg) := (J.x.cell 6).1
          clear he
          refine wpOp_of rfl rfl (fun K hK => ?_)
          go_simp
          exact hK _ _ ⟨_, _, _, _, _, _, _, _, _, _, _, _, _, _, _, rfl, J.s6⟩
        · intro f a w1 hf he hI
          obtain ⟨u25, u26, u27, u28, u29, u30, u31, u32, u33, u34, u35, u36, u37, u38, u39, rfl, J⟩ := hI
          obtain ⟨g, rfl, hB, hg⟩ := J.h4 (he _ rfl ⟨4, .data⟩ (by simp) rfl)
          obtain rfl := J.h6 (he _ rfl ⟨6, .data⟩ (by simp) rfl)
          clear he
          refine wpOp_of rfl rfl (fun K hK => ?_)
          refine wp_clone (enc := enc3) (sz := 3) (w := w1) (.tmp 29) (.tmp 31) 24 47 (ifoG).1 (.agg #[.int .i64 0, .int .i64 0, .int .i64 0]) 24 rfl (by kernel_rfl) (ifoG).2.1 (ifoG).2.2.1 (ifoG).2.2.2.1 (ifoG).2.2.2.2 rfl (by decide) enc3_len (w.heap.size + 1 + 1 + 1) g hB hg rfl rfl J.inc.g (by have := Hg.out; omega) (fun v' w' hv hb => ?_)
          exact hK _ _ ⟨_, _, _, _, _, _, _, _, _, _, _, _, _, _, _, rfl, (J.on hb).s7 hf hv⟩
        · intro f a w1 hf he hI
          obtain ⟨u25, u26, u27, u28, u29, u30, u31, u32, u33, u34, u35, u36, u37, u38, u39, rfl, J⟩ := hI
          clear he
          refine wpOp_of rfl rfl (fun K hK => ?_)
          go_simp
          exact hK _ _ ⟨_, _, _, _, _, _, _, _, _, _, _, _, _, _, _, rfl, J.s8⟩
        · intro f a w1 hf he hI
          obtain ⟨u25, u26, u27, u28, u29, u30, u31, u32, u33, u34, u35, u36, u37, u38, u39, rfl, J⟩ := hI
          clear he
          refine wpOp_of rfl rfl (fun K hK => ?_)
          go_simp
          exact hK _ _ ⟨_, _, _, _, _, _, _, _, _, _, _, _, _, _, _, rfl, J.s9⟩
        · intro f a w1 hf he hI
          obtain ⟨u25, u26, u27, u28, u29, u30, u31, u32, u33, u34, u35, u36, u37, u38, u39, rfl, J⟩ := hI
          obtain rfl := J.h9 (he _ rfl ⟨9, .data⟩ (by simp) rfl)
          have x1 : w1.cell? ⟨w.heap.size, 7, none⟩ = some (.slice F.as_ D.syms.length F.cs) := (J.x.cell 7).1
          clear he
          refine wpOp_of rfl rfl (fun K hK => ?_)
          go_simp
          exact hK _ _ ⟨_, _, _, _, _, _, _, _, _, _, _, _, _, _, _, rfl, J.s10⟩
        · intro f a w1 hf he hI
          obtain ⟨u25, u26, u27, u28, u29, u30, u31, u32, u33, u34, u35, u36, u37, u38, u39, rfl, J⟩ := hI
          obtain ⟨g, rfl, hB, hg⟩ := J.h8 (he _ rfl ⟨8, .data⟩ (by simp) rfl)
          obtain rfl := J.h10 (he _ rfl ⟨10, .data⟩ (by simp) rfl)
          clear he
          refine wpOp_of rfl rfl (fun K hK => ?_)
          refine wp_clone (enc := encS) (sz := 3) (w := w1) (.tmp 33) (.tmp 35) 25 59 (ifoS).1 (.agg #[.int .u8 0, .int .i64 0, .string ⟨#[]⟩]) 32 rfl (by kernel_rfl) (ifoS).2.1 (ifoS).2.2.1 (ifoS).2.2.2.1 (ifoS).2.2.2.2 rfl (by decide) encS_len (w.heap.size + 1 + 1 + 1) g hB hg rfl rfl J.inc.s (by have := Hs.out; omega) (fun v' w' hv hb => ?_)
          exact hK _ _ ⟨_, _, _, _, _, _, _, _, _, _, _, _, _, _, _, rfl, (J.on hb).s11 hf hv⟩
        · intro f a w1 hf he hI
          obtain ⟨u25, u26, u27, u28, u29, u30, u31, u32, u33, u34, u35, u36, u37, u38, u39, rfl, J⟩ := hI
          clear he
          refine wpOp_of rfl rfl (fun K hK => ?_)
          go_simp
          exact hK _ _ ⟨_, _, _, _, _, _, _, _, _, _, _, _, _, _, _, rfl, J.s12⟩
        · intro f a w1 hf he hI
          obtain ⟨u25, u26, u27, u28, u29, u30, u31, u32, u33, u34, u35, u36, u37, u38, u39, rfl, J⟩ := hI
          have ha : f 3 = true := (he _ rfl ⟨3, .data⟩ (by simp) rfl)
          obtain rfl := J.h12 (he _ rfl ⟨12, .data⟩ (by simp) rfl)
          obtain ⟨z0, hz0⟩ : ∃ z, w1.cell? ⟨w.heap.size + 1 + 1, 2, none⟩ = some z := ⟨_, (J.t.cell 2).1⟩
          have hz1 : w1.frozen? ⟨w.heap.size + 1 + 1, 2, none⟩ = false := (J.t.cell 2).2
          obtain ⟨aa, cc, hu⟩ := owns_form (J.h3 ha)
          obtain rfl := hu
          clear he
          refine wpOp_of rfl rfl (fun K hK => ?_)
          go_simp
          exact hK _ _ ⟨_, _, _, _, _, _, _, _, _, _, _, _, _, _, _, rfl, J.s13 ha (J.inc.same (by simp) (fun k _ hk => Below.heap_setCell w1 ⟨w.heap.size + 1 + 1, 2, none⟩ _ k (by show k ≠ w.heap.size + 1 + 1; intro e; apply hk; show w.heap.size ≤ k; omega)))⟩
        · intro f a w1 hf he hI
          obtain ⟨u25, u26, u27, u28, u29, u30, u31, u32, u33, u34, u35, u36, u37, u38, u39, rfl, J⟩ := hI
          clear he
          refine wpOp_of rfl rfl (fun K hK => ?_)
          go_simp
          exact hK _ _ ⟨_, _, _, _, _, _, _, _, _, _, _, _, _, _, _, rfl, J.s14⟩
        · intro f a w1 hf he hI
          obtain ⟨u25, u26, u27, u28, u29, u30, u31, u32, u33, u34, u35, u36, u37, u38, u39, rfl, J⟩ := hI
          have ha : f 7 = true := (he _ rfl ⟨7, .data⟩ (by simp) rfl)
          obtain rfl := J.h14 (he _ rfl ⟨14, .data⟩ (by simp) rfl)
          obtain ⟨z0, hz0⟩ : ∃ z, w1.cell? ⟨w.heap.size + 1 + 1, 6, none⟩ = some z := ⟨_, (J.t.cell 6).1⟩
          have hz1 : w1.frozen? ⟨w.heap.size + 1 + 1, 6, none⟩ = false := (J.t.cell 6).2
          obtain ⟨aa, cc, hu⟩ := owns_form (J.h7 ha)
          obtain rfl := hu
          clear he
          refine wpOp_of rfl rfl (fun K hK => ?_)
          go_simp
          exact hK _ _ ⟨_, _, _, _, _, _, _, _, _, _, _, _, _, _, _, rfl, J.s15 ha (J.inc.same (by simp) (fun k _ hk => Below.heap_setCell w1 ⟨w.heap.size + 1 + 1, 6, none⟩ _ k (by show k ≠ w.heap.size + 1 + 1; intro e; apply hk; show w.heap.size ≤ k; omega)))⟩
        · intro f a w1 hf he hI
          obtain ⟨u25, u26, u27, u28, u29, u30, u31, u32, u33, u34, u35, u36, u37, u38, u39, rfl, J⟩ := hI
          clear he
          refine wpOp_of rfl rfl (fun K hK => ?_)
          go_simp
          exact hK _ _ ⟨_, _, _, _, _, _, _, _, _, _, _, _, _, _, _, rfl, J.s16⟩
        · intro f a w1 hf he hI
          obtain ⟨u25, u26, u27, u28, u29, u30, u31, u32, u33, u34, u35, u36, u37, u38, u39, rfl, J⟩ := hI
          have ha : f 11 = true := (he _ rfl ⟨11, .data⟩ (by simp) rfl)
          obtain rfl := J.h16 (he _ rfl ⟨16, .data⟩ (by simp) rfl)
          obtain ⟨z0, hz0⟩ : ∃ z, w1.cell? ⟨w.heap.size + 1 + 1, 7, none⟩ = some z := ⟨_, (J.t.cell 7).1⟩
          have hz1 : w1.frozen? ⟨w.heap.size + 1 + 1, 7, none⟩ = false := (J.t.cell 7).2
          obtain ⟨aa, cc, hu⟩ := owns_form (J.h11 ha)
          obtain rfl := hu
          clear he
          refine wpOp_of rfl rfl (fun K hK => ?_)
          go_simp
          exact hK _ _ ⟨_, _, _, _, _, _, _, _, _, _, _, _, _, _, _, rfl, J.s17 ha (J.inc.same (by simp) (fun k _ hk => Below.heap_setCell w1 ⟨w.heap.size + 1 + 1, 7, none⟩ _ k (by show k ≠ w.heap.size + 1 + 1; intro e; apply hk; show w.heap.size ≤ k; omega)))⟩
      · intro f a w1 hall hI
        obtain ⟨u25, u26, u27, u28, u29, u30, u31, u32, u33, u34, u35, u36, u37, u38, u39, rfl, J⟩ := hI
        have ht := J.t
        unfold dB at ht
        rw [hall 13 (by decide), hall 15 (by decide), hall 17 (by decide)] at ht
        simp only [if_true] at ht
        have M : MidB D F a1 a3 a4 a5 w v1 w1 := ⟨u28, u32, u36, J.x, ht, J.bel, J.far, J.room, J.inc, J.h3 (hall 3 (by decide)), J.h7 (hall 7 (by decide)), J.h11 (hall 11 (by decide))⟩
        clear hall J ht
        go_wp2_with fail
        go_meet
        exact M

    case rest =>
      obtain ⟨a2, a6, a7, X1, T1, B2, hf2, R2, I2, q2, q6, q7⟩ := hcut
      have r1 := own_far Q1.out (by omega) hf2
      have r3 := own_far Q3.out (by omega) hf2
      have r4 := own_far Q4.out (by omega) hf2
      have r5 := own_far Q5.out (by omega) hf2
      have Y2 := (HY.out.lo HB1.out (by omega)).lo B2 (by omega)
      have BB : Below w.heap.size w wc := HB.out.trans ((HB1.out.mono (by omega)).trans (B2.mono (by omega)))
      clear HB1 HX1 HT1 HR1 HI1 HF1 Q1 Q3 Q4 Q5 HY HX HT HR HI hf2 B2 I2 X1 HB Hi Hl Ho Hb Hc Hg Hs
      have ER : Hid (OwnAll (w.heap.size + 1 + 1) wc D a1 a2 a3 a4 a5 a6 a7) := Lib.hid ⟨Joins.ownsRow_le r1 (by omega), Joins.ownsRow_le q2 (by omega), Joins.ownsRow_le r3 (by omega), Joins.ownsRow_le r4 (by omega), Joins.ownsRow_le r5 (by omega), Joins.ownsRow_le q6 (by omega), Joins.ownsRow_le q7 (by omega)⟩
      have HBB := Lib.hid BB
      obtain ⟨p1, c1, e1⟩ := owns_form ER.out.i
      obtain rfl := e1
      obtain ⟨p2, c2, e2⟩ := owns_form ER.out.l
      obtain rfl := e2
      obtain ⟨p3, c3, e3⟩ := owns_form ER.out.o
      obtain rfl := e3
      obtain ⟨p4, c4, e4⟩ := owns_form ER.out.b
      obtain rfl := e4
      obtain ⟨p5, c5, e5⟩ := owns_form ER.out.c
      obtain rfl := e5
      obtain ⟨p6, c6, e6⟩ := owns_form ER.out.g
      obtain rfl := e6
      obtain ⟨p7, c7, e7⟩ := owns_form ER.out.s
      obtain rfl := e7
      clear r1 r3 r4 r5 q2 q6 q7 BB R2
      obtain ⟨w2, rfl⟩ : ∃ w2 : World, w2 = wc := ⟨_, rfl⟩
      have HT2 := Lib.hid T1
      have HY2 := Lib.hid Y2
      have t0 : w2.cell? ⟨w.heap.size + 1 + 1, 0, none⟩ = some (.int .i64 D.max) := (T1.cell 0).1
      have y0 : w2.cell? ⟨w.heap.size + 1, 0, none⟩ = some (.int .i64 0) := (Y2.cell 0).1
      have f0 : w2.frozen? ⟨w.heap.size + 1, 0, none⟩ = false := (Y2.cell 0).2
      have t1 : w2.cell? ⟨w.heap.size + 1 + 1, 1, none⟩ = some (.slice p1 D.ins.length c1) := (T1.cell 1).1
      have y1 : w2.cell? ⟨w.heap.size + 1, 1, none⟩ = some (.slice none 0 0) := (Y2.cell 1).1
      have f1 : w2.frozen? ⟨w.heap.size + 1, 1, none⟩ = false := (Y2.cell 1).2
      have t2 : w2.cell? ⟨w.heap.size + 1 + 1, 2, none⟩ = some (.slice p2 D.lats.length c2) := (T1.cell 2).1
      have y2 : w2.cell? ⟨w.heap.size + 1, 2, none⟩ = some (.slice none 0 0) := (Y2.cell 2).1
      have f2 : w2.frozen? ⟨w.heap.size + 1, 2, none⟩ = false := (Y2.cell 2).2
      have t3 : w2.cell? ⟨w.heap.size + 1 + 1, 3, none⟩ = some (.slice p3 D.outs.length c3) := (T1.cell 3).1
      have y3 : w2.cell? ⟨w.heap.size + 1, 3, none⟩ = some (.slice none 0 0) := (Y2.cell 3).1
      have f3 : w2.frozen? ⟨w.heap.size + 1, 3, none⟩ = false := (Y2.cell 3).2
      have t4 : w2.cell? ⟨w.heap.size + 1 + 1, 4, none⟩ = some (.slice p4 D.bads.length c4) := (T1.cell 4).1
      have y4 : w2.cell? ⟨w.heap.size + 1, 4, none⟩ = some (.slice none 0 0) := (Y2.cell 4).1
      have f4 : w2.frozen? ⟨w.heap.size + 1, 4, none⟩ = false := (Y2.cell 4).2
      have t5 : w2.cell? ⟨w.heap.size + 1 + 1, 5, none⟩ = some (.slice p5 D.cons.length c5) := (T1.cell 5).1
      have y5 : w2.cell? ⟨w.heap.size + 1, 5, none⟩ = some (.slice none 0 0) := (Y2.cell 5).1
      have f5 : w2.frozen? ⟨w.heap.size + 1, 5, none⟩ = false := (Y2.cell 5).2
      have t6 : w2.cell? ⟨w.heap.size + 1 + 1, 6, none⟩ = some (.slice p6 D.gates.length c6) := (T1.cell 6).1
      have y6 : w2.cell? ⟨w.heap.size + 1, 6, none⟩ = some (.slice none 0 0) := (Y2.cell 6).1
      have f6 : w2.frozen? ⟨w.heap.size + 1, 6, none⟩ = false := (Y2.cell 6).2
      have t7 : w2.cell? ⟨w.heap.size + 1 + 1, 7, none⟩ = some (.slice p7 D.syms.length c7) := (T1.cell 7).1
      have y7 : w2.cell? ⟨w.heap.size + 1, 7, none⟩ = some (.slice none 0 0) := (Y2.cell 7).1
      have f7 : w2.frozen? ⟨w.heap.size + 1, 7, none⟩ = false := (Y2.cell 7).2
      have t8 : w2.cell? ⟨w.heap.size + 1 + 1, 8, none⟩ = some (.string D.com) := (T1.cell 8).1
      have y8 : w2.cell? ⟨w.heap.size + 1, 8, none⟩ = some (.string ⟨#[]⟩) := (Y2.cell 8).1
      have f8 : w2.frozen? ⟨w.heap.size + 1, 8, none⟩ = false := (Y2.cell 8).2
      clear T1 Y2
      go_wp2_with fail
      have K := nine_put (.int .i64 D.max) (.slice p1 D.ins.length c1) (.slice p2 D.lats.length c2) (.slice p3 D.outs.length c3) (.slice p4 D.bads.length c4) (.slice p5 D.cons.length c5) (.slice p6 D.gates.length c6) (.slice p7 D.syms.length c7) (.string D.com) HY2.out
      have KB := nine_below (R := w.heap.size + 1) (.int .i64 D.max) (.slice p1 D.ins.length c1) (.slice p2 D.lats.length c2) (.slice p3 D.outs.length c3) (.slice p4 D.bads.length c4) (.slice p5 D.cons.length c5) (.slice p6 D.gates.length c6) (.slice p7 D.syms.length c7) (.string D.com) HBB.out (by omega)
      have k1 := nine_own (R := w.heap.size + 1) (.int .i64 D.max) (.slice p1 D.ins.length c1) (.slice p2 D.lats.length c2) (.slice p3 D.outs.length c3) (.slice p4 D.bads.length c4) (.slice p5 D.cons.length c5) (.slice p6 D.gates.length c6) (.slice p7 D.syms.length c7) (.string D.com) ER.out.i (by omega)
      have k2 := nine_own (R := w.heap.size + 1) (.int .i64 D.max) (.slice p1 D.ins.length c1) (.slice p2 D.lats.length c2) (.slice p3 D.outs.length c3) (.slice p4 D.bads.length c4) (.slice p5 D.cons.length c5) (.slice p6 D.gates.length c6) (.slice p7 D.syms.length c7) (.string D.com) ER.out.l (by omega)
      have k3 := nine_own (R := w.heap.size + 1) (.int .i64 D.max) (.slice p1 D.ins.length c1) (.slice p2 D.lats.length c2) (.slice p3 D.outs.length c3) (.slice p4 D.bads.length c4) (.slice p5 D.cons.length c5) (.slice p6 D.gates.length c6) (.slice p7 D.syms.length c7) (.string D.com) ER.out.o (by omega)
      have k4 := nine_own (R := w.heap.size + 1) (.int .i64 D.max) (.slice p1 D.ins.length c1) (.slice p2 D.lats.length c2) (.slice p3 D.outs.length c3) (.slice p4 D.bads.length c4) (.slice p5 D.cons.length c5) (.slice p6 D.gates.length c6) (.slice p7 D.syms.length c7) (.string D.com) ER.out.b (by omega)
      have k5 := nine_own (R := w.heap.size + 1) (.int .i64 D.max) (.slice p1 D.ins.length c1) (.slice p2 D.lats.length c2) (.slice p3 D.outs.length c3) (.slice p4 D.bads.length c4) (.slice p5 D.cons.length c5) (.slice p6 D.gates.length c6) (.slice p7 D.syms.length c7) (.string D.com) ER.out.c (by omega)
      have k6 := nine_own (R := w.heap.size + 1) (.int .i64 D.max) (.slice p1 D.ins.length c1) (.slice p2 D.lats.length c2) (.slice p3 D.outs.length c3) (.slice p4 D.bads.length c4) (.slice p5 D.cons.length c5) (.slice p6 D.gates.length c6) (.slice p7 D.syms.length c7) (.string D.com) ER.out.g (by omega)
      have k7 := nine_own (R := w.heap.size + 1) (.int .i64 D.max) (.slice p1 D.ins.length c1) (.slice p2 D.lats.length c2) (.slice p3 D.outs.length c3) (.slice p4 D.bads.length c4) (.slice p5 D.cons.length c5) (.slice p6 D.gates.length c6) (.slice p7 D.syms.length c7) (.string D.com) ER.out.s (by omega)
      generalize (((((((((w2.setCell ⟨w.heap.size + 1, 0, none⟩ (.int .i64 D.max)).setCell ⟨w.heap.size + 1, 1, none⟩ (.slice p1 D.ins.length c1)).setCell ⟨w.heap.size + 1, 2, none⟩ (.slice p2 D.lats.length c2)).setCell ⟨w.heap.size + 1, 3, none⟩ (.slice p3 D.outs.length c3)).setCell ⟨w.heap.size + 1, 4, none⟩ (.slice p4 D.bads.length c4)).setCell ⟨w.heap.size + 1, 5, none⟩ (.slice p5 D.cons.length c5)).setCell ⟨w.heap.size + 1, 6, none⟩ (.slice p6 D.gates.length c6)).setCell ⟨w.heap.size + 1, 7, none⟩ (.slice p7 D.syms.length c7)).setCell ⟨w.heap.size + 1, 8, none⟩ (.string D.com)) = w9 at *
      have z0 : w9.cell? ⟨w.heap.size + 1, 0, none⟩ = some (.int .i64 D.max) := (K.cell 0).1
      have z1 : w9.cell? ⟨w.heap.size + 1, 1, none⟩ = some (.slice p1 D.ins.length c1) := (K.cell 1).1
      have z2 : w9.cell? ⟨w.heap.size + 1, 2, none⟩ = some (.slice p2 D.lats.length c2) := (K.cell 2).1
      have z3 : w9.cell? ⟨w.heap.size + 1, 3, none⟩ = some (.slice p3 D.outs.length c3) := (K.cell 3).1
      have z4 : w9.cell? ⟨w.heap.size + 1, 4, none⟩ = some (.slice p4 D.bads.length c4) := (K.cell 4).1
      have z5 : w9.cell? ⟨w.heap.size + 1, 5, none⟩ = some (.slice p5 D.cons.length c5) := (K.cell 5).1
      have z6 : w9.cell? ⟨w.heap.size + 1, 6, none⟩ = some (.slice p6 D.gates.length c6) := (K.cell 6).1
      have z7 : w9.cell? ⟨w.heap.size + 1, 7, none⟩ = some (.slice p7 D.syms.length c7) := (K.cell 7).1
      have z8 : w9.cell? ⟨w.heap.size + 1, 8, none⟩ = some (.string D.com) := (K.cell 8).1
      refine bodyPost_ret (v := .agg #[.int .i64 D.max, .slice p1 D.ins.length c1, .slice p2 D.lats.length c2, .slice p3 D.outs.length c3, .slice p4 D.bads.length c4, .slice p5 D.cons.length c5, .slice p6 D.gates.length c6, .slice p7 D.syms.length c7, .string D.com]) (by simp [results, Try.results9, go_sem, z0, z1, z2, z3, z4, z5, z6, z7, z8]) rfl ?_
      exact ⟨⟨p1, c1, p2, c2, p3, c3, p4, c4, p5, c5, p6, c6, p7, c7⟩, rfl, ⟨Joins.ownsRow_le k1 (by omega), Joins.ownsRow_le k2 (by omega), Joins.ownsRow_le k3 (by omega), Joins.ownsRow_le k4 (by omega), Joins.ownsRow_le k5 (by omega), Joins.ownsRow_le k6 (by omega), Joins.ownsRow_le k7 (by omega)⟩, KB⟩
end Go.Proofs.Ytbpjflghkkkenaa.row

/- Few, Small. (Printed by mkN5.py.) -/
namespace Go.Proofs.Ytbpjflghkkkenaa.row
open Go.RowKit
open Go.Proofs.Ytbpjflghkkkenaa.mem (own_on addr_add)
def fewB (D : CD) (m : Int) : Bool := (decide ((D.ins.length : Int) ≤ m)) && (decide ((D.lats.length : Int) ≤ m)) && (decide ((D.gates.length : Int) ≤ m)) && (decide ((D.outs.length : Int) ≤ m)) && (decide ((D.bads.length : Int) ≤ m)) && (decide ((D.cons.length : Int) ≤ m)) && (decide ((D.syms.length : Int) ≤ m)) && (decide ((D.com.size : Int) ≤ 300))
set_option maxRecDepth 100000 in
set_option maxHeartbeats 3200000 in
theorem few_any (D : CD) (F : CF) (m : Int) (w : World) : Calls Try.prog 6 #[cval D F, .int .i64 m] w fun e w' => e = .returned (.bool (fewB D m)) ∧ Below w.heap.size w w' := by
  have hb : Below w.heap.size w (w.alloc (.cells (ccells D F) 27)) := (Below.refl _ _).alloc (Nat.le_refl _) _
  have HB := Lib.hid hb
  clear hb
  cases h0 : decide ((D.ins.length : Int) ≤ m)
  · rw [show fewB D m = false by unfold fewB; rw [h0]; rfl]
    go_enter Try.func6, Try.ntmps6
    go_wp2_with fail
    go_ret
    exact ⟨rfl, HB.out⟩
  cases h1 : decide ((D.lats.length : Int) ≤ m)
  · rw [show fewB D m = false by unfold fewB; rw [h0, h1]; rfl]
    go_enter Try.func6, Try.ntmps6
    go_wp2_with fail
    go_ret
    exact ⟨rfl, HB.out⟩
  cases h2 : decide ((D.gates.length : Int) ≤ m)
  · rw [show fewB D m = false by unfold fewB; rw [h0, h1, h2]; rfl]
    go_enter Try.func6, Try.ntmps6
    go_wp2_with fail
    go_ret
    exact ⟨rfl, HB.out⟩
  cases h3 : decide ((D.outs.length : Int) ≤ m)
  · rw [show fewB D m = false by unfold fewB; rw [h0, h1, h2, h3]; rfl]
    go_enter Try.func6, Try.ntmps6
    go_wp2_with fail
    go_ret
    exact ⟨rfl, HB.out⟩
  cases h4 : decide ((D.bads.length : Int) ≤ m)
  · rw [show fewB D m = false by unfold fewB; rw [h0, h1, h2, h3, h4]; rfl]
    go_enter Try.func6, Try.ntmps6
    go_wp2_with fail
    go_ret
    exact ⟨rfl, HB.out⟩
  cases h5 : decide ((D.cons.length : Int) ≤ m)
  · rw [show fewB D m = false by unfold fewB; rw [h0, h1, h2, h3, h4, h5]; rfl]
    go_enter Try.func6, Try.ntmps6
    go_wp2_with fail
    go_ret
    exact ⟨rfl, HB.out⟩
  cases h6 : decide ((D.syms.length : Int) ≤ m)
  · rw [show fewB D m = false by unfold fewB; rw [h0, h1, h2, h3, h4, h5, h6]; rfl]
    go_enter Try.func6, Try.ntmps6
    go_wp2_with fail
    go_ret
    exact ⟨rfl, HB.out⟩
  cases h7 : decide ((D.com.size : Int) ≤ 300)
  · rw [show fewB D m = false by unfold fewB; rw [h0, h1, h2, h3, h4, h5, h6, h7]; rfl]
    go_enter Try.func6, Try.ntmps6
    go_wp2_with fail
    go_ret
    exact ⟨rfl, HB.out⟩
  rw [show fewB D m = true by unfold fewB; rw [h0, h1, h2, h3, h4, h5, h6, h7]; rfl]
  go_enter Try.func6, Try.ntmps6
  go_wp2_with fail
  go_ret
  exact ⟨rfl, HB.out⟩
end Go.Proofs.Ytbpjflghkkkenaa.row
