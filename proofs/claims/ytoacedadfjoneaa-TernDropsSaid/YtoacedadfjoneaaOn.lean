/- Words on memory: a block of one cell; rows that lie apart. -/
import Derived.Test.YtoacedadfjoneaaProg
import Derived.WalkKit
import Derived.Handy
import Derived.Outline
import Derived.OwnWalk
import Derived.Below
import Derived.WalkSmall
import Derived.Lib.Hide
import Derived.Lib.SmallJoins
import Derived.Deep.AppendLies
import Derived.Deep.DeepCutAuto
import Derived.Deep.QuietTactic
import Derived.BigQuiet
import Derived.BigRegion
namespace Go.Proofs.Ytoacedadfjoneaa.mem
open Go.RowKit

theorem retI {k : IntKind} {a b : Int} (h : a = b) : Ending.returned (.int k a) = .returned (.int k b) := by rw [h]
theorem retB {a b : Bool} (h : a = b) : Ending.returned (.bool a) = .returned (.bool b) := by rw [h]
/-- a block of one cell, known whole -/
def One (w : World) (g : Nat) (x : Value) : Prop := ∃ t, w.heap[g]? = some (.cells #[x] t (0, 0))
theorem One.lt {w : World} {g : Nat} {x : Value} (h : One w g x) : g < w.heap.size := by
  obtain ⟨t, h⟩ := h; exact (Array.getElem?_eq_some_iff.1 h).1
theorem One.cells {w : World} {g : Nat} {x : Value} (h : One w g x) : w.cell? ⟨g, 0, none⟩ = some x ∧ w.frozen? ⟨g, 0, none⟩ = false := by
  obtain ⟨t, h⟩ := h
  exact ⟨Joins.cell_of_block h 0, Joins.unfrozen_of_block h 0⟩
theorem One.on {w w' : World} {B g : Nat} {x : Value} (h : One w g x) (hb : Below B w w') (hB : g < B) : One w' g x := by
  obtain ⟨t, h⟩ := h
  exact ⟨t, (hb.block g hB).trans h⟩
theorem one_new (w : World) (x : Value) (t : TypeId) : One (w.alloc (.cells #[x] t)) w.heap.size x :=
  ⟨t, by show (w.heap.push _)[w.heap.size]? = _; rw [Array.getElem?_push, if_pos rfl]⟩
theorem One.set {w : World} {g : Nat} {x x' : Value} (h : One w g x) : One (w.setCell ⟨g, 0, none⟩ x') g x' := by
  obtain ⟨t, h⟩ := h
  exact ⟨t, Joins.block_setCell (i := 0) h x'⟩
theorem One.other {w : World} {g h i : Nat} {x : Value} (ht : One w g x) (hne : g ≠ h) (v : Value) : One (w.setCell ⟨h, i, none⟩ v) g x := by
  obtain ⟨t, ht⟩ := ht
  exact ⟨t, (Below.heap_setCell w ⟨h, i, none⟩ v g hne).trans ht⟩
theorem One.grown {w w' : World} {g : Nat} {x : Value} {row : Option Nat} (h : One w g x) (hg : w.grownBy w' row) (hne : some g ≠ row) : One w' g x := by
  have hl := h.lt
  obtain ⟨t, h⟩ := h
  exact ⟨t, (hg.block g hl hne).trans h⟩
theorem One.drewN {w : World} {g : Nat} {x : Value} (h : One w g x) (q : Nat) : One (w.drewN q) g x := h
theorem grown_of_below {w w' : World} (h : Below w.heap.size w w') : w.grownBy w' none := ⟨h.os, h.tape, h.output, h.size, fun k hk _ => h.block k hk⟩
theorem own_on {v : Value} {w w' : World} {B n size : Nat} {e : TypeId} {xs : List Value} (h : w.ownsRow B e size v n xs) (hb : Below w.heap.size w w') : w'.ownsRow B e size v n xs :=
  h.kept (grown_of_below hb) (by cases v.ownBlock <;> simp)
theorem own_apart {v : Value} {w : World} {B t n size : Nat} {e : TypeId} {xs : List Value} (h : w.ownsRow B e size v n xs) (ht : t < B) : v.ownBlock = none ∨ v.ownBlock ≠ some t := by
  cases hv : v.ownBlock with
  | none => exact .inl rfl
  | some k =>
    have := (h.lt k hv).1
    exact .inr (fun e => by cases e; omega)
theorem apart_own {v : Value} {w : World} {B n size : Nat} {e : TypeId} {xs : List Value} (h : w.ownsRow B e size v n xs) : v.ownBlock = none ∨ ∃ k, v.ownBlock = some k ∧ B ≤ k := by
  cases hv : v.ownBlock with
  | none => exact .inl rfl
  | some k => exact .inr ⟨k, rfl, (h.lt k hv).1⟩
theorem own_ne {v : Value} {w : World} {B t n size : Nat} {e : TypeId} {xs : List Value} (h : w.ownsRow B e size v n xs) (ht : t < B) : some t ≠ v.ownBlock := by
  intro e
  have := (h.lt t e.symm).1
  omega
theorem grownBy_set (w : World) (g i : Nat) (v : Value) : w.grownBy (w.setCell ⟨g, i, none⟩ v) (some g) :=
  ⟨rfl, rfl, rfl, by simp, fun k _ hk => heap_setCell_other w ⟨g, i, none⟩ k v (fun e => hk (by simp [e]))⟩
theorem below_set {A : Nat} {w w' : World} {b i : Nat} (h : Below A w w') (hb : A ≤ b) (v : Value) : Below A w (w'.setCell ⟨b, i, none⟩ v) := h.setCell (p := ⟨b, i, none⟩) hb v
theorem addr_add (b off j : Nat) : (⟨b, off, none⟩ : Addr).add j = ⟨b, off + j, none⟩ := by unfold Addr.add; split <;> simp_all
end Go.Proofs.Ytoacedadfjoneaa.mem
