/- Slices that read as natural numbers under a way to write them: the readings, an argument opened. -/
import Derived.Test.YtoacedadfjoneaaProg
import Derived.WalkKit
import Derived.Handy
import Derived.Outline
import Derived.OwnWalk
import Derived.Below
import Derived.WalkSmall
import Derived.ProofKit
import Derived.OpenShut
import Derived.ChangeOld
import Derived.Lib.Hide
import Derived.Lib.OwnBridge
import Derived.Laws.AppendOwnNone
import Derived.Deep.QuietTactic
import Derived.BigQuiet
namespace Go.Proofs.Ytoacedadfjoneaa.nats
open Go.ChangeShapes Go.WideShapes Go.ChangeAt Go.RowKit

abbrev U (b : Nat) : Value := .int .u64 (b : Int)
abbrev Fl (b : Nat) : Value := .float .f64 b

/-- v is a slice that reads as these numbers, written so -/
def Rd (mk : Nat → Value) (w : World) (v : Value) (zs : List Nat) : Prop :=
  ∃ (a : Option Addr) (cap : Nat), v = .slice a zs.length cap ∧ zs.length ≤ cap ∧ cap ≤ maxLen ∧
    (0 < zs.length → ∃ b off, a = some ⟨b, off, none⟩ ∧ b < w.heap.size ∧ ∀ i, i < zs.length → w.cell? ⟨b, off + i, none⟩ = some (mk (zs.getD i 0)))
theorem Rd.on {mk : Nat → Value} {w w' : World} {v : Value} {zs : List Nat} (h : Rd mk w v zs) (hb : Below w.heap.size w w') : Rd mk w' v zs := by
  obtain ⟨a, cap, hv, h1, h2, h3⟩ := h
  refine ⟨a, cap, hv, h1, h2, fun hp => ?_⟩
  obtain ⟨b, off, ha, hlt, hc⟩ := h3 hp
  exact ⟨b, off, ha, Nat.lt_of_lt_of_le hlt hb.size, fun i hi => (hb.cell (p := ⟨b, off + i, none⟩) hlt).trans (hc i hi)⟩
theorem rd_of_owned {mk : Nat → Value} {w : World} {e : TypeId} {B : Nat} {v : Value} {zs : List Nat} (h : w.ownsRow B e 1 v zs.length (zs.map mk)) : Rd mk w v zs := by
  rcases h.2 with ⟨rfl, h0⟩ | ⟨g, cap, cur, rfl, hb, hg, hn, hm, hs, ht⟩
  · exact ⟨none, 0, by rw [h0], by omega, by unfold maxLen; omega, fun hp => by omega⟩
  · refine ⟨some ⟨g, 0, none⟩, cap, rfl, hn, hm, fun hp => ⟨g, 0, rfl, (Array.getElem?_eq_some_iff.1 hg).1, fun i hi => ?_⟩⟩
    rw [Nat.zero_add, h.cellAt i (by omega), List.getElem?_map, List.getElem?_eq_getElem hi]
    simp [List.getD, hi]
theorem rd_empty (mk : Nat → Value) (w : World) (a : Option Addr) (cap : Nat) (h : cap ≤ maxLen) : Rd mk w (.slice a 0 cap) [] := ⟨a, cap, rfl, Nat.zero_le _, h, fun hp => by simp at hp⟩
theorem rd_take {mk : Nat → Value} {w : World} {a : Option Addr} {n cap k : Nat} {ls : List Nat} (h : Rd mk w (.slice a n cap) ls) (hk : k ≤ n) : Rd mk w (.slice a k cap) (ls.take k) := by
  obtain ⟨a', cap', hv, h1, h2, h3⟩ := h
  obtain ⟨rfl, e1, rfl⟩ := Value.slice.inj hv
  have hl : (ls.take k).length = k := by rw [List.length_take]; omega
  refine ⟨a, cap, by rw [hl], by omega, h2, fun hp => ?_⟩
  obtain ⟨b, off, ha, hlt, hc⟩ := h3 (by omega)
  refine ⟨b, off, ha, hlt, fun i hi => ?_⟩
  rw [hl] at hi
  rw [hc i (by omega)]
  simp [List.getD, hi]
theorem rd_len {mk : Nat → Value} {w : World} {a : Option Addr} {n cap : Nat} {ls : List Nat} (h : Rd mk w (.slice a n cap) ls) : ls.length = n ∧ n ≤ cap ∧ cap ≤ maxLen := by
  obtain ⟨a', cap', hv, h1, h2, -⟩ := h
  obtain ⟨-, e1, rfl⟩ := Value.slice.inj hv
  exact ⟨e1.symm, by omega, h2⟩
theorem rd_cell {mk : Nat → Value} {w : World} {a : Option Addr} {n cap : Nat} {ls : List Nat} (h : Rd mk w (.slice a n cap) ls) {k : Nat} (hk : k < n) :
    ∃ b off, a = some ⟨b, off, none⟩ ∧ b < w.heap.size ∧ w.cell? ⟨b, off + k, none⟩ = some (mk (ls.getD k 0)) := by
  have hl := (rd_len h).1
  obtain ⟨a', cap', hv, h1, h2, h3⟩ := h
  obtain ⟨rfl, e1, rfl⟩ := Value.slice.inj hv
  obtain ⟨b, off, ha, hlt, hc⟩ := h3 (by omega)
  exact ⟨b, off, ha, hlt, hc k (by omega)⟩
theorem rd_form {mk : Nat → Value} {w : World} {v : Value} {ls : List Nat} (h : Rd mk w v ls) : ∃ a cap, v = .slice a ls.length cap := by
  obtain ⟨a, cap, rfl, -⟩ := h; exact ⟨a, cap, rfl⟩
theorem getD_of {r : List Nat} {i : Nat} (h : i < r.length) : r.getD i 0 = r[i] := by simp [List.getD, h]
theorem map_snoc' {mk : Nat → Value} {r : List Nat} {k : Nat} (h : k < r.length) : (r.take k).map mk ++ [mk (r.getD k 0)] = (r.take (k + 1)).map mk := by
  rw [List.take_succ_eq_append_getElem h, List.map_append, getD_of h]; rfl

theorem laidOut : laidOutB Try.prog = true := by kernel_rfl
theorem addr_add (b off j : Nat) : (⟨b, off, none⟩ : Addr).add j = ⟨b, off + j, none⟩ := by unfold Addr.add; split <;> simp_all

end Go.Proofs.Ytoacedadfjoneaa.nats
