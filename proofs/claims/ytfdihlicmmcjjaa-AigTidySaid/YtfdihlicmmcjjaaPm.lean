/- A map of gates: a struct of two numbers is its key. -/
import Derived.Test.YtfdihlicmmcjjaaA5
import Derived.Maps.OwnSet
import Derived.DeepKeys4
namespace Go.Proofs.Ytfdihlicmmcjjaa.aig
open Go.RowKit Go.Maps Go.WideMaps
open Go.Proofs.Ytfdihlicmmcjjaa.mem Go.Proofs.Ytfdihlicmmcjjaa.agf

theorem laidOut : laidOutB Try.prog = true := by kernel_rfl
theorem wideN : (match Try.prog.underlying 54 with | some (.array _ _) | some (.struct _) => true | _ => false) = true := by kernel_rfl
theorem rowN : (54 : TypeId) < Try.prog.types.size := of_decide_eq_true (by kernel_rfl)
theorem lawN : Keyed Try.prog 54 := Keyed.of_law (deep_law_laid laidOut (m := 2) (by omega) rowN (by kernel_rfl) wideN)
theorem keyN : Try.prog.keyType 54 = true := by kernel_rfl
theorem sizeT : ∃ m, Try.prog.types.size = m + 1 := ⟨Try.prog.types.size - 1, (Nat.succ_pred_eq_of_pos (Nat.lt_of_le_of_lt (Nat.zero_le _) rowN)).symm⟩
/-- a gate as a key -/
def kl (x y : Int) : Lit := .string (keyBytes [.int .i64 x, .int .i64 y])
theorem key_node {x y : Int} (hx : In64 x) (hy : In64 y) : keyOf Try.prog 54 (.agg #[.int .i64 x, .int .i64 y]) = some (kl x y) := by
  obtain ⟨m, hm⟩ := sizeT
  have wx : (Lit.int .i64 x).wf = true := WalkArith.wf_i64 (by unfold In64 at hx; omega)
  have wy : (Lit.int .i64 y).wf = true := WalkArith.wf_i64 (by unfold In64 at hy; omega)
  have c3 : Try.prog.cellsOf 3 = 1 := by kernel_rfl
  have cN : Try.prog.cellsOf 54 = 2 := by kernel_rfl
  unfold keyOf
  simp only [Try.underlying54]
  rw [if_pos (by simp [keyN, Value.formed, Try.underlying54]; exact cN.symm), hm]
  unfold Program.keyLits
  simp only [Try.underlying54, Value.cells]
  simp [Program.keyLits, Try.underlying3, c3, cN, wx, wy, kl]
theorem kl_inj {x y x' y' : Int} (hx : In64 x) (hy : In64 y) (hx' : In64 x') (hy' : In64 y') (h : kl x y = kl x' y') : x = x' ∧ y = y' := by
  have a := key_node hx hy
  have b := key_node hx' hy'
  rw [h] at a
  have := lawN.inj a b
  simpa using this
/-- what a map of gates says: each gate's literal, and of no other one any -/
def GOk (D : DataW Unit) (N : Net) : Prop := IsMap D ∧ ∀ x y : Nat, x ≤ 4000000 → y ≤ 4000000 →
  (seek N (x, y) = none → has D (kl x y) = false) ∧ ∀ i, seek N (x, y) = some i → has D (kl x y) = true ∧ D.atKey (kl x y) (.lit (.int .i64 0)) = .lit (.int .i64 (2 * ((i : Int) + 1)))
theorem seek_snoc_some {N : Net} {x : Nd} {g : Nat × Nat} {i : Nat} (h : seek N g = some i) : seek (N ++ [x]) g = some i := by
  unfold seek at *
  rw [List.findIdx?_append, h]; rfl
theorem seek_snoc_none {N : Net} {x : Nd} {g : Nat × Nat} (h : seek N g = none) : seek (N ++ [x]) g = if x = some g then some N.length else none := by
  unfold seek at *
  rw [List.findIdx?_append, h]
  by_cases e : x = some g
  · rw [if_pos e]; simp [e, List.findIdx?_cons]
  · rw [if_neg e]
    have : (x == some g) = false := by simpa using e
    simp [List.findIdx?_cons, this]
theorem gok_nil : GOk (.map []) [] := ⟨isMap_empty, fun x y _ _ => ⟨fun _ => rfl, fun i h => by simp [seek] at h⟩⟩
theorem gok_input {D : DataW Unit} {N : Net} (h : GOk D N) : GOk D (N ++ [none]) := by
  refine ⟨h.1, fun x y hx hy => ⟨fun hs => ?_, fun i hs => ?_⟩⟩
  · cases h0 : seek N (x, y) with
    | none => exact (h.2 x y hx hy).1 h0
    | some j => rw [seek_snoc_some h0] at hs; cases hs
  · cases h0 : seek N (x, y) with
    | none => rw [seek_snoc_none h0, if_neg (by simp)] at hs; cases hs
    | some j => rw [seek_snoc_some h0] at hs; cases hs; exact (h.2 x y hx hy).2 _ h0
theorem in64n {x : Nat} (h : x ≤ 4000000) : In64 (x : Int) := by unfold In64; omega
theorem gok_gate {D : DataW Unit} {N : Net} {a b : Nat} (h : GOk D N) (ha : a ≤ 4000000) (hb : b ≤ 4000000) (hn : seek N (a, b) = none) : GOk (D.put (kl a b) (.lit (.int .i64 (2 * ((N.length : Int) + 1))))) (N ++ [some (a, b)]) := by
  refine ⟨h.1.put _ _, fun x y hx hy => ?_⟩
  by_cases e : x = a ∧ y = b
  · obtain ⟨rfl, rfl⟩ := e
    refine ⟨fun hs => ?_, fun i hs => ?_⟩
    · rw [seek_snoc_none hn, if_pos rfl] at hs; cases hs
    · rw [seek_snoc_none hn, if_pos rfl] at hs
      cases hs
      have hk : WideAt.IsKeyLit (kl x y) := lawN.key (key_node (in64n hx) (in64n hy))
      exact ⟨has_put_same h.1 hk _, atKey_put_same h.1 hk _ _⟩
  · have hne : kl a b ≠ kl x y := fun ek => by
      have := kl_inj (in64n ha) (in64n hb) (in64n hx) (in64n hy) ek
      omega
    have hs0 : (some (a, b) : Nd) ≠ some (x, y) := fun ek => by
      obtain ⟨e1, e2⟩ := Prod.mk.inj (Option.some.inj ek)
      exact e ⟨e1.symm, e2.symm⟩
    rw [has_put_other hne.symm, atKey_put_other hne.symm]
    refine ⟨fun hs => ?_, fun i hs => ?_⟩
    · cases h0 : seek N (x, y) with
      | none => exact (h.2 x y hx hy).1 h0
      | some j => rw [seek_snoc_some h0] at hs; cases hs
    · cases h0 : seek N (x, y) with
      | none => rw [seek_snoc_none h0, if_neg hs0] at hs; cases hs
      | some j => rw [seek_snoc_some h0] at hs; cases hs; exact (h.2 x y hx hy).2 _ h0
theorem zeroI (w : World) : (zeroValue 3).run Try.prog w = .ok (.int .i64 0) w := by kernel_rfl
end Go.Proofs.Ytfdihlicmmcjjaa.aig
