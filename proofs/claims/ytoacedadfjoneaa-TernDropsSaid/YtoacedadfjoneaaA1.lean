/- The document's store of gates in memory: what reads it, and a new node. -/
import Derived.Test.YtoacedadfjoneaaOn
import Derived.Test.YtoacedadfjoneaaFnB
import Derived.Deep.RegionHeld3
namespace Go.Proofs.Ytoacedadfjoneaa.aig
open Go.RowKit
open Go.Proofs.Ytoacedadfjoneaa.mem Go.Proofs.Ytoacedadfjoneaa.agf

/-- cells of nodes, two each -/
def nodeCells (ns : List (Int × Int)) : List Value := ns.flatMap fun p => [.int .i64 p.1, .int .i64 p.2]
theorem nodeCells_len (ns : List (Int × Int)) : (nodeCells ns).length = ns.length * 2 := by
  induction ns with
  | nil => rfl
  | cons p ns ih => simp [nodeCells] at ih ⊢; omega
theorem nodeCells_snoc (ns : List (Int × Int)) (a b : Int) : nodeCells ns ++ [.int .i64 a, .int .i64 b] = nodeCells (ns ++ [(a, b)]) := by simp [nodeCells]
theorem nodeCells_at : ∀ (ns : List (Int × Int)) (i : Nat), i < ns.length → (nodeCells ns)[i * 2]? = some (.int .i64 (ns.getD i (0, 0)).1) ∧ (nodeCells ns)[i * 2 + 1]? = some (.int .i64 (ns.getD i (0, 0)).2) := by
  intro ns
  induction ns with
  | nil => intro i h; simp at h
  | cons p ns ih =>
    intro i h
    have e : nodeCells (p :: ns) = .int .i64 p.1 :: .int .i64 p.2 :: nodeCells ns := rfl
    cases i with
    | zero => rw [e]; exact ⟨rfl, rfl⟩
    | succ i =>
      obtain ⟨h1, h2⟩ := ih i (by simpa using h)
      rw [e, show (i + 1) * 2 = i * 2 + 1 + 1 by omega]
      simp only [List.getElem?_cons_succ]
      exact ⟨by simpa [List.getD] using h1, by simpa [List.getD] using h2⟩
/-- a node as the document's store writes it -/
def conc : Nd → Int × Int
  | none => (-1, 0)
  | some (a, b) => ((a : Int), (b : Int))
/-- the document's store at h -/
structure Rs (A B : Nat) (w : World) (h : Nat) (sv : Value) (N : Net) : Prop where
  one : One w h sv
  row : w.ownsRow B 40 2 sv N.length (nodeCells (N.map conc))
  lay : A ≤ h ∧ h < B ∧ B ≤ w.heap.size
section
variable {A B : Nat} {w w' : World} {h : Nat} {sv : Value} {N : Net}
theorem Rs.on (s : Rs A B w h sv N) (hb : Below w.heap.size w w') : Rs A B w' h sv N :=
  ⟨s.one.on hb s.one.lt, own_on s.row hb, s.lay.1, s.lay.2.1, Nat.le_trans s.lay.2.2 hb.size⟩
theorem Rs.form (s : Rs A B w h sv N) : ∃ a c, sv = .slice a N.length c := by
  rcases s.row.2 with ⟨e, e2⟩ | ⟨t, c, cur, e, -⟩
  · exact ⟨none, 0, by rw [e, e2]⟩
  · exact ⟨_, _, e⟩
theorem Rs.at_ (s : Rs A B w h sv N) {i : Nat} (hi : i < N.length) : ∃ t c, sv = .slice (some ⟨t, 0, none⟩) N.length c ∧
    w.cell? ⟨t, i * 2, none⟩ = some (.int .i64 ((N.map conc).getD i (0, 0)).1) ∧ w.cell? ⟨t, i * 2 + 1, none⟩ = some (.int .i64 ((N.map conc).getD i (0, 0)).2) := by
  obtain ⟨t, c, rfl, -, -⟩ := s.row.form (by omega)
  obtain ⟨h1, h2⟩ := nodeCells_at (N.map conc) i (by rw [List.length_map]; exact hi)
  exact ⟨t, c, rfl, by rw [s.row.cellAt _ (by omega), h1], by rw [s.row.cellAt _ (by omega), h2]⟩
end
end Go.Proofs.Ytoacedadfjoneaa.aig
