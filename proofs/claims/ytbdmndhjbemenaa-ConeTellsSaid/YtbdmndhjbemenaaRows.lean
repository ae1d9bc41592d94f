/-
  No cell of these rows narrows 'for every input' (looked for: loops, veiled, ifaces, maps, wideKeys, modest, calm, conditions, laid).
  DERIVED. THE GIVEN ROWS OF THIS SEAT. 4 by the template 'for every input the law returns true; each argument reads behind the call as it read before'; 0 by the template 'total and deterministic' (their statements: YtbdmndhjbemenaaTotals.lean).
  GIVEN WITH THE SEED: the statements are not yours to turn. If you find one false, say at which input.
  Laid BY PROGRAM, IN A SANDBOX (cutbox-rows.mjs): the forced cells as the released guide's own fill.sh prints them over the translation 99b6e98aa18200fe… (all of the seat's roots in one cut). By AI agents, Wed Nov 11 2026. No macro, syntax, notation, axiom, sorry.
-/
import Derived.Test.YtbdmndhjbemenaaChecked
import GoSem.Claim
import GoSem.ClaimJoined
import GoSem.ClaimMapViews
import Derived.JoinedTies
import Derived.KernelRfl
namespace Go.Proofs.Ytbdmndhjbemenaa
/- THE CELL 'sum', in the pinned program and in every row, IS THE sha256 OF THE DUMP (.gsa) THAT YtbdmndhjbemenaaProg.lean LOADS. Nothing in Lean hashes anything: it is a label: what it is worth is what the hold of that sum in a sandbox is worth. -/
noncomputable def Try.pinned : Pinned := { name := "ytbdmndhjbemenaa", sum := "99b6e98aa18200fe6521ab8d9fc80fc0980bcdfa518ba4b84300a7b27bc66a4b", checked := Try.checked }
namespace Rows
def none {H : Type} : Left H := { results := [], args := [] }

/-- 'latchetlaw08.ConeTells': WHATEVER THE INPUT: true; the input reads as it did. -/
def coneTellsSpec : ChangeSpec := { name := "coneTells", fn := fun _ => fun
  | [d1, d2] => { results := [.lit (.bool true)], args := [d1, d2] }
  | _ => none }
def coneTellsRow : OpenClaim := { program := "ytbdmndhjbemenaa", sum := "99b6e98aa18200fe6521ab8d9fc80fc0980bcdfa518ba4b84300a7b27bc66a4b", func := "latchet/latchetlaw08.ConeTells", spec := "coneTells", apart := false }
def ConeTellsSaid : Prop := coneTellsRow.holds Try.pinned (OpenSpec.ofChange coneTellsSpec)

/-- ITS FALSE NEIGHBOUR: 'it returns false'. Refute it at one input. -/
def coneTellsWrong : ChangeSpec := { name := "coneTells", fn := fun _ => fun
  | [d1, d2] => { results := [.lit (.bool false)], args := [d1, d2] }
  | _ => none }
def ConeTellsWrongFalsely : Prop := coneTellsRow.holds Try.pinned (OpenSpec.ofChange coneTellsWrong)

/-- 'latchetlaw08.ConeAbove': WHATEVER THE INPUT: true; the input reads as it did. -/
def coneAboveSpec : ChangeSpec := { name := "coneAbove", fn := fun _ => fun
  | [d1, d2] => { results := [.lit (.bool true)], args := [d1, d2] }
  | _ => none }
def coneAboveRow : OpenClaim := { program := "ytbdmndhjbemenaa", sum := "99b6e98aa18200fe6521ab8d9fc80fc0980bcdfa518ba4b84300a7b27bc66a4b", func := "latchet/latchetlaw08.ConeAbove", spec := "coneAbove", apart := false }
def ConeAboveSaid : Prop := coneAboveRow.holds Try.pinned (OpenSpec.ofChange coneAboveSpec)

/-- ITS FALSE NEIGHBOUR: 'it returns false'. Refute it at one input. -/
def coneAboveWrong : ChangeSpec := { name := "coneAbove", fn := fun _ => fun
  | [d1, d2] => { results := [.lit (.bool false)], args := [d1, d2] }
  | _ => none }
def ConeAboveWrongFalsely : Prop := coneAboveRow.holds Try.pinned (OpenSpec.ofChange coneAboveWrong)

/-- 'latchetlaw08.ConeCuts': WHATEVER THE INPUT: true; the input reads as it did. -/
def coneCutsSpec : ChangeSpec := { name := "coneCuts", fn := fun _ => fun
  | [d1, d2, d3] => { results := [.lit (.bool true)], args := [d1, d2, d3] }
  | _ => none }
def coneCutsRow : OpenClaim := { program := "ytbdmndhjbemenaa", sum := "99b6e98aa18200fe6521ab8d9fc80fc0980bcdfa518ba4b84300a7b27bc66a4b", func := "latchet/latchetlaw08.ConeCuts", spec := "coneCuts", apart := false }
def ConeCutsSaid : Prop := coneCutsRow.holds Try.pinned (OpenSpec.ofChange coneCutsSpec)

/-- ITS FALSE NEIGHBOUR: 'it returns false'. Refute it at one input. -/
def coneCutsWrong : ChangeSpec := { name := "coneCuts", fn := fun _ => fun
  | [d1, d2, d3] => { results := [.lit (.bool false)], args := [d1, d2, d3] }
  | _ => none }
def ConeCutsWrongFalsely : Prop := coneCutsRow.holds Try.pinned (OpenSpec.ofChange coneCutsWrong)

/-- 'latchetlaw08.ConeMeans': WHATEVER THE INPUT: true; the input reads as it did. -/
def coneMeansSpec : ChangeSpec := { name := "coneMeans", fn := fun _ => fun
  | [d1, d2, d3, d4] => { results := [.lit (.bool true)], args := [d1, d2, d3, d4] }
  | _ => none }
def coneMeansRow : OpenClaim := { program := "ytbdmndhjbemenaa", sum := "99b6e98aa18200fe6521ab8d9fc80fc0980bcdfa518ba4b84300a7b27bc66a4b", func := "latchet/latchetlaw08.ConeMeans", spec := "coneMeans", apart := false }
def ConeMeansSaid : Prop := coneMeansRow.holds Try.pinned (OpenSpec.ofChange coneMeansSpec)

/-- ITS FALSE NEIGHBOUR: 'it returns false'. Refute it at one input. -/
def coneMeansWrong : ChangeSpec := { name := "coneMeans", fn := fun _ => fun
  | [d1, d2, d3, d4] => { results := [.lit (.bool false)], args := [d1, d2, d3, d4] }
  | _ => none }
def ConeMeansWrongFalsely : Prop := coneMeansRow.holds Try.pinned (OpenSpec.ofChange coneMeansWrong)

/- THE SECOND FORM. 'bulk': how many values and letters a reading holds, each counted each time it is reached (what is shared counts as often as it is met; a slice's spare places count too). A statement '..UptoSaid' is the law's where the arguments, and the package variables that the reading takes, are together of bulk at most 1048576: NARROWER than '..Said'. Prove '..Said' where nothing that the law and all that it calls make is longer than what came in: it says more and counts as full. Else prove '..UptoSaid'. A law counts once. -/
mutual
def uptoBulk {H : Type} : DataW H → Nat
  | .lit (.string bytes) => bytes.length + 1
  | .lit _ => 1
  | .nil => 1
  | .ptr d => uptoBulk d + 1
  | .slice elems spare => uptoBulkAll elems + uptoBulkAll spare + 1
  | .agg parts => uptoBulkAll parts + 1
  | .iface _ d => uptoBulk d + 1
  | .map entries => uptoBulkEntries entries + 1
  | .held _ => 1
def uptoBulkAll {H : Type} : List (DataW H) → Nat
  | [] => 0
  | d :: r => uptoBulk d + uptoBulkAll r
def uptoBulkEntries {H : Type} : List (Lit × DataW H) → Nat
  | [] => 0
  | x :: r => uptoBulkEntry x + uptoBulkEntries r
def uptoBulkEntry {H : Type} : Lit × DataW H → Nat
  | (.string bytes, d) => bytes.length + uptoBulk d + 1
  | (_, d) => uptoBulk d + 1
 end
def uptoSmall : (H : Type) → List (DataW H) → Bool := fun _ ds => decide (uptoBulkAll ds ≤ 1048576)
def OpenSpec.upto (s : _root_.Go.ChangeSpec) : _root_.Go.OpenSpec := { _root_.Go.OpenSpec.ofChange s with cond := some uptoSmall }

/-- 'latchetlaw08.ConeTells', WHERE WHAT IT READS IS OF BULK AT MOST 1048576: true; the input reads as it did. -/
def coneTellsUptoRow : OpenClaim := { program := "ytbdmndhjbemenaa", sum := "99b6e98aa18200fe6521ab8d9fc80fc0980bcdfa518ba4b84300a7b27bc66a4b", func := "latchet/latchetlaw08.ConeTells", spec := "coneTells", apart := false, narrowed := true }
def ConeTellsUptoSaid : Prop := coneTellsUptoRow.holds Try.pinned (OpenSpec.upto coneTellsSpec)

/-- 'latchetlaw08.ConeAbove', WHERE WHAT IT READS IS OF BULK AT MOST 1048576: true; the input reads as it did. -/
def coneAboveUptoRow : OpenClaim := { program := "ytbdmndhjbemenaa", sum := "99b6e98aa18200fe6521ab8d9fc80fc0980bcdfa518ba4b84300a7b27bc66a4b", func := "latchet/latchetlaw08.ConeAbove", spec := "coneAbove", apart := false, narrowed := true }
def ConeAboveUptoSaid : Prop := coneAboveUptoRow.holds Try.pinned (OpenSpec.upto coneAboveSpec)

/-- 'latchetlaw08.ConeCuts', WHERE WHAT IT READS IS OF BULK AT MOST 1048576: true; the input reads as it did. -/
def coneCutsUptoRow : OpenClaim := { program := "ytbdmndhjbemenaa", sum := "99b6e98aa18200fe6521ab8d9fc80fc0980bcdfa518ba4b84300a7b27bc66a4b", func := "latchet/latchetlaw08.ConeCuts", spec := "coneCuts", apart := false, narrowed := true }
def ConeCutsUptoSaid : Prop := coneCutsUptoRow.holds Try.pinned (OpenSpec.upto coneCutsSpec)

/-- 'latchetlaw08.ConeMeans', WHERE WHAT IT READS IS OF BULK AT MOST 1048576: true; the input reads as it did. -/
def coneMeansUptoRow : OpenClaim := { program := "ytbdmndhjbemenaa", sum := "99b6e98aa18200fe6521ab8d9fc80fc0980bcdfa518ba4b84300a7b27bc66a4b", func := "latchet/latchetlaw08.ConeMeans", spec := "coneMeans", apart := false, narrowed := true }
def ConeMeansUptoSaid : Prop := coneMeansUptoRow.holds Try.pinned (OpenSpec.upto coneMeansSpec)

end Rows
end Go.Proofs.Ytbdmndhjbemenaa
