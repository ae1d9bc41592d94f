/-
  No cell of these rows narrows 'for every input' (looked for: loops, veiled, ifaces, maps, wideKeys, modest, calm, conditions, laid).
  DERIVED. THE GIVEN ROWS OF THIS SEAT. 3 by the template 'for every input the law returns true; each argument reads behind the call as it read before'; 0 by the template 'total and deterministic' (their statements: YtoacedadfjoneaaTotals.lean).
  GIVEN WITH THE SEED: the statements are not yours to turn. If you find one false, say at which input.
  Laid BY PROGRAM, IN A SANDBOX (cutbox-rows.mjs): the forced cells as the released guide's own fill.sh prints them over the translation 0998d5c3ff7e60be… (all of the seat's roots in one cut). By AI agents, Wed Nov 11 2026. No macro, syntax, notation, axiom, sorry.
-/
import Derived.Test.YtoacedadfjoneaaChecked
import GoSem.Claim
import GoSem.ClaimJoined
import GoSem.ClaimMapViews
import Derived.JoinedTies
import Derived.KernelRfl
namespace Go.Proofs.Ytoacedadfjoneaa
/- THE CELL 'sum', in the pinned program and in every row, IS THE sha256 OF THE DUMP (.gsa) THAT YtoacedadfjoneaaProg.lean LOADS. Nothing in Lean hashes anything: it is a label: what it is worth is what the hold of that sum in a sandbox is worth. -/
noncomputable def Try.pinned : Pinned := { name := "ytoacedadfjoneaa", sum := "0998d5c3ff7e60be4c89c78e2ca916fe974f470a06fe3abff542208264d75080", checked := Try.checked }
namespace Rows
def none {H : Type} : Left H := { results := [], args := [] }

/-- 'latchetlaw10.TernEvals': WHATEVER THE INPUT: true; the input reads as it did. -/
def ternEvalsSpec : ChangeSpec := { name := "ternEvals", fn := fun _ => fun
  | [d1, d2, d3] => { results := [.lit (.bool true)], args := [d1, d2, d3] }
  | _ => none }
def ternEvalsRow : OpenClaim := { program := "ytoacedadfjoneaa", sum := "0998d5c3ff7e60be4c89c78e2ca916fe974f470a06fe3abff542208264d75080", func := "latchet/latchetlaw10.TernEvals", spec := "ternEvals", apart := false }
def TernEvalsSaid : Prop := ternEvalsRow.holds Try.pinned (OpenSpec.ofChange ternEvalsSpec)

/-- ITS FALSE NEIGHBOUR: 'it returns false'. Refute it at one input. -/
def ternEvalsWrong : ChangeSpec := { name := "ternEvals", fn := fun _ => fun
  | [d1, d2, d3] => { results := [.lit (.bool false)], args := [d1, d2, d3] }
  | _ => none }
def TernEvalsWrongFalsely : Prop := ternEvalsRow.holds Try.pinned (OpenSpec.ofChange ternEvalsWrong)

/-- 'latchetlaw10.TernDrops': WHATEVER THE INPUT: true; the input reads as it did. -/
def ternDropsSpec : ChangeSpec := { name := "ternDrops", fn := fun _ => fun
  | [d1, d2, d3, d4] => { results := [.lit (.bool true)], args := [d1, d2, d3, d4] }
  | _ => none }
def ternDropsRow : OpenClaim := { program := "ytoacedadfjoneaa", sum := "0998d5c3ff7e60be4c89c78e2ca916fe974f470a06fe3abff542208264d75080", func := "latchet/latchetlaw10.TernDrops", spec := "ternDrops", apart := false }
def TernDropsSaid : Prop := ternDropsRow.holds Try.pinned (OpenSpec.ofChange ternDropsSpec)

/-- ITS FALSE NEIGHBOUR: 'it returns false'. Refute it at one input. -/
def ternDropsWrong : ChangeSpec := { name := "ternDrops", fn := fun _ => fun
  | [d1, d2, d3, d4] => { results := [.lit (.bool false)], args := [d1, d2, d3, d4] }
  | _ => none }
def TernDropsWrongFalsely : Prop := ternDropsRow.holds Try.pinned (OpenSpec.ofChange ternDropsWrong)

/-- 'latchetlaw10.TernSound': WHATEVER THE INPUT: true; the input reads as it did. -/
def ternSoundSpec : ChangeSpec := { name := "ternSound", fn := fun _ => fun
  | [d1, d2, d3] => { results := [.lit (.bool true)], args := [d1, d2, d3] }
  | _ => none }
def ternSoundRow : OpenClaim := { program := "ytoacedadfjoneaa", sum := "0998d5c3ff7e60be4c89c78e2ca916fe974f470a06fe3abff542208264d75080", func := "latchet/latchetlaw10.TernSound", spec := "ternSound", apart := false }
def TernSoundSaid : Prop := ternSoundRow.holds Try.pinned (OpenSpec.ofChange ternSoundSpec)

/-- ITS FALSE NEIGHBOUR: 'it returns false'. Refute it at one input. -/
def ternSoundWrong : ChangeSpec := { name := "ternSound", fn := fun _ => fun
  | [d1, d2, d3] => { results := [.lit (.bool false)], args := [d1, d2, d3] }
  | _ => none }
def TernSoundWrongFalsely : Prop := ternSoundRow.holds Try.pinned (OpenSpec.ofChange ternSoundWrong)

/- THE SECOND FORM. 'bulk': how many values and letters a reading holds, each counted each time it is reached (what is shared counts as often as it is met; a slice's spare places count too). A statement '..UptoSaid' is the law's where the arguments, and the package variables that the reading takes, are together of bulk at most 1048576: NARROWER than '..Said'. Prove '..Said' where nothing that the law and all that it calls make is longer than what came in: it says more and counts as full. Else prove '..UptoSaid'. A law counts once. -/
mutual
def uptoBulk {H : Type} : DataW H → Nat
  | .lit (.string bytes) => bytes.length + 1
  | .lit _ => 1
  | .nil => 1
  | .ptr d => uptoBulk d + 1
  | .slice elems spare => uptoBulkAll elems + uptoBulkAll spare + 1
  | .agg parts => uptoBulkAll parts + 1
  | .iface _ d => uptoBulk d + 1
  | .map entries => uptoBulkEntries entries + 1
  | .held _ => 1
def uptoBulkAll {H : Type} : List (DataW H) → Nat
  | [] => 0
  | d :: r => uptoBulk d + uptoBulkAll r
def uptoBulkEntries {H : Type} : List (Lit × DataW H) → Nat
  | [] => 0
  | x :: r => uptoBulkEntry x + uptoBulkEntries r
def uptoBulkEntry {H : Type} : Lit × DataW H → Nat
  | (.string bytes, d) => bytes.length + uptoBulk d + 1
  | (_, d) => uptoBulk d + 1
 end
def uptoSmall : (H : Type) → List (DataW H) → Bool := fun _ ds => decide (uptoBulkAll ds ≤ 1048576)
def OpenSpec.upto (s : _root_.Go.ChangeSpec) : _root_.Go.OpenSpec := { _root_.Go.OpenSpec.ofChange s with cond := some uptoSmall }

/-- 'latchetlaw10.TernEvals', WHERE WHAT IT READS IS OF BULK AT MOST 1048576: true; the input reads as it did. -/
def ternEvalsUptoRow : OpenClaim := { program := "ytoacedadfjoneaa", sum := "0998d5c3ff7e60be4c89c78e2ca916fe974f470a06fe3abff542208264d75080", func := "latchet/latchetlaw10.TernEvals", spec := "ternEvals", apart := false, narrowed := true }
def TernEvalsUptoSaid : Prop := ternEvalsUptoRow.holds Try.pinned (OpenSpec.upto ternEvalsSpec)

/-- 'latchetlaw10.TernDrops', WHERE WHAT IT READS IS OF BULK AT MOST 1048576: true; the input reads as it did. -/
def ternDropsUptoRow : OpenClaim := { program := "ytoacedadfjoneaa", sum := "0998d5c3ff7e60be4c89c78e2ca916fe974f470a06fe3abff542208264d75080", func := "latchet/latchetlaw10.TernDrops", spec := "ternDrops", apart := false, narrowed := true }
def TernDropsUptoSaid : Prop := ternDropsUptoRow.holds Try.pinned (OpenSpec.upto ternDropsSpec)

/-- 'latchetlaw10.TernSound', WHERE WHAT IT READS IS OF BULK AT MOST 1048576: true; the input reads as it did. -/
def ternSoundUptoRow : OpenClaim := { program := "ytoacedadfjoneaa", sum := "0998d5c3ff7e60be4c89c78e2ca916fe974f470a06fe3abff542208264d75080", func := "latchet/latchetlaw10.TernSound", spec := "ternSound", apart := false, narrowed := true }
def TernSoundUptoSaid : Prop := ternSoundUptoRow.holds Try.pinned (OpenSpec.upto ternSoundSpec)

end Rows
end Go.Proofs.Ytoacedadfjoneaa
