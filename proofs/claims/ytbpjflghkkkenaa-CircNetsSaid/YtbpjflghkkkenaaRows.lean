/-
  No cell of these rows narrows 'for every input' (looked for: loops, veiled, ifaces, maps, wideKeys, modest, calm, conditions, laid).
  DERIVED. THE GIVEN ROWS OF THIS SEAT. 3 by the template 'for every input the law returns true; each argument reads behind the call as it read before'; 0 by the template 'total and deterministic' (their statements: YtbpjflghkkkenaaTotals.lean).
  GIVEN WITH THE SEED: the statements are not yours to turn. If you find one false, say at which input.
  Laid BY PROGRAM, IN A SANDBOX (cutbox-rows.mjs): the forced cells as the released guide's own fill.sh prints them over the translation ae3e523337cefa65… (all of the seat's roots in one cut). By AI agents, Wed Nov 11 2026. No macro, syntax, notation, axiom, sorry.
-/
import Derived.Test.YtbpjflghkkkenaaChecked
import GoSem.Claim
import GoSem.ClaimJoined
import GoSem.ClaimMapViews
import Derived.JoinedTies
import Derived.KernelRfl
namespace Go.Proofs.Ytbpjflghkkkenaa
/- THE CELL 'sum', in the pinned program and in every row, IS THE sha256 OF THE DUMP (.gsa) THAT YtbpjflghkkkenaaProg.lean LOADS. Nothing in Lean hashes anything: it is a label: what it is worth is what the hold of that sum in a sandbox is worth. -/
noncomputable def Try.pinned : Pinned := { name := "ytbpjflghkkkenaa", sum := "ae3e523337cefa6507bca4f925efdb73a7c17a280f01987baba150e880f067a8", checked := Try.checked }
namespace Rows
def none {H : Type} : Left H := { results := [], args := [] }

/-- 'latchetlaw11.CircChecks': WHATEVER THE INPUT: true; the input reads as it did. -/
def circChecksSpec : ChangeSpec := { name := "circChecks", fn := fun _ => fun
  | [d] => { results := [.lit (.bool true)], args := [d] }
  | _ => none }
def circChecksRow : OpenClaim := { program := "ytbpjflghkkkenaa", sum := "ae3e523337cefa6507bca4f925efdb73a7c17a280f01987baba150e880f067a8", func := "latchet/latchetlaw11.CircChecks", spec := "circChecks", unfollowed := true, recurses := true, apart := false }
def CircChecksSaid : Prop := circChecksRow.holds Try.pinned (OpenSpec.ofChange circChecksSpec)

/-- ITS FALSE NEIGHBOUR: 'it returns false'. Refute it at one input. -/
def circChecksWrong : ChangeSpec := { name := "circChecks", fn := fun _ => fun
  | [d] => { results := [.lit (.bool false)], args := [d] }
  | _ => none }
def CircChecksWrongFalsely : Prop := circChecksRow.holds Try.pinned (OpenSpec.ofChange circChecksWrong)

/-- 'latchetlaw11.CircNets': WHATEVER THE INPUT: true; the input reads as it did. -/
def circNetsSpec : ChangeSpec := { name := "circNets", fn := fun _ => fun
  | [d] => { results := [.lit (.bool true)], args := [d] }
  | _ => none }
def circNetsRow : OpenClaim := { program := "ytbpjflghkkkenaa", sum := "ae3e523337cefa6507bca4f925efdb73a7c17a280f01987baba150e880f067a8", func := "latchet/latchetlaw11.CircNets", spec := "circNets", unfollowed := true, recurses := true, apart := false }
def CircNetsSaid : Prop := circNetsRow.holds Try.pinned (OpenSpec.ofChange circNetsSpec)

/-- ITS FALSE NEIGHBOUR: 'it returns false'. Refute it at one input. -/
def circNetsWrong : ChangeSpec := { name := "circNets", fn := fun _ => fun
  | [d] => { results := [.lit (.bool false)], args := [d] }
  | _ => none }
def CircNetsWrongFalsely : Prop := circNetsRow.holds Try.pinned (OpenSpec.ofChange circNetsWrong)

/-- 'latchetlaw11.CircSame': WHATEVER THE INPUT: true; the input reads as it did. -/
def circSameSpec : ChangeSpec := { name := "circSame", fn := fun _ => fun
  | [d1, d2] => { results := [.lit (.bool true)], args := [d1, d2] }
  | _ => none }
def circSameRow : OpenClaim := { program := "ytbpjflghkkkenaa", sum := "ae3e523337cefa6507bca4f925efdb73a7c17a280f01987baba150e880f067a8", func := "latchet/latchetlaw11.CircSame", spec := "circSame", unfollowed := true, recurses := true, apart := false }
def CircSameSaid : Prop := circSameRow.holds Try.pinned (OpenSpec.ofChange circSameSpec)

/-- ITS FALSE NEIGHBOUR: 'it returns false'. Refute it at one input. -/
def circSameWrong : ChangeSpec := { name := "circSame", fn := fun _ => fun
  | [d1, d2] => { results := [.lit (.bool false)], args := [d1, d2] }
  | _ => none }
def CircSameWrongFalsely : Prop := circSameRow.holds Try.pinned (OpenSpec.ofChange circSameWrong)

/- THE SECOND FORM. 'bulk': how many values and letters a reading holds, each counted each time it is reached (what is shared counts as often as it is met; a slice's spare places count too). A statement '..UptoSaid' is the law's where the arguments, and the package variables that the reading takes, are together of bulk at most 1048576: NARROWER than '..Said'. Prove '..Said' where nothing that the law and all that it calls make is longer than what came in: it says more and counts as full. Else prove '..UptoSaid'. A law counts once. -/
mutual
def uptoBulk {H : Type} : DataW H → Nat
  | .lit (.string bytes) => bytes.length + 1
  | .lit _ => 1
  | .nil => 1
  | .ptr d => uptoBulk d + 1
  | .slice elems spare => uptoBulkAll elems + uptoBulkAll spare + 1
  | .agg parts => uptoBulkAll parts + 1
  | .iface _ d => uptoBulk d + 1
  | .map entries => uptoBulkEntries entries + 1
  | .held _ => 1
def uptoBulkAll {H : Type} : List (DataW H) → Nat
  | [] => 0
  | d :: r => uptoBulk d + uptoBulkAll r
def uptoBulkEntries {H : Type} : List (Lit × DataW H) → Nat
  | [] => 0
  | x :: r => uptoBulkEntry x + uptoBulkEntries r
def uptoBulkEntry {H : Type} : Lit × DataW H → Nat
  | (.string bytes, d) => bytes.length + uptoBulk d + 1
  | (_, d) => uptoBulk d + 1
 end
def uptoSmall : (H : Type) → List (DataW H) → Bool := fun _ ds => decide (uptoBulkAll ds ≤ 1048576)
def OpenSpec.upto (s : _root_.Go.ChangeSpec) : _root_.Go.OpenSpec := { _root_.Go.OpenSpec.ofChange s with cond := some uptoSmall }

/-- 'latchetlaw11.CircChecks', WHERE WHAT IT READS IS OF BULK AT MOST 1048576: true; the input reads as it did. -/
def circChecksUptoRow : OpenClaim := { program := "ytbpjflghkkkenaa", sum := "ae3e523337cefa6507bca4f925efdb73a7c17a280f01987baba150e880f067a8", func := "latchet/latchetlaw11.CircChecks", spec := "circChecks", unfollowed := true, recurses := true, apart := false, narrowed := true }
def CircChecksUptoSaid : Prop := circChecksUptoRow.holds Try.pinned (OpenSpec.upto circChecksSpec)

/-- 'latchetlaw11.CircNets', WHERE WHAT IT READS IS OF BULK AT MOST 1048576: true; the input reads as it did. -/
def circNetsUptoRow : OpenClaim := { program := "ytbpjflghkkkenaa", sum := "ae3e523337cefa6507bca4f925efdb73a7c17a280f01987baba150e880f067a8", func := "latchet/latchetlaw11.CircNets", spec := "circNets", unfollowed := true, recurses := true, apart := false, narrowed := true }
def CircNetsUptoSaid : Prop := circNetsUptoRow.holds Try.pinned (OpenSpec.upto circNetsSpec)

/-- 'latchetlaw11.CircSame', WHERE WHAT IT READS IS OF BULK AT MOST 1048576: true; the input reads as it did. -/
def circSameUptoRow : OpenClaim := { program := "ytbpjflghkkkenaa", sum := "ae3e523337cefa6507bca4f925efdb73a7c17a280f01987baba150e880f067a8", func := "latchet/latchetlaw11.CircSame", spec := "circSame", unfollowed := true, recurses := true, apart := false, narrowed := true }
def CircSameUptoSaid : Prop := circSameUptoRow.holds Try.pinned (OpenSpec.upto circSameSpec)

end Rows
end Go.Proofs.Ytbpjflghkkkenaa
