/-
  No cell of these rows narrows 'for every input' (looked for: loops, veiled, ifaces, maps, wideKeys, modest, calm, conditions, laid).
  DERIVED. THE GIVEN ROWS OF THIS SEAT. 5 by the template 'for every input the law returns true; each argument reads behind the call as it read before'; 0 by the template 'total and deterministic' (their statements: YtfdihlicmmcjjaaTotals.lean).
  GIVEN WITH THE SEED: the statements are not yours to turn. If you find one false, say at which input.
  Laid BY PROGRAM, IN A SANDBOX (cutbox-rows.mjs): the forced cells as the released guide's own fill.sh prints them over the translation 91d9e34e8940309e… (all of the seat's roots in one cut). By AI agents, Wed Nov 11 2026. No macro, syntax, notation, axiom, sorry.
-/
import Derived.Test.YtfdihlicmmcjjaaChecked
import GoSem.Claim
import GoSem.ClaimJoined
import GoSem.ClaimMapViews
import Derived.JoinedTies
import Derived.KernelRfl
namespace Go.Proofs.Ytfdihlicmmcjjaa
/- THE CELL 'sum', in the pinned program and in every row, IS THE sha256 OF THE DUMP (.gsa) THAT YtfdihlicmmcjjaaProg.lean LOADS. Nothing in Lean hashes anything: it is a label: what it is worth is what the hold of that sum in a sandbox is worth. -/
noncomputable def Try.pinned : Pinned := { name := "ytfdihlicmmcjjaa", sum := "91d9e34e8940309e5609df940b05d4e91a38cbf1ba87adf841d39af227cafd4f", checked := Try.checked }
namespace Rows
def none {H : Type} : Left H := { results := [], args := [] }

/-- 'latchetlaw07.AigNets': WHATEVER THE INPUT: true; the input reads as it did. -/
def aigNetsSpec : ChangeSpec := { name := "aigNets", fn := fun _ => fun
  | [d] => { results := [.lit (.bool true)], args := [d] }
  | _ => none }
def aigNetsRow : OpenClaim := { program := "ytfdihlicmmcjjaa", sum := "91d9e34e8940309e5609df940b05d4e91a38cbf1ba87adf841d39af227cafd4f", func := "latchet/latchetlaw07.AigNets", spec := "aigNets", plainKeys := false, apart := false }
def AigNetsSaid : Prop := aigNetsRow.holds Try.pinned (OpenSpec.ofChange aigNetsSpec)

/-- ITS FALSE NEIGHBOUR: 'it returns false'. Refute it at one input. -/
def aigNetsWrong : ChangeSpec := { name := "aigNets", fn := fun _ => fun
  | [d] => { results := [.lit (.bool false)], args := [d] }
  | _ => none }
def AigNetsWrongFalsely : Prop := aigNetsRow.holds Try.pinned (OpenSpec.ofChange aigNetsWrong)

/-- 'latchetlaw07.AigPlays': WHATEVER THE INPUT: true; the input reads as it did. -/
def aigPlaysSpec : ChangeSpec := { name := "aigPlays", fn := fun _ => fun
  | [d] => { results := [.lit (.bool true)], args := [d] }
  | _ => none }
def aigPlaysRow : OpenClaim := { program := "ytfdihlicmmcjjaa", sum := "91d9e34e8940309e5609df940b05d4e91a38cbf1ba87adf841d39af227cafd4f", func := "latchet/latchetlaw07.AigPlays", spec := "aigPlays", inPlace := ["maps.clone"], plainKeys := false, apart := false }
def AigPlaysSaid : Prop := aigPlaysRow.holds Try.pinned (OpenSpec.ofChange aigPlaysSpec)

/-- ITS FALSE NEIGHBOUR: 'it returns false'. Refute it at one input. -/
def aigPlaysWrong : ChangeSpec := { name := "aigPlays", fn := fun _ => fun
  | [d] => { results := [.lit (.bool false)], args := [d] }
  | _ => none }
def AigPlaysWrongFalsely : Prop := aigPlaysRow.holds Try.pinned (OpenSpec.ofChange aigPlaysWrong)

/-- 'latchetlaw07.AigMeans': WHATEVER THE INPUT: true; the input reads as it did. -/
def aigMeansSpec : ChangeSpec := { name := "aigMeans", fn := fun _ => fun
  | [d1, d2, d3] => { results := [.lit (.bool true)], args := [d1, d2, d3] }
  | _ => none }
def aigMeansRow : OpenClaim := { program := "ytfdihlicmmcjjaa", sum := "91d9e34e8940309e5609df940b05d4e91a38cbf1ba87adf841d39af227cafd4f", func := "latchet/latchetlaw07.AigMeans", spec := "aigMeans", plainKeys := false, apart := false }
def AigMeansSaid : Prop := aigMeansRow.holds Try.pinned (OpenSpec.ofChange aigMeansSpec)

/-- ITS FALSE NEIGHBOUR: 'it returns false'. Refute it at one input. -/
def aigMeansWrong : ChangeSpec := { name := "aigMeans", fn := fun _ => fun
  | [d1, d2, d3] => { results := [.lit (.bool false)], args := [d1, d2, d3] }
  | _ => none }
def AigMeansWrongFalsely : Prop := aigMeansRow.holds Try.pinned (OpenSpec.ofChange aigMeansWrong)

/-- 'latchetlaw07.AigTidy': WHATEVER THE INPUT: true; the input reads as it did. -/
def aigTidySpec : ChangeSpec := { name := "aigTidy", fn := fun _ => fun
  | [d] => { results := [.lit (.bool true)], args := [d] }
  | _ => none }
def aigTidyRow : OpenClaim := { program := "ytfdihlicmmcjjaa", sum := "91d9e34e8940309e5609df940b05d4e91a38cbf1ba87adf841d39af227cafd4f", func := "latchet/latchetlaw07.AigTidy", spec := "aigTidy", plainKeys := false, apart := false }
def AigTidySaid : Prop := aigTidyRow.holds Try.pinned (OpenSpec.ofChange aigTidySpec)

/-- ITS FALSE NEIGHBOUR: 'it returns false'. Refute it at one input. -/
def aigTidyWrong : ChangeSpec := { name := "aigTidy", fn := fun _ => fun
  | [d] => { results := [.lit (.bool false)], args := [d] }
  | _ => none }
def AigTidyWrongFalsely : Prop := aigTidyRow.holds Try.pinned (OpenSpec.ofChange aigTidyWrong)

/-- 'latchetlaw07.AigNone': WHATEVER THE INPUT: true; the input reads as it did. -/
def aigNoneSpec : ChangeSpec := { name := "aigNone", fn := fun _ => fun
  | [d1, d2, d3] => { results := [.lit (.bool true)], args := [d1, d2, d3] }
  | _ => none }
def aigNoneRow : OpenClaim := { program := "ytfdihlicmmcjjaa", sum := "91d9e34e8940309e5609df940b05d4e91a38cbf1ba87adf841d39af227cafd4f", func := "latchet/latchetlaw07.AigNone", spec := "aigNone", inPlace := ["maps.clone"], plainKeys := false, apart := false }
def AigNoneSaid : Prop := aigNoneRow.holds Try.pinned (OpenSpec.ofChange aigNoneSpec)

/-- ITS FALSE NEIGHBOUR: 'it returns false'. Refute it at one input. -/
def aigNoneWrong : ChangeSpec := { name := "aigNone", fn := fun _ => fun
  | [d1, d2, d3] => { results := [.lit (.bool false)], args := [d1, d2, d3] }
  | _ => none }
def AigNoneWrongFalsely : Prop := aigNoneRow.holds Try.pinned (OpenSpec.ofChange aigNoneWrong)

/- THE SECOND FORM. 'bulk': how many values and letters a reading holds, each counted each time it is reached (what is shared counts as often as it is met; a slice's spare places count too). A statement '..UptoSaid' is the law's where the arguments, and the package variables that the reading takes, are together of bulk at most 1048576: NARROWER than '..Said'. Prove '..Said' where nothing that the law and all that it calls make is longer than what came in: it says more and counts as full. Else prove '..UptoSaid'. A law counts once. -/
mutual
def uptoBulk {H : Type} : DataW H → Nat
  | .lit (.string bytes) => bytes.length + 1
  | .lit _ => 1
  | .nil => 1
  | .ptr d => uptoBulk d + 1
  | .slice elems spare => uptoBulkAll elems + uptoBulkAll spare + 1
  | .agg parts => uptoBulkAll parts + 1
  | .iface _ d => uptoBulk d + 1
  | .map entries => uptoBulkEntries entries + 1
  | .held _ => 1
def uptoBulkAll {H : Type} : List (DataW H) → Nat
  | [] => 0
  | d :: r => uptoBulk d + uptoBulkAll r
def uptoBulkEntries {H : Type} : List (Lit × DataW H) → Nat
  | [] => 0
  | x :: r => uptoBulkEntry x + uptoBulkEntries r
def uptoBulkEntry {H : Type} : Lit × DataW H → Nat
  | (.string bytes, d) => bytes.length + uptoBulk d + 1
  | (_, d) => uptoBulk d + 1
 end
def uptoSmall : (H : Type) → List (DataW H) → Bool := fun _ ds => decide (uptoBulkAll ds ≤ 1048576)
def OpenSpec.upto (s : _root_.Go.ChangeSpec) : _root_.Go.OpenSpec := { _root_.Go.OpenSpec.ofChange s with cond := some uptoSmall }

/-- 'latchetlaw07.AigNets', WHERE WHAT IT READS IS OF BULK AT MOST 1048576: true; the input reads as it did. -/
def aigNetsUptoRow : OpenClaim := { program := "ytfdihlicmmcjjaa", sum := "91d9e34e8940309e5609df940b05d4e91a38cbf1ba87adf841d39af227cafd4f", func := "latchet/latchetlaw07.AigNets", spec := "aigNets", plainKeys := false, apart := false, narrowed := true }
def AigNetsUptoSaid : Prop := aigNetsUptoRow.holds Try.pinned (OpenSpec.upto aigNetsSpec)

/-- 'latchetlaw07.AigPlays', WHERE WHAT IT READS IS OF BULK AT MOST 1048576: true; the input reads as it did. -/
def aigPlaysUptoRow : OpenClaim := { program := "ytfdihlicmmcjjaa", sum := "91d9e34e8940309e5609df940b05d4e91a38cbf1ba87adf841d39af227cafd4f", func := "latchet/latchetlaw07.AigPlays", spec := "aigPlays", inPlace := ["maps.clone"], plainKeys := false, apart := false, narrowed := true }
def AigPlaysUptoSaid : Prop := aigPlaysUptoRow.holds Try.pinned (OpenSpec.upto aigPlaysSpec)

/-- 'latchetlaw07.AigMeans', WHERE WHAT IT READS IS OF BULK AT MOST 1048576: true; the input reads as it did. -/
def aigMeansUptoRow : OpenClaim := { program := "ytfdihlicmmcjjaa", sum := "91d9e34e8940309e5609df940b05d4e91a38cbf1ba87adf841d39af227cafd4f", func := "latchet/latchetlaw07.AigMeans", spec := "aigMeans", plainKeys := false, apart := false, narrowed := true }
def AigMeansUptoSaid : Prop := aigMeansUptoRow.holds Try.pinned (OpenSpec.upto aigMeansSpec)

/-- 'latchetlaw07.AigTidy', WHERE WHAT IT READS IS OF BULK AT MOST 1048576: true; the input reads as it did. -/
def aigTidyUptoRow : OpenClaim := { program := "ytfdihlicmmcjjaa", sum := "91d9e34e8940309e5609df940b05d4e91a38cbf1ba87adf841d39af227cafd4f", func := "latchet/latchetlaw07.AigTidy", spec := "aigTidy", plainKeys := false, apart := false, narrowed := true }
def AigTidyUptoSaid : Prop := aigTidyUptoRow.holds Try.pinned (OpenSpec.upto aigTidySpec)

/-- 'latchetlaw07.AigNone', WHERE WHAT IT READS IS OF BULK AT MOST 1048576: true; the input reads as it did. -/
def aigNoneUptoRow : OpenClaim := { program := "ytfdihlicmmcjjaa", sum := "91d9e34e8940309e5609df940b05d4e91a38cbf1ba87adf841d39af227cafd4f", func := "latchet/latchetlaw07.AigNone", spec := "aigNone", inPlace := ["maps.clone"], plainKeys := false, apart := false, narrowed := true }
def AigNoneUptoSaid : Prop := aigNoneUptoRow.holds Try.pinned (OpenSpec.upto aigNoneSpec)

end Rows
end Go.Proofs.Ytfdihlicmmcjjaa
