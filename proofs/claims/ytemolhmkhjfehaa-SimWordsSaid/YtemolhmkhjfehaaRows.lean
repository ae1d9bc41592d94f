/-
  No cell of these rows narrows 'for every input' (looked for: loops, veiled, ifaces, maps, wideKeys, modest, calm, conditions, laid).
  DERIVED. THE GIVEN ROWS OF THIS SEAT. 3 by the template 'for every input the law returns true; each argument reads behind the call as it read before'; 0 by the template 'total and deterministic' (their statements: YtemolhmkhjfehaaTotals.lean).
  GIVEN WITH THE SEED: the statements are not yours to turn. If you find one false, say at which input.
  Laid BY PROGRAM, IN A SANDBOX (cutbox-rows.mjs): the forced cells as the released guide's own fill.sh prints them over the translation ba1a5ccbcee47566… (all of the seat's roots in one cut). By AI agents, Wed Nov 11 2026. No macro, syntax, notation, axiom, sorry.
-/
import Derived.Test.YtemolhmkhjfehaaChecked
import GoSem.Claim
import GoSem.ClaimJoined
import GoSem.ClaimMapViews
import Derived.JoinedTies
import Derived.KernelRfl
namespace Go.Proofs.Ytemolhmkhjfehaa
/- THE CELL 'sum', in the pinned program and in every row, IS THE sha256 OF THE DUMP (.gsa) THAT YtemolhmkhjfehaaProg.lean LOADS. Nothing in Lean hashes anything: it is a label: what it is worth is what the hold of that sum in a sandbox is worth. -/
noncomputable def Try.pinned : Pinned := { name := "ytemolhmkhjfehaa", sum := "ba1a5ccbcee475666d35b2fb8ba25047db15a2d7a8964acd99a7927b5a86744e", checked := Try.checked }
namespace Rows
def none {H : Type} : Left H := { results := [], args := [] }

/-- 'latchetlaw09.SimEvals': WHATEVER THE INPUT: true; the input reads as it did. -/
def simEvalsSpec : ChangeSpec := { name := "simEvals", fn := fun _ => fun
  | [d1, d2, d3, d4] => { results := [.lit (.bool true)], args := [d1, d2, d3, d4] }
  | _ => none }
def simEvalsRow : OpenClaim := { program := "ytemolhmkhjfehaa", sum := "ba1a5ccbcee475666d35b2fb8ba25047db15a2d7a8964acd99a7927b5a86744e", func := "latchet/latchetlaw09.SimEvals", spec := "simEvals", apart := false }
def SimEvalsSaid : Prop := simEvalsRow.holds Try.pinned (OpenSpec.ofChange simEvalsSpec)

/-- ITS FALSE NEIGHBOUR: 'it returns false'. Refute it at one input. -/
def simEvalsWrong : ChangeSpec := { name := "simEvals", fn := fun _ => fun
  | [d1, d2, d3, d4] => { results := [.lit (.bool false)], args := [d1, d2, d3, d4] }
  | _ => none }
def SimEvalsWrongFalsely : Prop := simEvalsRow.holds Try.pinned (OpenSpec.ofChange simEvalsWrong)

/-- 'latchetlaw09.SimWords': WHATEVER THE INPUT: true; the input reads as it did. -/
def simWordsSpec : ChangeSpec := { name := "simWords", fn := fun _ => fun
  | [d1, d2, d3] => { results := [.lit (.bool true)], args := [d1, d2, d3] }
  | _ => none }
def simWordsRow : OpenClaim := { program := "ytemolhmkhjfehaa", sum := "ba1a5ccbcee475666d35b2fb8ba25047db15a2d7a8964acd99a7927b5a86744e", func := "latchet/latchetlaw09.SimWords", spec := "simWords", apart := false }
def SimWordsSaid : Prop := simWordsRow.holds Try.pinned (OpenSpec.ofChange simWordsSpec)

/-- ITS FALSE NEIGHBOUR: 'it returns false'. Refute it at one input. -/
def simWordsWrong : ChangeSpec := { name := "simWords", fn := fun _ => fun
  | [d1, d2, d3] => { results := [.lit (.bool false)], args := [d1, d2, d3] }
  | _ => none }
def SimWordsWrongFalsely : Prop := simWordsRow.holds Try.pinned (OpenSpec.ofChange simWordsWrong)

/-- 'latchetlaw09.SimLanes': WHATEVER THE INPUT: true; the input reads as it did. -/
def simLanesSpec : ChangeSpec := { name := "simLanes", fn := fun _ => fun
  | [d1, d2, d3] => { results := [.lit (.bool true)], args := [d1, d2, d3] }
  | _ => none }
def simLanesRow : OpenClaim := { program := "ytemolhmkhjfehaa", sum := "ba1a5ccbcee475666d35b2fb8ba25047db15a2d7a8964acd99a7927b5a86744e", func := "latchet/latchetlaw09.SimLanes", spec := "simLanes", apart := false }
def SimLanesSaid : Prop := simLanesRow.holds Try.pinned (OpenSpec.ofChange simLanesSpec)

/-- ITS FALSE NEIGHBOUR: 'it returns false'. Refute it at one input. -/
def simLanesWrong : ChangeSpec := { name := "simLanes", fn := fun _ => fun
  | [d1, d2, d3] => { results := [.lit (.bool false)], args := [d1, d2, d3] }
  | _ => none }
def SimLanesWrongFalsely : Prop := simLanesRow.holds Try.pinned (OpenSpec.ofChange simLanesWrong)

/- THE SECOND FORM. 'bulk': how many values and letters a reading holds, each counted each time it is reached (what is shared counts as often as it is met; a slice's spare places count too). A statement '..UptoSaid' is the law's where the arguments, and the package variables that the reading takes, are together of bulk at most 1048576: NARROWER than '..Said'. Prove '..Said' where nothing that the law and all that it calls make is longer than what came in: it says more and counts as full. Else prove '..UptoSaid'. A law counts once. -/
mutual
def uptoBulk {H : Type} : DataW H → Nat
  | .lit (.string bytes) => bytes.length + 1
  | .lit _ => 1
  | .nil => 1
  | .ptr d => uptoBulk d + 1
  | .slice elems spare => uptoBulkAll elems + uptoBulkAll spare + 1
  | .agg parts => uptoBulkAll parts + 1
  | .iface _ d => uptoBulk d + 1
  | .map entries => uptoBulkEntries entries + 1
  | .held _ => 1
def uptoBulkAll {H : Type} : List (DataW H) → Nat
  | [] => 0
  | d :: r => uptoBulk d + uptoBulkAll r
def uptoBulkEntries {H : Type} : List (Lit × DataW H) → Nat
  | [] => 0
  | x :: r => uptoBulkEntry x + uptoBulkEntries r
def uptoBulkEntry {H : Type} : Lit × DataW H → Nat
  | (.string bytes, d) => bytes.length + uptoBulk d + 1
  | (_, d) => uptoBulk d + 1
 end
def uptoSmall : (H : Type) → List (DataW H) → Bool := fun _ ds => decide (uptoBulkAll ds ≤ 1048576)
def OpenSpec.upto (s : _root_.Go.ChangeSpec) : _root_.Go.OpenSpec := { _root_.Go.OpenSpec.ofChange s with cond := some uptoSmall }

/-- 'latchetlaw09.SimEvals', WHERE WHAT IT READS IS OF BULK AT MOST 1048576: true; the input reads as it did. -/
def simEvalsUptoRow : OpenClaim := { program := "ytemolhmkhjfehaa", sum := "ba1a5ccbcee475666d35b2fb8ba25047db15a2d7a8964acd99a7927b5a86744e", func := "latchet/latchetlaw09.SimEvals", spec := "simEvals", apart := false, narrowed := true }
def SimEvalsUptoSaid : Prop := simEvalsUptoRow.holds Try.pinned (OpenSpec.upto simEvalsSpec)

/-- 'latchetlaw09.SimWords', WHERE WHAT IT READS IS OF BULK AT MOST 1048576: true; the input reads as it did. -/
def simWordsUptoRow : OpenClaim := { program := "ytemolhmkhjfehaa", sum := "ba1a5ccbcee475666d35b2fb8ba25047db15a2d7a8964acd99a7927b5a86744e", func := "latchet/latchetlaw09.SimWords", spec := "simWords", apart := false, narrowed := true }
def SimWordsUptoSaid : Prop := simWordsUptoRow.holds Try.pinned (OpenSpec.upto simWordsSpec)

/-- 'latchetlaw09.SimLanes', WHERE WHAT IT READS IS OF BULK AT MOST 1048576: true; the input reads as it did. -/
def simLanesUptoRow : OpenClaim := { program := "ytemolhmkhjfehaa", sum := "ba1a5ccbcee475666d35b2fb8ba25047db15a2d7a8964acd99a7927b5a86744e", func := "latchet/latchetlaw09.SimLanes", spec := "simLanes", apart := false, narrowed := true }
def SimLanesUptoSaid : Prop := simLanesUptoRow.holds Try.pinned (OpenSpec.upto simLanesSpec)

end Rows
end Go.Proofs.Ytemolhmkhjfehaa
