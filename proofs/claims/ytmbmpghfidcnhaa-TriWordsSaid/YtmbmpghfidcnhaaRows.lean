/-
  No cell of these rows narrows 'for every input' (looked for: loops, veiled, ifaces, maps, wideKeys, modest, calm, conditions, laid).
  DERIVED. THE GIVEN ROWS OF THIS SEAT. 4 by the template 'for every input the law returns true; each argument reads behind the call as it read before'; 0 by the template 'total and deterministic' (their statements: YtmbmpghfidcnhaaTotals.lean).
  GIVEN WITH THE SEED: the statements are not yours to turn. If you find one false, say at which input.
  Laid BY PROGRAM, IN A SANDBOX (cutbox-rows.mjs): the forced cells as the released guide's own fill.sh prints them over the translation abc40cda21799b12… (all of the seat's roots in one cut). By AI agents, Wed Nov 11 2026. No macro, syntax, notation, axiom, sorry.
-/
import Derived.Test.YtmbmpghfidcnhaaChecked
import GoSem.Claim
import GoSem.ClaimJoined
import GoSem.ClaimMapViews
import Derived.JoinedTies
import Derived.KernelRfl
namespace Go.Proofs.Ytmbmpghfidcnhaa
/- THE CELL 'sum', in the pinned program and in every row, IS THE sha256 OF THE DUMP (.gsa) THAT YtmbmpghfidcnhaaProg.lean LOADS. Nothing in Lean hashes anything: it is a label: what it is worth is what the hold of that sum in a sandbox is worth. -/
noncomputable def Try.pinned : Pinned := { name := "ytmbmpghfidcnhaa", sum := "abc40cda21799b12d0002e62d179f394c34dc8c9c741dd38265770a12bc592fb", checked := Try.checked }
namespace Rows
def none {H : Type} : Left H := { results := [], args := [] }

/-- 'latchetlaw03.TriTells': WHATEVER THE INPUT: true; the input reads as it did. -/
def triTellsSpec : ChangeSpec := { name := "triTells", fn := fun _ => fun
  | [d1, d2] => { results := [.lit (.bool true)], args := [d1, d2] }
  | _ => none }
def triTellsRow : OpenClaim := { program := "ytmbmpghfidcnhaa", sum := "abc40cda21799b12d0002e62d179f394c34dc8c9c741dd38265770a12bc592fb", func := "latchet/latchetlaw03.TriTells", spec := "triTells", apart := false }
def TriTellsSaid : Prop := triTellsRow.holds Try.pinned (OpenSpec.ofChange triTellsSpec)

/-- ITS FALSE NEIGHBOUR: 'it returns false'. Refute it at one input. -/
def triTellsWrong : ChangeSpec := { name := "triTells", fn := fun _ => fun
  | [d1, d2] => { results := [.lit (.bool false)], args := [d1, d2] }
  | _ => none }
def TriTellsWrongFalsely : Prop := triTellsRow.holds Try.pinned (OpenSpec.ofChange triTellsWrong)

/-- 'latchetlaw03.TriLits': WHATEVER THE INPUT: true; the input reads as it did. -/
def triLitsSpec : ChangeSpec := { name := "triLits", fn := fun _ => fun
  | [d1, d2] => { results := [.lit (.bool true)], args := [d1, d2] }
  | _ => none }
def triLitsRow : OpenClaim := { program := "ytmbmpghfidcnhaa", sum := "abc40cda21799b12d0002e62d179f394c34dc8c9c741dd38265770a12bc592fb", func := "latchet/latchetlaw03.TriLits", spec := "triLits", apart := false }
def TriLitsSaid : Prop := triLitsRow.holds Try.pinned (OpenSpec.ofChange triLitsSpec)

/-- ITS FALSE NEIGHBOUR: 'it returns false'. Refute it at one input. -/
def triLitsWrong : ChangeSpec := { name := "triLits", fn := fun _ => fun
  | [d1, d2] => { results := [.lit (.bool false)], args := [d1, d2] }
  | _ => none }
def TriLitsWrongFalsely : Prop := triLitsRow.holds Try.pinned (OpenSpec.ofChange triLitsWrong)

/-- 'latchetlaw03.TriWords': WHATEVER THE INPUT: true; the input reads as it did. -/
def triWordsSpec : ChangeSpec := { name := "triWords", fn := fun _ => fun
  | [d1, d2, d3, d4] => { results := [.lit (.bool true)], args := [d1, d2, d3, d4] }
  | _ => none }
def triWordsRow : OpenClaim := { program := "ytmbmpghfidcnhaa", sum := "abc40cda21799b12d0002e62d179f394c34dc8c9c741dd38265770a12bc592fb", func := "latchet/latchetlaw03.TriWords", spec := "triWords", apart := false }
def TriWordsSaid : Prop := triWordsRow.holds Try.pinned (OpenSpec.ofChange triWordsSpec)

/-- ITS FALSE NEIGHBOUR: 'it returns false'. Refute it at one input. -/
def triWordsWrong : ChangeSpec := { name := "triWords", fn := fun _ => fun
  | [d1, d2, d3, d4] => { results := [.lit (.bool false)], args := [d1, d2, d3, d4] }
  | _ => none }
def TriWordsWrongFalsely : Prop := triWordsRow.holds Try.pinned (OpenSpec.ofChange triWordsWrong)

/-- 'latchetlaw03.TriSays': WHATEVER THE INPUT: true; the input reads as it did. -/
def triSaysSpec : ChangeSpec := { name := "triSays", fn := fun _ => fun
  | [d1, d2, d3] => { results := [.lit (.bool true)], args := [d1, d2, d3] }
  | _ => none }
def triSaysRow : OpenClaim := { program := "ytmbmpghfidcnhaa", sum := "abc40cda21799b12d0002e62d179f394c34dc8c9c741dd38265770a12bc592fb", func := "latchet/latchetlaw03.TriSays", spec := "triSays", apart := false }
def TriSaysSaid : Prop := triSaysRow.holds Try.pinned (OpenSpec.ofChange triSaysSpec)

/-- ITS FALSE NEIGHBOUR: 'it returns false'. Refute it at one input. -/
def triSaysWrong : ChangeSpec := { name := "triSays", fn := fun _ => fun
  | [d1, d2, d3] => { results := [.lit (.bool false)], args := [d1, d2, d3] }
  | _ => none }
def TriSaysWrongFalsely : Prop := triSaysRow.holds Try.pinned (OpenSpec.ofChange triSaysWrong)

/- THE SECOND FORM. 'bulk': how many values and letters a reading holds, each counted each time it is reached (what is shared counts as often as it is met; a slice's spare places count too). A statement '..UptoSaid' is the law's where the arguments, and the package variables that the reading takes, are together of bulk at most 1048576: NARROWER than '..Said'. Prove '..Said' where nothing that the law and all that it calls make is longer than what came in: it says more and counts as full. Else prove '..UptoSaid'. A law counts once. -/
mutual
def uptoBulk {H : Type} : DataW H → Nat
  | .lit (.string bytes) => bytes.length + 1
  | .lit _ => 1
  | .nil => 1
  | .ptr d => uptoBulk d + 1
  | .slice elems spare => uptoBulkAll elems + uptoBulkAll spare + 1
  | .agg parts => uptoBulkAll parts + 1
  | .iface _ d => uptoBulk d + 1
  | .map entries => uptoBulkEntries entries + 1
  | .held _ => 1
def uptoBulkAll {H : Type} : List (DataW H) → Nat
  | [] => 0
  | d :: r => uptoBulk d + uptoBulkAll r
def uptoBulkEntries {H : Type} : List (Lit × DataW H) → Nat
  | [] => 0
  | x :: r => uptoBulkEntry x + uptoBulkEntries r
def uptoBulkEntry {H : Type} : Lit × DataW H → Nat
  | (.string bytes, d) => bytes.length + uptoBulk d + 1
  | (_, d) => uptoBulk d + 1
 end
def uptoSmall : (H : Type) → List (DataW H) → Bool := fun _ ds => decide (uptoBulkAll ds ≤ 1048576)
def OpenSpec.upto (s : _root_.Go.ChangeSpec) : _root_.Go.OpenSpec := { _root_.Go.OpenSpec.ofChange s with cond := some uptoSmall }

/-- 'latchetlaw03.TriTells', WHERE WHAT IT READS IS OF BULK AT MOST 1048576: true; the input reads as it did. -/
def triTellsUptoRow : OpenClaim := { program := "ytmbmpghfidcnhaa", sum := "abc40cda21799b12d0002e62d179f394c34dc8c9c741dd38265770a12bc592fb", func := "latchet/latchetlaw03.TriTells", spec := "triTells", apart := false, narrowed := true }
def TriTellsUptoSaid : Prop := triTellsUptoRow.holds Try.pinned (OpenSpec.upto triTellsSpec)

/-- 'latchetlaw03.TriLits', WHERE WHAT IT READS IS OF BULK AT MOST 1048576: true; the input reads as it did. -/
def triLitsUptoRow : OpenClaim := { program := "ytmbmpghfidcnhaa", sum := "abc40cda21799b12d0002e62d179f394c34dc8c9c741dd38265770a12bc592fb", func := "latchet/latchetlaw03.TriLits", spec := "triLits", apart := false, narrowed := true }
def TriLitsUptoSaid : Prop := triLitsUptoRow.holds Try.pinned (OpenSpec.upto triLitsSpec)

/-- 'latchetlaw03.TriWords', WHERE WHAT IT READS IS OF BULK AT MOST 1048576: true; the input reads as it did. -/
def triWordsUptoRow : OpenClaim := { program := "ytmbmpghfidcnhaa", sum := "abc40cda21799b12d0002e62d179f394c34dc8c9c741dd38265770a12bc592fb", func := "latchet/latchetlaw03.TriWords", spec := "triWords", apart := false, narrowed := true }
def TriWordsUptoSaid : Prop := triWordsUptoRow.holds Try.pinned (OpenSpec.upto triWordsSpec)

/-- 'latchetlaw03.TriSays', WHERE WHAT IT READS IS OF BULK AT MOST 1048576: true; the input reads as it did. -/
def triSaysUptoRow : OpenClaim := { program := "ytmbmpghfidcnhaa", sum := "abc40cda21799b12d0002e62d179f394c34dc8c9c741dd38265770a12bc592fb", func := "latchet/latchetlaw03.TriSays", spec := "triSays", apart := false, narrowed := true }
def TriSaysUptoSaid : Prop := triSaysUptoRow.holds Try.pinned (OpenSpec.upto triSaysSpec)

end Rows
end Go.Proofs.Ytmbmpghfidcnhaa
