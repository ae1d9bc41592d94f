/-
  No cell of these rows narrows 'for every input' (looked for: loops, veiled, ifaces, maps, wideKeys, modest, calm, conditions, laid).
  DERIVED. THE GIVEN ROWS OF THIS SEAT. 3 by the template 'for every input the law returns true; each argument reads behind the call as it read before'; 0 by the template 'total and deterministic' (their statements: YtpagcphebokkmaaTotals.lean).
  GIVEN WITH THE SEED: the statements are not yours to turn. If you find one false, say at which input.
  Laid BY PROGRAM, IN A SANDBOX (cutbox-rows.mjs): the forced cells as the released guide's own fill.sh prints them over the translation efeb503359e6add7… (all of the seat's roots in one cut). By AI agents, Wed Nov 11 2026. No macro, syntax, notation, axiom, sorry.
-/
import Derived.Test.YtpagcphebokkmaaChecked
import GoSem.Claim
import GoSem.ClaimJoined
import GoSem.ClaimMapViews
import Derived.JoinedTies
import Derived.KernelRfl
namespace Go.Proofs.Ytpagcphebokkmaa
/- THE CELL 'sum', in the pinned program and in every row, IS THE sha256 OF THE DUMP (.gsa) THAT YtpagcphebokkmaaProg.lean LOADS. Nothing in Lean hashes anything: it is a label: what it is worth is what the hold of that sum in a sandbox is worth. -/
noncomputable def Try.pinned : Pinned := { name := "ytpagcphebokkmaa", sum := "efeb503359e6add7a4135b059bcee9761b09dd06e2712c4fd8e14516d2e10e86", checked := Try.checked }
namespace Rows
def none {H : Type} : Left H := { results := [], args := [] }

/-- 'latchetlaw04.RandPlays': WHATEVER THE INPUT: true; the input reads as it did. -/
def randPlaysSpec : ChangeSpec := { name := "randPlays", fn := fun _ => fun
  | [d1, d2] => { results := [.lit (.bool true)], args := [d1, d2] }
  | _ => none }
def randPlaysRow : OpenClaim := { program := "ytpagcphebokkmaa", sum := "efeb503359e6add7a4135b059bcee9761b09dd06e2712c4fd8e14516d2e10e86", func := "latchet/latchetlaw04.RandPlays", spec := "randPlays", apart := false }
def RandPlaysSaid : Prop := randPlaysRow.holds Try.pinned (OpenSpec.ofChange randPlaysSpec)

/-- ITS FALSE NEIGHBOUR: 'it returns false'. Refute it at one input. -/
def randPlaysWrong : ChangeSpec := { name := "randPlays", fn := fun _ => fun
  | [d1, d2] => { results := [.lit (.bool false)], args := [d1, d2] }
  | _ => none }
def RandPlaysWrongFalsely : Prop := randPlaysRow.holds Try.pinned (OpenSpec.ofChange randPlaysWrong)

/-- 'latchetlaw04.RandPerms': WHATEVER THE INPUT: true; the input reads as it did. -/
def randPermsSpec : ChangeSpec := { name := "randPerms", fn := fun _ => fun
  | [d1, d2] => { results := [.lit (.bool true)], args := [d1, d2] }
  | _ => none }
def randPermsRow : OpenClaim := { program := "ytpagcphebokkmaa", sum := "efeb503359e6add7a4135b059bcee9761b09dd06e2712c4fd8e14516d2e10e86", func := "latchet/latchetlaw04.RandPerms", spec := "randPerms", apart := false }
def RandPermsSaid : Prop := randPermsRow.holds Try.pinned (OpenSpec.ofChange randPermsSpec)

/-- ITS FALSE NEIGHBOUR: 'it returns false'. Refute it at one input. -/
def randPermsWrong : ChangeSpec := { name := "randPerms", fn := fun _ => fun
  | [d1, d2] => { results := [.lit (.bool false)], args := [d1, d2] }
  | _ => none }
def RandPermsWrongFalsely : Prop := randPermsRow.holds Try.pinned (OpenSpec.ofChange randPermsWrong)

/-- 'latchetlaw04.RandNone': WHATEVER THE INPUT: true; the input reads as it did. -/
def randNoneSpec : ChangeSpec := { name := "randNone", fn := fun _ => fun
  | [d] => { results := [.lit (.bool true)], args := [d] }
  | _ => none }
def randNoneRow : OpenClaim := { program := "ytpagcphebokkmaa", sum := "efeb503359e6add7a4135b059bcee9761b09dd06e2712c4fd8e14516d2e10e86", func := "latchet/latchetlaw04.RandNone", spec := "randNone", apart := false }
def RandNoneSaid : Prop := randNoneRow.holds Try.pinned (OpenSpec.ofChange randNoneSpec)

/-- ITS FALSE NEIGHBOUR: 'it returns false'. Refute it at one input. -/
def randNoneWrong : ChangeSpec := { name := "randNone", fn := fun _ => fun
  | [d] => { results := [.lit (.bool false)], args := [d] }
  | _ => none }
def RandNoneWrongFalsely : Prop := randNoneRow.holds Try.pinned (OpenSpec.ofChange randNoneWrong)

/- THE SECOND FORM. 'bulk': how many values and letters a reading holds, each counted each time it is reached (what is shared counts as often as it is met; a slice's spare places count too). A statement '..UptoSaid' is the law's where the arguments, and the package variables that the reading takes, are together of bulk at most 1048576: NARROWER than '..Said'. Prove '..Said' where nothing that the law and all that it calls make is longer than what came in: it says more and counts as full. Else prove '..UptoSaid'. A law counts once. -/
mutual
def uptoBulk {H : Type} : DataW H → Nat
  | .lit (.string bytes) => bytes.length + 1
  | .lit _ => 1
  | .nil => 1
  | .ptr d => uptoBulk d + 1
  | .slice elems spare => uptoBulkAll elems + uptoBulkAll spare + 1
  | .agg parts => uptoBulkAll parts + 1
  | .iface _ d => uptoBulk d + 1
  | .map entries => uptoBulkEntries entries + 1
  | .held _ => 1
def uptoBulkAll {H : Type} : List (DataW H) → Nat
  | [] => 0
  | d :: r => uptoBulk d + uptoBulkAll r
def uptoBulkEntries {H : Type} : List (Lit × DataW H) → Nat
  | [] => 0
  | x :: r => uptoBulkEntry x + uptoBulkEntries r
def uptoBulkEntry {H : Type} : Lit × DataW H → Nat
  | (.string bytes, d) => bytes.length + uptoBulk d + 1
  | (_, d) => uptoBulk d + 1
 end
def uptoSmall : (H : Type) → List (DataW H) → Bool := fun _ ds => decide (uptoBulkAll ds ≤ 1048576)
def OpenSpec.upto (s : _root_.Go.ChangeSpec) : _root_.Go.OpenSpec := { _root_.Go.OpenSpec.ofChange s with cond := some uptoSmall }

/-- 'latchetlaw04.RandPlays', WHERE WHAT IT READS IS OF BULK AT MOST 1048576: true; the input reads as it did. -/
def randPlaysUptoRow : OpenClaim := { program := "ytpagcphebokkmaa", sum := "efeb503359e6add7a4135b059bcee9761b09dd06e2712c4fd8e14516d2e10e86", func := "latchet/latchetlaw04.RandPlays", spec := "randPlays", apart := false, narrowed := true }
def RandPlaysUptoSaid : Prop := randPlaysUptoRow.holds Try.pinned (OpenSpec.upto randPlaysSpec)

/-- 'latchetlaw04.RandPerms', WHERE WHAT IT READS IS OF BULK AT MOST 1048576: true; the input reads as it did. -/
def randPermsUptoRow : OpenClaim := { program := "ytpagcphebokkmaa", sum := "efeb503359e6add7a4135b059bcee9761b09dd06e2712c4fd8e14516d2e10e86", func := "latchet/latchetlaw04.RandPerms", spec := "randPerms", apart := false, narrowed := true }
def RandPermsUptoSaid : Prop := randPermsUptoRow.holds Try.pinned (OpenSpec.upto randPermsSpec)

/-- 'latchetlaw04.RandNone', WHERE WHAT IT READS IS OF BULK AT MOST 1048576: true; the input reads as it did. -/
def randNoneUptoRow : OpenClaim := { program := "ytpagcphebokkmaa", sum := "efeb503359e6add7a4135b059bcee9761b09dd06e2712c4fd8e14516d2e10e86", func := "latchet/latchetlaw04.RandNone", spec := "randNone", apart := false, narrowed := true }
def RandNoneUptoSaid : Prop := randNoneUptoRow.holds Try.pinned (OpenSpec.upto randNoneSpec)

end Rows
end Go.Proofs.Ytpagcphebokkmaa
