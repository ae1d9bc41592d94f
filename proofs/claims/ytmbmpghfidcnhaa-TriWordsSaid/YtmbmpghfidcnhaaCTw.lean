/-
  PROVED: of any words At answers what the document's answer does, and of what AndWord, NotWord and All make, each value is And, Not, or the value, and no bit is in both (TriWords returns true and leaves its arguments as they were).
  Conditions: none but the form's own.
-/
import Derived.Test.YtmbmpghfidcnhaaRows
import Derived.Test.YtmbmpghfidcnhaaTw4
import Derived.WalkKit
import Derived.ProofKit
import Derived.OpenShut
import Derived.ShutString
import Derived.Below
import Derived.Deep.DeepHandedRow
import Derived.Lib.SmallJoins
namespace Go.Proofs.Ytmbmpghfidcnhaa.ctw
open Go.ChangeShapes Go.WideShapes Go.ChangeAt Go.RowKit Go.Joins
open Go.ChangeMaps (open_string shut_string)
open Go.Proofs.Ytmbmpghfidcnhaa.tri Go.Proofs.Ytmbmpghfidcnhaa.fns
theorem in_of {n : Int} (h : (Lit.int .u64 n).wf = true) : fns.In64 n := by
  have := bounds_u64 h
  exact ⟨by omega, by omega⟩
theorem own : ownKnob Try.prog.godebug = none := by kernel_rfl
theorem below_of {P : Program} {f : FuncId} {args : Array Value} {w : World} {v : Value} (h : Calls P f args w fun e w' => e = .returned v ∧ w = w') :
    Calls P f args w fun e w' => e = .returned v ∧ Below w.heap.size w w' := h.mono fun _ _ ⟨h1, h2⟩ => ⟨h1, h2 ▸ Below.refl _ _⟩

theorem contract (H : Type) (enc : TypeId × Value → H) (W : World) (base : Nat) (args : Array Value) (ds gs : List (DataW H)) (before : List MemPlace)
    (hval : ∀ (j : Nat) t v, Try.f5.params[j]? = some t → args[j]? = some v → Value.okWide Try.prog W .any base t v)
    (hW : DataW.Whole enc Try.prog Try.f5.params.toList Rows.triWordsSpec.vars false W args.toList ds gs before) :
    Calls Try.prog 5 args W fun e W' => ∃ v, e = .returned v ∧ Rows.triWordsSpec.post enc Try.prog Try.f5 false true false false W args v W' := by
  have hW' := hW
  obtain ⟨p, q, hA0, hV, rfl, hfz, hnd⟩ := hW
  have hA : DataW.TrodAll enc Try.prog W 0 (fun _ => true) true Try.f5.params.toList args.toList ds p := hA0
  rw [Try.params5] at hA hval
  obtain ⟨v0, vs0, d0, ds0, p0, q0, hargs, rfl, rfl, h0, r0⟩ := trodAll_cons hA
  obtain ⟨v1, vs1, d1, ds1, p1, q1, rfl, rfl, rfl, h1, r1⟩ := trodAll_cons r0
  obtain ⟨v2, vs2, d2, ds2, p2, q2, rfl, rfl, rfl, h2, r2⟩ := trodAll_cons r1
  obtain ⟨v3, vs3, d3, ds3, p3, q3, rfl, rfl, rfl, h3, r3⟩ := trodAll_cons r2
  obtain ⟨rfl, rfl, rfl⟩ := trodAll_nil r3
  obtain rfl : args = #[v0, v1, v2, v3] := by cases args; simp_all
  obtain ⟨rfl, rfl⟩ := trodVars_none hV
  have u0 := hval 0 33 v0 rfl rfl
  obtain ⟨x0_0, x0_1, y0_0, y0_1, n0, rfl, rfl, rfl, g0_0, g0_1⟩ := open_agg2 Try.underlying33 (by kernel_rfl) (by kernel_rfl) u0 h0
  obtain ⟨a0, e0_0, rfl, wa0⟩ := DataW.trod_int Try.underlying31 g0_0
  obtain rfl : x0_0 = .int .u64 a0 := by simpa using e0_0
  obtain ⟨a1, e0_1, rfl, wa1⟩ := DataW.trod_int Try.underlying31 g0_1
  obtain rfl : x0_1 = .int .u64 a1 := by simpa using e0_1
  have u1 := hval 1 33 v1 rfl rfl
  obtain ⟨x1_0, x1_1, y1_0, y1_1, n1, rfl, rfl, rfl, g1_0, g1_1⟩ := open_agg2 Try.underlying33 (by kernel_rfl) (by kernel_rfl) u1 h1
  obtain ⟨b0, e1_0, rfl, wb0⟩ := DataW.trod_int Try.underlying31 g1_0
  obtain rfl : x1_0 = .int .u64 b0 := by simpa using e1_0
  obtain ⟨b1, e1_1, rfl, wb1⟩ := DataW.trod_int Try.underlying31 g1_1
  obtain rfl : x1_1 = .int .u64 b1 := by simpa using e1_1
  obtain ⟨i, rfl, rfl, rfl, wi⟩ := open_int Try.underlying3 (hval 2 3 v2 rfl rfl) h2
  obtain ⟨v, rfl, rfl, rfl, wv⟩ := open_int Try.underlying3 (hval 3 3 v3 rfl rfl) h3
  clear hA0
  simp only [List.append_nil] at hW'
  refine (words_walk a0 a1 b0 b1 i v W (in_of wa0) (in_of wa1) (in_of wb0) (in_of wb1)).mono fun e W' ⟨he, hb⟩ => ?_
  subst he
  exact ⟨_, rfl, _, _, _, [], _, [], hW', trodAll_mk1 (shut_bool Try.underlying4 _),
    trodAll_cons_mk (shut_agg2 Try.underlying33 (by kernel_rfl) (by kernel_rfl) ⟨_, trod_int_mk 0 Try.underlying31 wa0⟩ ⟨_, trod_int_mk 0 Try.underlying31 wa1⟩) (trodAll_cons_mk (shut_agg2 Try.underlying33 (by kernel_rfl) (by kernel_rfl) ⟨_, trod_int_mk 0 Try.underlying31 wb0⟩ ⟨_, trod_int_mk 0 Try.underlying31 wb1⟩) (trodAll_cons_mk (shut_int Try.underlying3 wi) (trodAll_cons_mk (shut_int Try.underlying3 wv) trodAll_mk0))), rfl, hb.frame _, fun h => by cases h⟩

set_option maxRecDepth 100000 in
theorem lifted (os : Os) (started : os.Started) (H : Type) (enc : TypeId × Value → H) :
    ReturnsInHanded {} Try.checked os 5 .any (Rows.triWordsSpec.pre6 enc Try.prog Try.f5 Rows.triWordsRow.domain false) (Rows.triWordsSpec.post enc Try.prog Try.f5 false true false false) := by
  refine returnsInHanded_of_change (C := Try.checked) own started (by kernel_rfl) Try.func5
    (ChangeSpec.witness6 (enc := enc) (C := Try.checked) false ⟨#[], #[.agg #[.int .u64 0, .int .u64 0], .agg #[.int .u64 0, .int .u64 0], .int .i64 0, .int .i64 0], []⟩ 8 (by kernel_rfl) (by kernel_rfl) (by kernel_rfl) (by kernel_rfl)) ?_
  intro W base args ds gs before hval hW hcnd _
  exact contract H enc W base args ds gs before hval hW

theorem proved : Rows.TriWordsSaid :=
  OpenClaim.holds_of_wide 5 Try.f5 rfl rfl rfl rfl rfl rfl rfl ⟨rfl, rfl, rfl, rfl, rfl⟩ rfl rfl rfl rfl rfl (by kernel_rfl) Try.func5 (by kernel_rfl)
    (of_decide_eq_true (by kernel_rfl)) (by unfold Func.isWrapper; first | (rw [if_pos (by decide +kernel)]; kernel_rfl) | (rw [if_neg (by decide +kernel)]; exact ⟨rfl, rfl⟩))
    (fun os started H enc _ => lifted os started H enc)
#print axioms proved
end Go.Proofs.Ytmbmpghfidcnhaa.ctw
