import Derived.Test.YtbpjflghkkkenaaProg
import Derived.Test.YtbpjflghkkkenaaMg5
import Derived.WalkKit
import Derived.Handy
import Derived.Outline
import Derived.OwnWalk
import Derived.Below
import Derived.WalkSmall
import Derived.Lib.Hide
import Derived.Lib.SmallJoins
import Derived.Deep.AppendLies
import Derived.ArgAppend
import Derived.Laws.AppendOwnNone
import Derived.Test.YtbpjflghkkkenaaMg1
import Derived.Deep.SlicePairs
import Derived.ChangeSame
import Derived.ProofKit
import Derived.OpenShut
import Derived.ChangeOld
import Derived.Orders
/- Slices of records, of any kind; their copies. -/
namespace Go.Proofs.Ytbpjflghkkkenaa.row
open Go.RowKit
open Go.Proofs.Ytbpjflghkkkenaa.mem (own_on addr_add)

section
variable {α : Type} {enc : α → List Value} {sz : Nat} {P Q : Nat → Prop} {w w' : World} {v : Value} {xs : List α}
/-- a slice of records of sz cells each, that lies in none of the blocks of P -/
def Rw (enc : α → List Value) (sz : Nat) (P : Nat → Prop) (w : World) (v : Value) (xs : List α) : Prop :=
  ∃ (a : Option Addr) (cap : Nat), v = .slice a xs.length cap ∧ xs.length ≤ cap ∧ cap ≤ maxLen ∧ (a = none → cap = 0) ∧
    (0 < xs.length → ∃ b off, a = some ⟨b, off, none⟩ ∧ b < w.heap.size ∧ ¬ P b ∧ ∀ (i : Nat) (x : α), xs[i]? = some x → ∀ (j : Nat) (u : Value), (enc x)[j]? = some u → w.cell? ⟨b, off + i * sz + j, none⟩ = some u)
theorem Rw.form (h : Rw enc sz P w v xs) : ∃ a cap, v = .slice a xs.length cap ∧ xs.length ≤ cap ∧ cap ≤ maxLen ∧ (a = none → cap = 0) := by
  obtain ⟨a, cap, h1, h2, h3, h4, -⟩ := h; exact ⟨a, cap, h1, h2, h3, h4⟩
theorem Rw.same (h : Rw enc sz P w v xs) (hs : w.heap.size ≤ w'.heap.size) (hb : ∀ k, k < w.heap.size → ¬ P k → w'.heap[k]? = w.heap[k]?) : Rw enc sz P w' v xs := by
  obtain ⟨a, cap, h1, h2, h3, h4, h5⟩ := h
  refine ⟨a, cap, h1, h2, h3, h4, fun hp => ?_⟩
  obtain ⟨b, off, ha, hlt, hn, hc⟩ := h5 hp
  exact ⟨b, off, ha, Nat.lt_of_lt_of_le hlt hs, hn, fun i x hi j u hu => (World.cell?_of_block (w := w) (a := ⟨b, off + i * sz + j, none⟩) (hb b hlt hn)).trans (hc i x hi j u hu)⟩
theorem Rw.on (h : Rw enc sz P w v xs) (hb : Below w.heap.size w w') : Rw enc sz P w' v xs := h.same hb.size (fun k hk _ => hb.block k hk)
theorem Rw.weak (h : Rw enc sz P w v xs) (hq : ∀ k, k < w.heap.size → Q k → P k) : Rw enc sz Q w v xs := by
  obtain ⟨a, cap, h1, h2, h3, h4, h5⟩ := h
  refine ⟨a, cap, h1, h2, h3, h4, fun hp => ?_⟩
  obtain ⟨b, off, ha, hlt, hn, hc⟩ := h5 hp
  exact ⟨b, off, ha, hlt, fun e => hn (hq b hlt e), hc⟩
theorem Rw.at_ {a : Option Addr} {m cap : Nat} (h : Rw enc sz P w (.slice a m cap) xs) {i : Nat} {x : α} (hi : xs[i]? = some x) : ∃ b off, a = some ⟨b, off, none⟩ ∧ b < w.heap.size ∧ ∀ (j : Nat) (u : Value), (enc x)[j]? = some u → w.cell? ⟨b, off + i * sz + j, none⟩ = some u := by
  obtain ⟨a', cap', hv, h2, h3, h4, h5⟩ := h
  obtain ⟨rfl, rfl, rfl⟩ := Value.slice.inj hv
  have hlt := (List.getElem?_eq_some_iff.1 hi).1
  obtain ⟨b, off, ha, hl, -, hc⟩ := h5 (by omega)
  exact ⟨b, off, ha, hl, hc i x hi⟩
/-- the cells of records, one behind the other -/
def flat (enc : α → List Value) (xs : List α) : List Value := xs.flatMap enc
theorem flat_len (he : ∀ x, (enc x).length = sz) (xs : List α) : (flat enc xs).length = xs.length * sz := by
  induction xs with
  | nil => simp [flat]
  | cons x xs ih =>
    show (enc x ++ flat enc xs).length = _
    rw [List.length_append, he, ih, List.length_cons, Nat.succ_mul]; omega
theorem flat_at (he : ∀ x, (enc x).length = sz) : ∀ (xs : List α) (i : Nat) (x : α), xs[i]? = some x → ∀ j, j < sz → (flat enc xs)[i * sz + j]? = (enc x)[j]? := by
  intro xs
  induction xs with
  | nil => intro i x h; simp at h
  | cons y xs ih =>
    intro i x h j hj
    show (enc y ++ flat enc xs)[i * sz + j]? = _
    cases i with
    | zero =>
      simp at h
      subst h
      rw [Nat.zero_mul, Nat.zero_add, List.getElem?_append_left (by rw [he]; exact hj)]
    | succ i =>
      rw [List.getElem?_append_right (by rw [he, Nat.succ_mul]; omega), he, show (i + 1) * sz + j - sz = i * sz + j by rw [Nat.succ_mul]; omega]
      exact ih i x (by simpa using h) j hj
theorem flat_snoc (xs : List α) (x : α) : flat enc xs ++ enc x = flat enc (xs ++ [x]) := by simp [flat]
theorem rw_of_owned {B : Nat} {e : TypeId} (he : ∀ x, (enc x).length = sz) (h : w.ownsRow B e sz v xs.length (flat enc xs)) (hP : ∀ k, P k → k < B) : Rw enc sz P w v xs := by
  rcases h.2 with ⟨rfl, h0⟩ | ⟨g, cap, cur, rfl, hb, hg, hn, hm, hs, ht⟩
  · exact ⟨none, 0, by rw [h0], by omega, by unfold maxLen; omega, fun _ => rfl, fun hp => by omega⟩
  · refine ⟨some ⟨g, 0, none⟩, cap, rfl, hn, hm, (fun e => by cases e), fun hp => ⟨g, 0, rfl, (Array.getElem?_eq_some_iff.1 hg).1, fun e => by have := hP g e; omega, fun i x hi j u hu => ?_⟩⟩
    have hj := (List.getElem?_eq_some_iff.1 hu).1
    rw [he] at hj
    have hil := (List.getElem?_eq_some_iff.1 hi).1
    have h1 : i * sz + j < xs.length * sz := by
      have : (i + 1) * sz ≤ xs.length * sz := Nat.mul_le_mul_right _ (by omega)
      rw [Nat.succ_mul] at this; omega
    rw [Nat.zero_add, h.cellAt _ h1, flat_at he xs i x hi j hj, hu]
theorem Rw.news {ad : Addr} {m cap : Nat} (he : ∀ x, (enc x).length = sz) (h0 : 0 < sz) (h : Rw enc sz P w (.slice (some ad) m cap) xs) : ∀ (j : Nat) (u : Value), (flat enc xs)[j]? = some u → w.cell? (ad.add j) = some u := by
  intro j u hj
  have hl := (List.getElem?_eq_some_iff.1 hj).1
  rw [flat_len he] at hl
  obtain ⟨a', cap', hv, h2, h3, h4, h5⟩ := h
  obtain ⟨rfl, rfl, rfl⟩ := Value.slice.inj hv
  have hi : j / sz < xs.length := (Nat.div_lt_iff_lt_mul h0).2 hl
  obtain ⟨b, off, ha, hlt, -, hc⟩ := h5 (Nat.lt_of_le_of_lt (Nat.zero_le _) hi)
  obtain rfl := Option.some.inj ha
  have hx : xs[j / sz]? = some xs[j / sz] := List.getElem?_eq_getElem hi
  have hm : j % sz < sz := Nat.mod_lt _ h0
  have e1 : j / sz * sz + j % sz = j := by rw [Nat.mul_comm]; exact Nat.div_add_mod j sz
  have e2 := flat_at he xs (j / sz) _ hx (j % sz) hm
  rw [e1, hj] at e2
  have := hc (j / sz) _ hx (j % sz) u e2.symm
  rw [addr_add, ← e1, ← Nat.add_assoc]; exact this
/-- 'append(T{}, l...)', at a world in which the empty slice's block lies -/
theorem wp_clone {p : Program} {o : Oper} {a : Act} {K : Act → World → Prop} {R : Exit → Act → World → Prop} (s x : Operand) (t e : TypeId) (i : TypeInfo) (z : Value) (bytes : Nat)
    (ho : o.op = .call { callee := .builtin .append, args := #[s, x], argTypes := #[t, t] }) (ht : p.underlying t = some (.slice e)) (hi : p.info? e = some i) (hz : i.zero = some z) (hsize : i.size = sz) (hby : i.bytes = bytes) (hzs : z.cells.size = sz) (h0 : 0 < sz)
    (he : ∀ x, (enc x).length = sz) (B g : Nat) (hB : B ≤ g) (hg : w.heap[g]? = some (.cells #[] e (0, 0)))
    (hs : a.eval s = .slice (some ⟨g, 0, none⟩) 0 0) (hx : a.eval x = v) (hv : Rw enc sz P w v xs) (hfit : xs.length * bytes ≤ 140737488355328)
    (h : ∀ v' w', w'.ownsRow B e sz v' xs.length (flat enc xs) → Below w.heap.size w w' → K (a.put o.dst v') w') : o.wp p a w K R := by
  have hgl := (Array.getElem?_eq_some_iff.1 hg).1
  have hown : w.ownsRow B e sz (.slice (some ⟨g, 0, none⟩) 0 0) 0 [] := ⟨by simp, .inr ⟨g, 0, #[], rfl, hB, hg, Nat.le_refl _, by unfold maxLen; omega, by simp, by simp⟩⟩
  obtain ⟨ao, cap, rfl, q1, q2, q3⟩ := hv.form
  by_cases hn : xs.length = 0
  · obtain rfl : xs = [] := List.eq_nil_of_length_eq_zero hn
    have hK := h (.slice (some ⟨g, 0, none⟩) 0 0) w hown (Below.refl _ _)
    cases ao with
    | none =>
      obtain rfl := q3 rfl
      have hrun := run_append_owned_none (P := p) (w := w) B t o.type e i sz ht hi _ _ _ hown
      unfold Oper.wp
      simp only [List.length_nil] at hx
      simp [execOp, ho, resolve, invoke, builtin, hs, hx, hrun, Result.andThen]
      exact hK
    | some ad =>
      have hrun := run_append_room_cells (P := p) w t o.type e i ht hi g 0 0 0 ad 0 cap [] (by simp) (by simp) (by simp) (Nat.le_refl _) (by simp) (by simp)
      unfold Oper.wp
      simp only [List.length_nil] at hx
      simp [execOp, ho, resolve, invoke, builtin, hs, hx, hrun, Result.andThen]
      exact hK
  · cases ao with
    | none => have := q3 rfl; omega
    | some ad =>
      obtain ⟨v1, w1, hrun, r1, r2⟩ := run_append_arg_grows (P := p) w t o.type e i z sz bytes ht hi hz hsize hby hzs h0 ⟨g, 0, none⟩ 0 0 [] (by simp) (by simp) ad xs.length cap (flat enc xs) (flat_len he xs) (hv.news he h0) (by omega) (by unfold maxLen at q2 ⊢; omega) (by rw [Nat.zero_add]; exact hfit)
      have hb : Below w.heap.size w w1 := ⟨r2.os, r2.tape, r2.output, r2.size, fun k hk => r2.block k hk (by simp)⟩
      unfold Oper.wp
      simp [execOp, ho, resolve, invoke, builtin, hs, hx, hrun, Result.andThen]
      refine h v1 w1 ?_ hb
      have := Joins.ownsRow_le r1 (show B ≤ w.heap.size by omega)
      simpa using this
end
end Go.Proofs.Ytbpjflghkkkenaa.row

/- Circuits: what one is, how it lies in memory, and how an argument is opened. -/
namespace Go.Proofs.Ytbpjflghkkkenaa.row
set_option maxRecDepth 100000
open Go.ChangeShapes Go.WideShapes Go.ChangeAt Go.RowKit
open Go.Proofs.Ytbpjflghkkkenaa.mem (own_on addr_add)
open Go.Proofs.Ytbpjflghkkkenaa.ints (Ints)

abbrev Tri := Int × Int × Int
abbrev Sym := Int × Int × ByteArray
def enc1 (z : Int) : List Value := [.int .i64 z]
def enc3 (t : Tri) : List Value := [.int .i64 t.1, .int .i64 t.2.1, .int .i64 t.2.2]
def encS (s : Sym) : List Value := [.int .u8 s.1, .int .i64 s.2.1, .string s.2.2]
theorem enc1_len (z : Int) : (enc1 z).length = 1 := rfl
theorem enc3_len (t : Tri) : (enc3 t).length = 3 := rfl
theorem encS_len (s : Sym) : (encS s).length = 3 := rfl
def In64 (a : Int) : Prop := -9223372036854775808 ≤ a ∧ a ≤ 9223372036854775807
def In8 (a : Int) : Prop := 0 ≤ a ∧ a ≤ 255
def Fit3 (t : Tri) : Prop := In64 t.1 ∧ In64 t.2.1 ∧ In64 t.2.2
def FitS (s : Sym) : Prop := In8 s.1 ∧ In64 s.2.1 ∧ s.2.2.size ≤ maxLen
/-- a circuit -/
structure CD where
  max : Int
  ins : List Int
  lats : List Tri
  outs : List Int
  bads : List Int
  cons : List Int
  gates : List Tri
  syms : List Sym
  com : ByteArray
/-- where its slices lie -/
structure CF where
  ai : Option Addr
  ci : Nat
  al : Option Addr
  cl : Nat
  ao : Option Addr
  co : Nat
  ab : Option Addr
  cb : Nat
  ac : Option Addr
  cc : Nat
  ag : Option Addr
  cg : Nat
  as_ : Option Addr
  cs : Nat
@[reducible] def ccells (D : CD) (F : CF) : Array Value := #[.int .i64 D.max, .slice F.ai D.ins.length F.ci, .slice F.al D.lats.length F.cl, .slice F.ao D.outs.length F.co, .slice F.ab D.bads.length F.cb, .slice F.ac D.cons.length F.cc, .slice F.ag D.gates.length F.cg, .slice F.as_ D.syms.length F.cs, .string D.com]
@[reducible] def cval (D : CD) (F : CF) : Value := .agg (ccells D F)
/-- a circuit's slices, in none of the blocks of P -/
structure InC (P : Nat → Prop) (w : World) (D : CD) (F : CF) : Prop where
  i : Rw enc1 1 P w (.slice F.ai D.ins.length F.ci) D.ins
  l : Rw enc3 3 P w (.slice F.al D.lats.length F.cl) D.lats
  o : Rw enc1 1 P w (.slice F.ao D.outs.length F.co) D.outs
  b : Rw enc1 1 P w (.slice F.ab D.bads.length F.cb) D.bads
  c : Rw enc1 1 P w (.slice F.ac D.cons.length F.cc) D.cons
  g : Rw enc3 3 P w (.slice F.ag D.gates.length F.cg) D.gates
  s : Rw encS 3 P w (.slice F.as_ D.syms.length F.cs) D.syms
section
variable {P Q : Nat → Prop} {w w' : World} {D : CD} {F : CF}
theorem InC.same (h : InC P w D F) (hs : w.heap.size ≤ w'.heap.size) (hb : ∀ k, k < w.heap.size → ¬ P k → w'.heap[k]? = w.heap[k]?) : InC P w' D F :=
  ⟨h.i.same hs hb, h.l.same hs hb, h.o.same hs hb, h.b.same hs hb, h.c.same hs hb, h.g.same hs hb, h.s.same hs hb⟩
theorem InC.on (h : InC P w D F) (hb : Below w.heap.size w w') : InC P w' D F := h.same hb.size (fun k hk _ => hb.block k hk)
theorem InC.weak (h : InC P w D F) (hq : ∀ k, k < w.heap.size → Q k → P k) : InC Q w D F :=
  ⟨h.i.weak hq, h.l.weak hq, h.o.weak hq, h.b.weak hq, h.c.weak hq, h.g.weak hq, h.s.weak hq⟩
end
/-- ints, read as ever -/
theorem Rw.ints {P : Nat → Prop} {w : World} {v : Value} {zs : List Int} (h : Rw enc1 1 P w v zs) : Ints w v zs := by
  obtain ⟨a, cap, h1, h2, h3, h4, h5⟩ := h
  refine ⟨a, cap, h1, h2, h3, fun hp => ?_⟩
  obtain ⟨b, off, ha, hlt, -, hc⟩ := h5 hp
  refine ⟨b, off, ha, hlt, fun i hi => ?_⟩
  have := hc i zs[i] (List.getElem?_eq_getElem hi) 0 (.int .i64 zs[i]) rfl
  rw [Nat.mul_one, Nat.add_zero] at this
  rw [this]; simp [List.getD, hi]
theorem Rw.at3 {P : Nat → Prop} {w : World} {a : Option Addr} {m cap : Nat} {ts : List Tri} (h : Rw enc3 3 P w (.slice a m cap) ts) {i : Nat} (hi : i < ts.length) : ∃ b off, a = some ⟨b, off, none⟩ ∧ b < w.heap.size ∧
    w.cell? ⟨b, off + i * 3, none⟩ = some (.int .i64 (ts.getD i (0, 0, 0)).1) ∧ w.cell? ⟨b, off + i * 3 + 1, none⟩ = some (.int .i64 (ts.getD i (0, 0, 0)).2.1) ∧ w.cell? ⟨b, off + i * 3 + 2, none⟩ = some (.int .i64 (ts.getD i (0, 0, 0)).2.2) := by
  obtain ⟨b, off, ha, hb, hc⟩ := h.at_ (List.getElem?_eq_getElem hi)
  have e : ts.getD i (0, 0, 0) = ts[i] := by simp [List.getD, hi]
  rw [e]
  exact ⟨b, off, ha, hb, hc 0 _ rfl, hc 1 _ rfl, hc 2 _ rfl⟩
theorem Rw.atS {P : Nat → Prop} {w : World} {a : Option Addr} {m cap : Nat} {ts : List Sym} (h : Rw encS 3 P w (.slice a m cap) ts) {i : Nat} {s : Sym} (hi : ts[i]? = some s) : ∃ b off, a = some ⟨b, off, none⟩ ∧ b < w.heap.size ∧
    w.cell? ⟨b, off + i * 3, none⟩ = some (.int .u8 s.1) ∧ w.cell? ⟨b, off + i * 3 + 1, none⟩ = some (.int .i64 s.2.1) ∧ w.cell? ⟨b, off + i * 3 + 2, none⟩ = some (.string s.2.2) := by
  obtain ⟨b, off, ha, hb, hc⟩ := h.at_ hi
  exact ⟨b, off, ha, hb, hc 0 _ rfl, hc 1 _ rfl, hc 2 _ rfl⟩
/-! ## Arguments, opened -/
theorem i64_read {H : Type} {enc : TypeId × Value → H} {W : World} {fuel : Nat} {cs : List Value} {y : DataW H × List MemPlace} (h : DataW.trod enc Try.prog W 0 (fun _ => true) true fuel 3 cs = some y) : ∃ z, cs = enc1 z ∧ In64 z := by
  obtain ⟨z, e, -, wz⟩ := DataW.trod_int Try.underlying3 h
  have hb := bounds_i64 wz
  exact ⟨z, e, hb.1, hb.2⟩
theorem u8_read {H : Type} {enc : TypeId × Value → H} {W : World} {fuel : Nat} {cs : List Value} {y : DataW H × List MemPlace} (h : DataW.trod enc Try.prog W 0 (fun _ => true) true fuel 5 cs = some y) : ∃ z, cs = [.int .u8 z] ∧ In8 z := by
  obtain ⟨z, e, -, wz⟩ := DataW.trod_int Try.underlying5 h
  have hb : 0 ≤ z ∧ z ≤ 255 := by
    simp only [Lit.wf, Bool.and_eq_true, decide_eq_true_eq] at wz
    have h1 : IntKind.u8.min = 0 := by decide
    have h2 : IntKind.u8.max = 255 := by decide
    omega
  exact ⟨z, e, hb.1, hb.2⟩
theorem cellsI : Try.prog.cellsOf 3 = 1 := by kernel_rfl
theorem cellsB : Try.prog.cellsOf 5 = 1 := by kernel_rfl
theorem cellsS : Try.prog.cellsOf 9 = 1 := by kernel_rfl
theorem cellsLt : Try.prog.cellsOf 45 = 3 := by kernel_rfl
theorem cellsGt : Try.prog.cellsOf 47 = 3 := by kernel_rfl
theorem cellsSy : Try.prog.cellsOf 59 = 3 := by kernel_rfl
theorem cellsC : Try.prog.cellsOf 27 = 9 := by kernel_rfl
theorem cellsSl1 : Try.prog.cellsOf 22 = 1 := by kernel_rfl
theorem cellsSl2 : Try.prog.cellsOf 23 = 1 := by kernel_rfl
theorem cellsSl3 : Try.prog.cellsOf 24 = 1 := by kernel_rfl
theorem cellsSl4 : Try.prog.cellsOf 25 = 1 := by kernel_rfl
theorem latch_read {H : Type} {enc : TypeId × Value → H} {W : World} {fuel : Nat} {cs : List Value} {y : DataW H × List MemPlace} (h : DataW.trod enc Try.prog W 0 (fun _ => true) true fuel 45 cs = some y) : ∃ t, cs = enc3 t ∧ Fit3 t := by
  obtain ⟨xs, k, hk, hxy, hlen, hxl, hfl⟩ := DataW.trod_struct Try.underlying45 h
  rw [cellsLt] at hlen
  match xs, hxl, cs, hlen with
  | [y0, y1, y2], _, [v0, v1, v2], _ =>
    have g0 := hfl 0 _ rfl
    have g1 := hfl 1 _ rfl
    have g2 := hfl 2 _ rfl
    simp [cellsI] at g0 g1 g2
    obtain ⟨z0, e0, w0⟩ := i64_read g0
    obtain ⟨z1, e1, w1⟩ := i64_read g1
    obtain ⟨z2, e2, w2⟩ := i64_read g2
    refine ⟨(z0, z1, z2), ?_, w0, w1, w2⟩
    simp [enc1] at e0 e1 e2
    rw [e0, e1, e2]; rfl
theorem gate_read {H : Type} {enc : TypeId × Value → H} {W : World} {fuel : Nat} {cs : List Value} {y : DataW H × List MemPlace} (h : DataW.trod enc Try.prog W 0 (fun _ => true) true fuel 47 cs = some y) : ∃ t, cs = enc3 t ∧ Fit3 t := by
  obtain ⟨xs, k, hk, hxy, hlen, hxl, hfl⟩ := DataW.trod_struct Try.underlying47 h
  rw [cellsGt] at hlen
  match xs, hxl, cs, hlen with
  | [y0, y1, y2], _, [v0, v1, v2], _ =>
    have g0 := hfl 0 _ rfl
    have g1 := hfl 1 _ rfl
    have g2 := hfl 2 _ rfl
    simp [cellsI] at g0 g1 g2
    obtain ⟨z0, e0, w0⟩ := i64_read g0
    obtain ⟨z1, e1, w1⟩ := i64_read g1
    obtain ⟨z2, e2, w2⟩ := i64_read g2
    refine ⟨(z0, z1, z2), ?_, w0, w1, w2⟩
    simp [enc1] at e0 e1 e2
    rw [e0, e1, e2]; rfl
theorem sym_read {H : Type} {enc : TypeId × Value → H} {W : World} {fuel : Nat} {cs : List Value} {y : DataW H × List MemPlace} (h : DataW.trod enc Try.prog W 0 (fun _ => true) true fuel 59 cs = some y) : ∃ t, cs = encS t ∧ FitS t := by
  obtain ⟨xs, k, hk, hxy, hlen, hxl, hfl⟩ := DataW.trod_struct Try.underlying59 h
  rw [cellsSy] at hlen
  match xs, hxl, cs, hlen with
  | [y0, y1, y2], _, [v0, v1, v2], _ =>
    have g0 := hfl 0 _ rfl
    have g1 := hfl 1 _ rfl
    have g2 := hfl 2 _ rfl
    simp [cellsI, cellsB, cellsS] at g0 g1 g2
    obtain ⟨z0, e0, w0⟩ := u8_read g0
    obtain ⟨z1, e1, w1⟩ := i64_read g1
    obtain ⟨s, e2, -, w2⟩ := DataW.trod_string Try.underlying9 g2
    refine ⟨(z0, z1, s), ?_, w0, w1, w2⟩
    simp [enc1] at e0 e1 e2
    rw [e0, e1, e2]; rfl
/-- the blocks that are not the caller's -/
abbrev NewR (W : World) : Nat → Prop := fun k => W.heap.size ≤ k
theorem rows_open {α : Type} [Inhabited α] {en : α → List Value} {sz : Nat} {Ok : α → Prop} {t e : TypeId} {H : Type} {enc : TypeId × Value → H} {W : World} {fuel : Nat} {v : Value} {y : DataW H × List MemPlace} (ht : Try.prog.underlying t = some (.slice e)) (hc : Try.prog.cellsOf e = sz) (h0 : 0 < sz) (hen : ∀ x, (en x).length = sz)
    (rd : ∀ fuel cs y, DataW.trod enc Try.prog W 0 (fun _ => true) true fuel e cs = some y → ∃ x, cs = en x ∧ Ok x) (h : DataW.trod enc Try.prog W 0 (fun _ => true) true fuel t [v] = some y) :
    ∃ a cap xs, v = .slice a xs.length cap ∧ Rw en sz (NewR W) W v xs ∧ ∀ x ∈ xs, Ok x := by
  rcases Deep.open_slice ht h with ⟨hcs, _⟩ | ⟨x, l, c, m, fu, D, Pl, hcs, _, hl, hm, hmm, _, hx⟩
  · simp at hcs
    subst hcs
    exact ⟨none, 0, [], rfl, ⟨none, 0, rfl, Nat.le_refl _, by unfold maxLen; omega, fun _ => rfl, fun hp => by simp at hp⟩, fun x hx => by simp at hx⟩
  · simp at hcs
    subst hcs
    simp only [if_true] at hmm
    rw [hc] at hx
    by_cases hl0 : 0 < l
    · obtain ⟨b, off, spot⟩ := x
      have h00 : spot = none ∧ b < W.heap.size := by
        obtain ⟨cs', h1, -⟩ := hx 0 (by omega)
        obtain ⟨_, hlen, hcell⟩ := World.cells?_some h1
        have e0 := (hcell 0 h0).trans (List.getElem?_eq_getElem (by rw [hlen]; exact h0))
        have hspot : spot = none := by simpa [Addr.add] using World.cell?_spot e0
        subst hspot
        have := World.block_lt_of_cell? W _ e0
        exact ⟨rfl, by simpa [Addr.add] using this⟩
      obtain ⟨rfl, hlt⟩ := h00
      have each : ∀ i, i < l → ∃ q : α, Ok q ∧ ∀ (j : Nat) (u : Value), (en q)[j]? = some u → W.cell? ⟨b, off + i * sz + j, none⟩ = some u := by
        intro i hi
        obtain ⟨cs', h1, h2⟩ := hx i (by omega)
        obtain ⟨_, hlen, hcell⟩ := World.cells?_some h1
        obtain ⟨q, rfl, hq⟩ := rd _ _ _ h2
        refine ⟨q, hq, fun j u hu => ?_⟩
        have hj := (List.getElem?_eq_some_iff.1 hu).1
        rw [hen] at hj
        have := hcell j hj
        rw [addr_add, addr_add, hu] at this
        exact this
      obtain ⟨q, hq⟩ := Deep.choose_lt each
      have hlen : ((List.range l).map q).length = l := by simp
      refine ⟨some ⟨b, off, none⟩, c, (List.range l).map q, by rw [hlen], ⟨some ⟨b, off, none⟩, c, by rw [hlen], by omega, hm, (fun e => by cases e), fun _ => ⟨b, off, rfl, hlt, by show ¬ W.heap.size ≤ b; omega, fun i x hi j u hu => ?_⟩⟩, fun x hx => ?_⟩
      · have hil := (List.getElem?_eq_some_iff.1 hi).1
        rw [hlen] at hil
        obtain rfl : q i = x := by
          rw [List.getElem?_map, List.getElem?_range hil] at hi; simpa using hi
        exact (hq i hil).2 j u hu
      · obtain ⟨i, hi, rfl⟩ := List.mem_map.1 hx
        exact (hq i (List.mem_range.1 hi)).1
    · obtain rfl : l = 0 := by omega
      exact ⟨some x, c, [], rfl, ⟨some x, c, rfl, by simp, hm, (fun e => by cases e), fun hp => by simp at hp⟩, fun x hx => by simp at hx⟩
/-- what an argument's numbers keep to -/
structure Fits (D : CD) : Prop where
  max : In64 D.max
  i : ∀ z ∈ D.ins, In64 z
  l : ∀ t ∈ D.lats, Fit3 t
  o : ∀ z ∈ D.outs, In64 z
  b : ∀ z ∈ D.bads, In64 z
  c : ∀ z ∈ D.cons, In64 z
  g : ∀ t ∈ D.gates, Fit3 t
  s : ∀ t ∈ D.syms, FitS t
  com : D.com.size ≤ maxLen
theorem circ_open {H : Type} {enc : TypeId × Value → H} {W : World} {base : Nat} {v : Value} {d : DataW H} {p : List MemPlace} (hv : Value.okWide Try.prog W .any base 27 v)
    (h : DataW.Trod enc Try.prog W 0 (fun _ => true) true 27 v d p) : ∃ D F, v = cval D F ∧ InC (NewR W) W D F ∧ Fits D := by
  simp only [Value.okWide, Try.underlying27] at hv
  obtain ⟨cs, rfl, hsz, -⟩ := hv
  obtain ⟨fuel, hf⟩ := h
  obtain ⟨xs, k, hk, hxy, hlen, hxl, hfl⟩ := DataW.trod_struct Try.underlying27 hf
  rw [cellsC] at hsz
  obtain ⟨l, rfl⟩ : ∃ l : List Value, cs = l.toArray := ⟨cs.toList, by simp⟩
  have hl9 : l.length = 9 := by simpa using hsz
  simp only [Value.cells] at hfl
  match xs, hxl, l, hl9 with
  | [y0, y1, y2, y3, y4, y5, y6, y7, y8], _, [v0, v1, v2, v3, v4, v5, v6, v7, v8], _ =>
    have g0 := hfl 0 _ rfl
    have g1 := hfl 1 _ rfl
    have g2 := hfl 2 _ rfl
    have g3 := hfl 3 _ rfl
    have g4 := hfl 4 _ rfl
    have g5 := hfl 5 _ rfl
    have g6 := hfl 6 _ rfl
    have g7 := hfl 7 _ rfl
    have g8 := hfl 8 _ rfl
    simp [cellsI, cellsS, cellsSl1, cellsSl2, cellsSl3, cellsSl4] at g0 g1 g2 g3 g4 g5 g6 g7 g8
    obtain ⟨z0, e0, w0⟩ := i64_read g0
    obtain ⟨s, e8, -, w8⟩ := DataW.trod_string Try.underlying9 g8
    obtain ⟨ai, ci, xi, e1, r1, k1⟩ := rows_open Try.underlying22 cellsI (by omega) enc1_len (fun _ _ _ h => i64_read h) g1
    obtain ⟨al, cl, xl, e2, r2, k2⟩ := rows_open Try.underlying23 cellsLt (by omega) enc3_len (fun _ _ _ h => latch_read h) g2
    obtain ⟨ao, co, xo, e3, r3, k3⟩ := rows_open Try.underlying22 cellsI (by omega) enc1_len (fun _ _ _ h => i64_read h) g3
    obtain ⟨ab, cb, xb, e4, r4, k4⟩ := rows_open Try.underlying22 cellsI (by omega) enc1_len (fun _ _ _ h => i64_read h) g4
    obtain ⟨ac, cc, xc, e5, r5, k5⟩ := rows_open Try.underlying22 cellsI (by omega) enc1_len (fun _ _ _ h => i64_read h) g5
    obtain ⟨ag, cg, xg, e6, r6, k6⟩ := rows_open Try.underlying24 cellsGt (by omega) enc3_len (fun _ _ _ h => gate_read h) g6
    obtain ⟨as_, cs_, xs_, e7, r7, k7⟩ := rows_open Try.underlying25 cellsSy (by omega) encS_len (fun _ _ _ h => sym_read h) g7
    subst e1 e2 e3 e4 e5 e6 e7
    simp [enc1] at e0 e8
    subst e0 e8
    exact ⟨⟨z0, xi, xl, xo, xb, xc, xg, xs_, s⟩, ⟨ai, ci, al, cl, ao, co, ab, cb, ac, cc, ag, cg, as_, cs_⟩, rfl, ⟨r1, r2, r3, r4, r5, r6, r7⟩, ⟨w0, k1, k2, k3, k4, k5, k6, k7, w8⟩⟩
end Go.Proofs.Ytbpjflghkkkenaa.row

/- A region that draws its order, by an invariant: what holds whichever operations have come up. -/
namespace Go.Proofs.Ytbpjflghkkkenaa.rinv
open Go

/-- every operation waits for earlier ones alone -/
def backB (ops : Array Oper) : Bool := (List.range ops.size).all fun i => ((ops[i]?).map fun o => o.after.all fun e => decide (e.on < i)).getD true
theorem backB_spec {ops : Array Oper} (h : backB ops = true) {i : Nat} {o : Oper} (ho : ops[i]? = some o) : ∀ e ∈ o.after, e.on < i := by
  intro e he
  have hi : i < ops.size := (Array.getElem?_eq_some_iff.1 ho).1
  have h1 := List.all_eq_true.1 h i (List.mem_range.2 hi)
  rw [ho] at h1
  simp only [Option.map_some, Option.getD_some, Array.all_eq_true_iff_forall_mem] at h1
  exact of_decide_eq_true (h1 e he)

def upd (f : Nat → Bool) (i : Nat) : Nat → Bool := fun k => f k || k == i
def flags (listed : Array Bool) : Nat → Bool := fun k => listed.getD k false
theorem flags_set {listed : Array Bool} {i : Nat} (h : i < listed.size) : flags (listed.setIfInBounds i true) = upd (flags listed) i := by
  funext k
  unfold flags upd
  by_cases e : i = k
  · subst e; simp [h]
  · rw [getD_set_ne false e]
    have : (k == i) = false := by simpa using fun h => e h.symm
    rw [this, Bool.or_false]

def cnt (g : Nat → Bool) : Nat → Nat
  | 0 => 0
  | n + 1 => cnt g n + if g n then 0 else 1
theorem cnt_ge (g : Nat → Bool) (i : Nat) : ∀ n, n ≤ i → cnt (upd g i) n = cnt g n := by
  intro n
  induction n with
  | zero => intro _; rfl
  | succ n ih =>
    intro h
    have e : upd g i n = g n := by unfold upd; rw [show (n == i) = false by simp; omega, Bool.or_false]
    unfold cnt; rw [ih (by omega), e]
theorem cnt_upd (g : Nat → Bool) (i : Nat) (hg : g i = false) : ∀ n, i < n → cnt (upd g i) n + 1 = cnt g n := by
  intro n
  induction n with
  | zero => intro h; omega
  | succ n ih =>
    intro h
    unfold cnt
    by_cases e : i = n
    · subst e
      have e1 : upd g i i = true := by unfold upd; simp
      rw [cnt_ge g i i (Nat.le_refl _), e1, hg]; simp
    · have e1 : upd g i n = g n := by unfold upd; rw [show (n == i) = false by simp; omega, Bool.or_false]
      rw [e1, ← ih (by omega)]; omega
theorem cnt_zero (g : Nat → Bool) : ∀ n, cnt g n = 0 → ∀ k, k < n → g k = true := by
  intro n
  induction n with
  | zero => intro _ k hk; omega
  | succ n ih =>
    intro h k hk
    unfold cnt at h
    by_cases e : k = n
    · subst e
      cases hg : g k
      · rw [hg] at h; simp at h
      · rfl
    · exact ih (by omega) k (by omega)
theorem cnt_false : ∀ n, cnt (fun _ => false) n = n := by
  intro n
  induction n with
  | zero => rfl
  | succ n ih => unfold cnt; rw [ih]; simp

theorem ready_none {md : Region.Mode} {ops : Array Oper} {listed : Array Bool} (hb : backB ops = true) (hs : listed.size = ops.size) (h : Region.ready md ops listed = []) :
    ∀ k, k < ops.size → flags listed k = true := by
  intro k
  induction k using Nat.strongRecOn with
  | ind k ih =>
    intro hk
    cases hf : flags listed k with
    | true => rfl
    | false =>
      exfalso
      have ho : ops[k]? = some ops[k] := Array.getElem?_eq_getElem hk
      have hm : k ∈ Region.ready md ops listed := by
        rw [mem_ready]
        refine ⟨?_, ops[k], ho, fun e he _ => ?_⟩
        · have hl : k < listed.size := by omega
          unfold flags at hf
          simpa [hl] using hf
        · have := backB_spec hb ho e he
          exact ih e.on this (by omega)
      rw [h] at hm
      cases hm

section
variable {P : Program} {ops : Array Oper} {Q : Exit → Act → World → Prop} {md : Region.Mode}
theorem wpAny_inv (I : (Nat → Bool) → Act → World → Prop) (hb : backB ops = true)
    (step : ∀ (i : Nat), i < ops.size → ∀ (f : Nat → Bool) (a : Act) (w : World), f i = false → (∀ o, ops[i]? = some o → ∀ e ∈ o.after, Region.binds md e = true → f e.on = true) → I f a w → wpOp P ops Q i (I (upd f i)) a w)
    (done : ∀ (f : Nat → Bool) (a : Act) (w : World), (∀ k, k < ops.size → f k = true) → I f a w → Q .normal a w) :
    ∀ (fuel : Nat) (listed : Array Bool) (a : Act) (w : World), listed.size = ops.size → cnt (flags listed) ops.size ≤ fuel → I (flags listed) a w → wpAny P md ops Q fuel listed a w := by
  intro fuel
  induction fuel with
  | zero =>
    intro listed a w hs hc hI
    have hall := cnt_zero (flags listed) ops.size (by omega)
    refine ⟨?_, done _ _ _ hall hI⟩
    cases hr : Region.ready md ops listed with
    | nil => rfl
    | cons x xs =>
      exfalso
      have hm : x ∈ Region.ready md ops listed := by rw [hr]; exact List.mem_cons_self
      obtain ⟨h0, o, ho, -⟩ := mem_ready.1 hm
      have hx : x < ops.size := (Array.getElem?_eq_some_iff.1 ho).1
      have h1 := hall x hx
      unfold flags at h1
      have hl : x < listed.size := by omega
      simp [hl] at h0 h1
      rw [h0] at h1; cases h1
  | succ fuel ih =>
    intro listed a w hs hc hI
    refine ⟨fun h => done _ _ _ (ready_none hb hs h) hI, fun i hi => ?_⟩
    obtain ⟨h0, o, ho, hall⟩ := mem_ready.1 hi
    have hlt : i < ops.size := (Array.getElem?_eq_some_iff.1 ho).1
    have hl : i < listed.size := by omega
    have hf : flags listed i = false := by unfold flags; simpa [hl] using h0
    refine wpOp_mono (fun a' w' h => ?_) (step i hlt (flags listed) a w hf (fun o' ho' e he hb' => by
      obtain rfl := Option.some.inj (ho.symm.trans ho'); exact hall e he hb') hI)
    refine ih (listed.setIfInBounds i true) a' w' (by simpa using hs) ?_ (by rw [flags_set hl]; exact h)
    rw [flags_set hl]
    have := cnt_upd (flags listed) i hf ops.size hlt
    omega

/-- A REGION THAT DRAWS, BY AN INVARIANT -/
theorem wp_region_inv {id : Nat} {a : Act} {w : World} (hm : P.follows .mixedOrders = true) (hb : backB ops = true) (I : (Nat → Bool) → Act → World → Prop)
    (start : I (fun _ => false) a w.drew)
    (step : ∀ (i : Nat), i < ops.size → ∀ (f : Nat → Bool) (a : Act) (w : World), f i = false → (∀ o, ops[i]? = some o → ∀ e ∈ o.after, Region.binds .any e = true → f e.on = true) → I f a w → wpOp P ops Q i (I (upd f i)) a w)
    (done : ∀ (f : Nat → Bool) (a : Act) (w : World), (∀ k, k < ops.size → f k = true) → I f a w → Q .normal a w) : (Code.region id ops true).wp P Q a w := by
  refine wp_region_any hm ?_
  have hfl : flags (Array.replicate ops.size false) = fun _ => false := by
    funext k
    unfold flags
    by_cases hk : k < ops.size
    · simp [hk]
    · simp [hk]
  exact wpAny_inv I hb step done ops.size _ a w.drew (by simp) (by rw [hfl, cnt_false]; exact Nat.le_refl _) (by rw [hfl]; exact start)

/-- the operations for which number i waits -/
def waits (ops : Array Oper) (i : Nat) : List Nat := ((ops[i]?).map fun o => (o.after.toList.filter (Region.binds .any)).map (·.on)).getD []
theorem waits_of {i : Nat} {f : Nat → Bool} (h : ∀ o, ops[i]? = some o → ∀ e ∈ o.after, Region.binds .any e = true → f e.on = true) : (waits ops i).all f = true := by
  unfold waits
  cases ho : ops[i]? with
  | none => rfl
  | some o =>
    simp only [Option.map_some, Option.getD_some, List.all_eq_true, List.mem_map, List.mem_filter]
    rintro k ⟨e, ⟨he, hb⟩, rfl⟩
    exact h o ho e (by simpa using he) hb

/-- an operation without a guard -/
theorem wpOp_of {i : Nat} {o : Oper} {a : Act} {w : World} {K : Act → World → Prop} (ho : ops[i]? = some o) (hg : o.guard = none) (h : ∀ K' : Act → World → Prop, (∀ a w, K a w → K' a w) → o.wp P a w K' Q) : wpOp P ops Q i K a w := by
  unfold wpOp
  rw [ho]
  simp only [Region.wanted, hg, if_true]
  exact .inl (h K fun _ _ h => h)
end
end Go.Proofs.Ytbpjflghkkkenaa.rinv
