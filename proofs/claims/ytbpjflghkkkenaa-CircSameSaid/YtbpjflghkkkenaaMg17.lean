import Derived.Test.YtbpjflghkkkenaaMg16
import Derived.StillTail
import Derived.StillTailTactics
import Derived.Test.YtbpjflghkkkenaaMg14
import Derived.Deep.DeepCutAuto
/- The closures of look. -/
namespace Go.Proofs.Ytbpjflghkkkenaa.row
set_option maxRecDepth 100000
open Go.RowKit
open Go.Proofs.Ytbpjflghkkkenaa.aig (Only)
open Go.Proofs.Ytbpjflghkkkenaa.fns Go.Proofs.Ytbpjflghkkkenaa
open Go.Proofs.Ytbpjflghkkkenaa.ints (retB)

theorem Var_q {l v : Int} (h : litVar l = v) (w : World) : Calls Try.prog 28 #[.int .i64 l] w fun e w' => e = .returned (.int .i64 v) ∧ w' = w := by
  subst h; exact (lits.Var_any l w).mono fun _ _ h => ⟨h.1, h.2.symm⟩
theorem blk_set {w : World} {X : Nat} {x : Value} (h : Blk w X #[x]) (v : Value) : Blk (w.setCell ⟨X, 0, none⟩ v) X #[v] := by
  have := h.put 0 v
  simpa using this
theorem only_set {P : Nat → Prop} {w : World} {X i : Nat} (hP : P X) (v : Value) : Only P w (w.setCell ⟨X, i, none⟩ v) := by
  have k := (Below.refl X w).setCell (p := ⟨X, i, none⟩) (Nat.le_refl _) v
  exact ⟨k.os, k.tape, k.output, k.size, fun j _ hn => Below.heap_setCell w ⟨X, i, none⟩ v j (fun e => hn (by rw [show j = X from e]; exact hP))⟩
/-- the greatest variable so far -/
def maxS : Int → Int → Bool × Int := fun s l => (true, max s (litVar l))
set_option maxHeartbeats 1600000 in
theorem max_acts (L : Nat) : Acts (fun k => k = L) 42 #[.pointer (some ⟨L, 0, none⟩)] (Value.int .i64) (fun s w => Blk w L #[.int .i64 s]) (fun _ => True) maxS := by
  refine ⟨fun s w w' hr hb => hr.on hb, fun _ _ => rfl, fun s x w hr _ => ?_⟩
  show Calls Try.prog 42 #[.int .i64 x, .pointer (some ⟨L, 0, none⟩)] w fun e w' => e = .returned (.bool true) ∧ Blk w' L #[.int .i64 (max s (litVar x))] ∧ Only (fun k => k = L) w w'
  obtain ⟨v, hv⟩ : ∃ v, v = litVar x := ⟨_, rfl⟩
  have c0 : w.drew.cell? ⟨L, 0, none⟩ = some (.int .i64 s) := ((hr.drewN 1).cell 0).1
  have f0 : w.drew.frozen? ⟨L, 0, none⟩ = false := ((hr.drewN 1).cell 0).2
  have hl := (hr.drewN 1).lt
  have HR := Lib.hid (blk_set (hr.drewN 1) (.int .i64 (max s v)))
  have HO : Hid (Only (fun k => k = L) w ((w.drewN 1).setCell ⟨L, 0, none⟩ (.int .i64 (max s v)))) := Lib.hid (only_tr (only_of (Go.Proofs.Ytbpjflghkkkenaa.ints.below_drewN (Below.refl _ _) 1)) (only_set (P := fun k => k = L) rfl _))
  rw [← hv]
  have HV := Lib.hid hv.symm
  clear hr hv
  go_enter Try.func42, Try.ntmps42
  go_upto_region 1 with fail
  refine wp_region_still_tail 4 (by kernel_rfl) (by kernel_rfl) ?_
  simp only [List.take_succ_cons, List.take_zero, List.drop_succ_cons, List.drop_zero]
  generalize hW : ({ heap := w.heap, tape := w.tape, drawn := w.drawn + 1, os := w.os, output := w.output } : World) = W
  have HWD : Hid (w.drew = W) := Lib.hid hW
  have HWD1 : Hid (w.drewN 1 = W) := Lib.hid hW
  replace c0 : W.cell? ⟨L, 0, none⟩ = some (.int .i64 s) := by rw [← hW]; exact c0
  replace f0 : W.frozen? ⟨L, 0, none⟩ = false := by rw [← hW]; exact f0
  replace hl : L < W.heap.size := by rw [← hW]; exact hl
  rw [HWD1.out] at HR HO
  clear hW
  repeat (first | still_step | (refine wpStill_step (fun K hK => ?_); go_simp; refine ⟨_, Var_q HV.out W, hK _ ?_⟩; clear hK K))
  refine wpStill_nil ?_
  go_wp2_with fail
  case inl h =>
    have e : max s v = v := by omega
    rw [e] at HR HO ⊢
    go_ret
    exact ⟨rfl, HR.out, HO.out⟩
  case inr h =>
    have e : max s v = s := by omega
    rw [e] at HR HO ⊢
    go_ret
    exact ⟨rfl, HR.out, HO.out⟩
/-- what is owned: a row of marks, and the variable that holds it -/
structure Ow (O G n : Nat) (s : List Bool) (w : World) : Prop where
  o : Blk w O #[.slice (some ⟨G, 0, none⟩) n n]
  g : Blk w G (tcells s)
  len : s.length = n
  ne : O ≠ G
theorem Ow.on {O G n : Nat} {s : List Bool} {w w' : World} (h : Ow O G n s w) (hb : Below w.heap.size w w') : Ow O G n s w' := ⟨h.o.on hb, h.g.on hb, h.len, h.ne⟩
theorem Ow.at_ {O G n : Nat} {s : List Bool} {w : World} (h : Ow O G n s w) {i : Nat} (hi : i < n) : w.cell? ⟨G, i, none⟩ = some (.bool (s.getD i false)) ∧ w.frozen? ⟨G, i, none⟩ = false :=
  ⟨(h.g.cell i).1.trans (tcells_at (by rw [h.len]; exact hi)), (h.g.cell i).2⟩
theorem Ow.set {O G n : Nat} {s : List Bool} {w : World} (h : Ow O G n s w) (i : Nat) : Ow O G n (s.set i true) (w.setCell ⟨G, i, none⟩ (.bool true)) := by
  refine ⟨h.o.other h.ne _, ?_, by rw [List.length_set]; exact h.len, h.ne⟩
  have := h.g.put i (.bool true)
  rwa [tcells_set] at this
def newS : List Bool → Int → Bool × List Bool := fun s l => (!s.getD (litVar l).toNat false, s.set (litVar l).toNat true)
def VarIn (n : Nat) (l : Int) : Prop := 0 ≤ litVar l ∧ litVar l < (n : Int)
set_option maxHeartbeats 1600000 in
theorem new_acts (O G n : Nat) : Acts (fun k => k = G) 43 #[.pointer (some ⟨O, 0, none⟩)] (Value.int .i64) (Ow O G n) (VarIn n) newS := by
  refine ⟨fun s w w' hr hb => hr.on hb, fun _ _ => rfl, fun s x w hr hx => ?_⟩
  show Calls Try.prog 43 #[.int .i64 x, .pointer (some ⟨O, 0, none⟩)] w fun e w' => e = .returned (.bool (!s.getD (litVar x).toNat false)) ∧ Ow O G n (s.set (litVar x).toNat true) w' ∧ Only (fun k => k = G) w w'
  obtain ⟨h0, h1⟩ := hx
  obtain ⟨v, hv⟩ : ∃ v : Nat, litVar x = (v : Int) := ⟨(litVar x).toNat, by omega⟩
  rw [hv, Int.toNat_natCast]
  have hvn : v < n := by omega
  have HV := Lib.hid hv
  have HR := Lib.hid hr
  obtain ⟨b, hb⟩ : ∃ b, b = s.getD v false := ⟨_, rfl⟩
  have hg0 := (hr.at_ hvn).1
  rw [← hb] at hg0 ⊢
  have c0 : w.cell? ⟨O, 0, none⟩ = some (.slice (some ⟨G, 0, none⟩) n n) := (hr.o.cell 0).1
  have d1 : (v : Int) < (n : Int) := by omega
  have d2 : 0 ≤ (v : Int) := by omega
  have d3 : v < n := hvn
  have lO := hr.o.lt
  have lG := hr.g.lt
  clear hv hr h0 h1 hb hvn
  go_enter Try.func43, Try.ntmps43
  go_upto_region 1 with fail
  go_cut [4] (fun u wx => u = .bool b ∧ Hid (∃ q, wx = w.drewN q))
  case first =>
    go_quiet ((first | (go_at_call 28; exact Calls.quiet_of_same (Var_q HV.out _)) | fail))
    go_wp2_with fail
    go_meet
    exact ⟨rfl, Lib.hid ⟨_, rfl⟩⟩
  case rest =>
    obtain ⟨rfl, HQ⟩ := hcut
    obtain ⟨wo, rfl⟩ : ∃ wo : World, wo = wc := ⟨_, rfl⟩
    obtain ⟨q, hq⟩ := HQ.out
    have hbq : Below w.heap.size w wo := by rw [hq]; exact Go.Proofs.Ytbpjflghkkkenaa.ints.below_drewN (Below.refl _ _) q
    have R1 : Ow O G n s (wo.drewN 1) := (HR.out.on hbq).on (Go.Proofs.Ytbpjflghkkkenaa.ints.below_drewN (Below.refl _ _) 1)
    have z0 : wo.drew.cell? ⟨O, 0, none⟩ = some (.slice (some ⟨G, 0, none⟩) n n) := (R1.o.cell 0).1
    have z1 := (R1.at_ d3).1
    have z2 := (R1.at_ d3).2
    have zO := R1.o.lt
    have zG := R1.g.lt
    have HF := Lib.hid (R1.set v)
    have HFO : Hid (Only (fun k => k = G) w ((wo.drewN 1).setCell ⟨G, v, none⟩ (.bool true))) := Lib.hid (only_tr (only_of (hbq.trans ((Go.Proofs.Ytbpjflghkkkenaa.ints.below_drewN (Below.refl _ _) 1).mono hbq.size))) (only_set (P := fun k => k = G) rfl _))
    clear hq hbq HQ R1 hg0 c0 lO lG
    go_upto_region 2 with fail
    refine wp_region_still_tail 4 (by kernel_rfl) (by kernel_rfl) ?_
    simp only [List.take_succ_cons, List.take_zero, List.drop_succ_cons, List.drop_zero]
    generalize hW : ({ heap := wo.heap, tape := wo.tape, drawn := wo.drawn + 1, os := wo.os, output := wo.output } : World) = W
    have HWD1 : Hid (wo.drewN 1 = W) := Lib.hid hW
    replace z0 : W.cell? ⟨O, 0, none⟩ = some (.slice (some ⟨G, 0, none⟩) n n) := by rw [← hW]; exact z0
    replace z1 : W.cell? ⟨G, v, none⟩ = some (.bool (s.getD v false)) := by rw [← hW]; exact z1
    replace z2 : W.frozen? ⟨G, v, none⟩ = false := by rw [← hW]; exact z2
    rw [HWD1.out] at HF HFO zO zG
    clear hW
    repeat (first | still_step | (refine wpStill_step (fun K hK => ?_); go_simp; refine ⟨_, Var_q HV.out W, hK _ ?_⟩; clear hK K))
    refine wpStill_nil ?_
    go_wp2_with fail
    go_ret
    exact ⟨rfl, HF.out, HFO.out⟩
/-- the variables, the row of marks, all of it fixed -/
def lookR (L O G n : Nat) (last : Nat) (s : List Bool) (_ : Unit) (w : World) : Prop := Blk w L #[.int .i64 (last : Int)] ∧ Ow O G n s w
def isB (last : Nat) (s : List Bool) (l : Int) : Bool := decide (litVar l ≤ (last : Int)) && s.getD (litVar l).toNat false
set_option maxHeartbeats 1600000 in
theorem own_acts (P : Nat → Prop) (L O G n last : Nat) (s : List Bool) (hl : last + 1 = n) : Acts P 44 #[.pointer (some ⟨L, 0, none⟩), .pointer (some ⟨O, 0, none⟩)] (Value.int .i64) (lookR L O G n last s) (fun l => 0 ≤ litVar l) (pureS (isB last s)) := by
  refine ⟨fun _ w w' hr hb => ⟨hr.1.on hb, hr.2.on hb⟩, fun _ _ => rfl, fun _ x w hr hx => ?_⟩
  show Calls Try.prog 44 #[.int .i64 x, .pointer (some ⟨L, 0, none⟩), .pointer (some ⟨O, 0, none⟩)] w fun e w' => e = .returned (.bool (isB last s x)) ∧ lookR L O G n last s () w' ∧ Only P w w'
  obtain ⟨v, hv⟩ : ∃ v : Nat, litVar x = (v : Int) := ⟨(litVar x).toNat, by have : 0 ≤ litVar x := hx; omega⟩
  have hdef : isB last s x = (decide ((v : Int) ≤ (last : Int)) && s.getD v false) := by unfold isB; rw [hv, Int.toNat_natCast]
  have HV := Lib.hid hv
  have c0 : w.cell? ⟨L, 0, none⟩ = some (.int .i64 (last : Int)) := (hr.1.cell 0).1
  have c1 : w.cell? ⟨O, 0, none⟩ = some (.slice (some ⟨G, 0, none⟩) n n) := (hr.2.o.cell 0).1
  have hb1 : ∀ q, Below w.heap.size w (w.drewN q) := fun q => Go.Proofs.Ytbpjflghkkkenaa.ints.below_drewN (Below.refl _ _) q
  have HR : Hid (∀ q, lookR L O G n last s () (w.drewN q) ∧ Only P w (w.drewN q)) := Lib.hid (fun q => ⟨⟨hr.1.on (hb1 q), hr.2.on (hb1 q)⟩, only_of (hb1 q)⟩)
  have l0 := hr.1.lt
  have l1 := hr.2.o.lt
  have l2 := hr.2.g.lt
  have d0 : 0 ≤ (v : Int) := by omega
  by_cases hle : v ≤ last
  · have hc := (hr.2.at_ (show v < n by omega)).1
    obtain ⟨b, hb⟩ : ∃ b, b = s.getD v false := ⟨_, rfl⟩
    rw [← hb] at hc
    have d1 : decide (v ≤ last) = true := by simpa using hle
    have d3 : decide ((v : Int) ≤ (last : Int)) = true := by simpa using hle
    have HE : Hid (isB last s x = b) := Lib.hid (by rw [hdef, ← hb, d3]; rfl)
    have d2 : (v : Int) < (n : Int) := by omega
    clear hdef hv hb hb1 hr hx hle
    go_enter Try.func44, Try.ntmps44
    go_wp2_with fail
    go_quiet ((first | (go_at_call 28; exact Calls.quiet_of_same (Var_q HV.out _)) | fail))
    go_wp2_with fail
    go_ret
    rw [HE.out]; exact ⟨rfl, HR.out _⟩
  · have d1 : decide (v ≤ last) = false := by simpa using hle
    have d3 : decide ((v : Int) ≤ (last : Int)) = false := by simpa using hle
    have HE : Hid (isB last s x = false) := Lib.hid (by rw [hdef, d3]; rfl)
    clear hdef hv hb1 hr hx hle
    go_enter Try.func44, Try.ntmps44
    go_wp2_with fail
    go_quiet ((first | (go_at_call 28; exact Calls.quiet_of_same (Var_q HV.out _)) | fail))
    go_wp2_with fail
    go_ret
    rw [HE.out]; exact ⟨rfl, HR.out _⟩
end Go.Proofs.Ytbpjflghkkkenaa.row

/- The sorter in memory: its object, its rows, its queue, the order so far. -/
namespace Go.Proofs.Ytbpjflghkkkenaa.row
set_option maxRecDepth 100000
open Go.RowKit
open Go.Proofs.Ytbpjflghkkkenaa.aig (Only)
open Go.Proofs.Ytbpjflghkkkenaa.heap Go.Proofs.Ytbpjflghkkkenaa.hpf

theorem intA_at {zs : List Int} {i : Nat} (h : i < zs.length) (d : Int) : (intA zs)[i]? = some (.int .i64 (zs.getD i d)) := by
  unfold intA
  rw [List.getElem?_toArray, List.getElem?_map, List.getElem?_eq_getElem h]
  simp [List.getD, h]
theorem intA_set (zs : List Int) (i : Nat) (x : Int) : (intA zs).setIfInBounds i (.int .i64 x) = intA (zs.set i x) := by
  unfold intA
  rw [List.setIfInBounds_toArray, ← List.map_set]
/-- where a sorter lies -/
structure SP where
  W : Nat
  Z : Nat
  bo : Nat
  bh : Nat
  bn : Nat
  bq : Nat
  cap : Nat
  g : Nat
  s : Nat
  p : Nat
  A : Nat
  B : Nat
  V : Nat
  ga : Option Addr
  gc : Nat
@[reducible] def SP.cells (K : SP) (n : Nat) (ov : Value) : Array Value := #[.slice K.ga n K.gc, .slice (some ⟨K.bo, 0, none⟩) K.V K.V, .slice (some ⟨K.bh, 0, none⟩) n n, .slice (some ⟨K.bn, 0, none⟩) n n, .slice (some ⟨K.bq, 0, none⟩) 1 K.cap, ov]
/-- its fixed blocks -/
def SP.F (K : SP) (k : Nat) : Prop := k = K.Z ∨ k = K.bo ∨ k = K.bh ∨ k = K.bn
structure So (K : SP) (gs : List Tri) (w : World) (tv ov : Value) (op heads next : List Int) (P T : List Nat) (L : List Int) : Prop where
  obj : Blk w K.Z (K.cells gs.length ov)
  o : Blk w K.bo (intA op)
  h : Blk w K.bh (intA heads)
  n : Blk w K.bn (intA next)
  q : Qs K.A K.B w K.bq K.g K.s K.p tv gs.length P T
  ord : w.ownsRow K.W 3 1 ov L.length (L.map (Value.int .i64))
  gts : Rw enc3 3 (fun k => K.W ≤ k) w (.slice K.ga gs.length K.gc) gs
  fn : K.Z ≠ K.bo ∧ K.Z ≠ K.bh ∧ K.Z ≠ K.bn ∧ K.bo ≠ K.bh ∧ K.bo ≠ K.bn ∧ K.bh ≠ K.bn
  qn : ∀ k, QB K.bq K.g K.s K.p tv k → ¬ K.F k ∧ K.W ≤ k
  on_ : ∀ k, ov.ownBlock = some k → ¬ K.F k ∧ ¬ QB K.bq K.g K.s K.p tv k
  low : K.W ≤ K.Z ∧ K.W ≤ K.bo ∧ K.W ≤ K.bh ∧ K.W ≤ K.bn ∧ 1 ≤ K.cap ∧ K.cap ≤ maxLen
section
variable {K : SP} {gs : List Tri} {w w' : World} {tv ov : Value} {op heads next : List Int} {P T : List Nat} {L : List Int}
theorem own_only {Q : Nat → Prop} {B m : Nat} {e : TypeId} {v : Value} {xs : List Value} (h : w.ownsRow B e 1 v m xs) (hq : ∀ k, v.ownBlock = some k → ¬ Q k) (o : Only Q w w') : w'.ownsRow B e 1 v m xs := by
  refine ⟨h.1, ?_⟩
  rcases h.2 with ⟨e1, e2⟩ | ⟨g', cap, cur, rfl, h1, h2, h3⟩
  · exact .inl ⟨e1, e2⟩
  · exact .inr ⟨g', cap, cur, rfl, h1, (o.block g' (Array.getElem?_eq_some_iff.1 h2).1 (hq g' rfl)).trans h2, h3⟩
theorem So.lt (h : So K gs w tv ov op heads next P T L) : K.Z < w.heap.size ∧ K.bo < w.heap.size ∧ K.bh < w.heap.size ∧ K.bn < w.heap.size ∧ K.W ≤ w.heap.size := by
  have a := h.obj.lt; have b := h.o.lt; have c := h.h.lt; have d := h.n.lt; have e := h.low
  omega
/-- what writes a block that is the sorter's keeps the rest -/
theorem Blk.one {X Y : Nat} {cs : Array Value} (h : Blk w X cs) (hne : X ≠ Y) (o : Only (fun k => k = Y) w w') : Blk w' X cs := h.only hne o
theorem rw_low {α : Type} {enc : α → List Value} {sz W : Nat} {Q : Nat → Prop} {v : Value} {xs : List α} (h : Rw enc sz (fun k => W ≤ k) w v xs) (hq : ∀ k, Q k → W ≤ k) (o : Only Q w w') : Rw enc sz (fun k => W ≤ k) w' v xs :=
  h.same o.size (fun k hk hn => o.block k hk (fun e => hn (hq k e)))
theorem So.on (h : So K gs w tv ov op heads next P T L) (hb : Below w.heap.size w w') : So K gs w' tv ov op heads next P T L :=
  ⟨h.obj.on hb, h.o.on hb, h.h.on hb, h.n.on hb, h.q.on hb, own_only (Q := fun _ => False) h.ord (fun _ _ => id) (only_of hb), h.gts.on hb, h.fn, h.qn, h.on_, h.low⟩
theorem So.setH (h : So K gs w tv ov op heads next P T L) (i : Nat) (x : Int) : So K gs (w.setCell ⟨K.bh, i, none⟩ (.int .i64 x)) tv ov op (heads.set i x) next P T L := by
  have o : Only (fun k => k = K.bh) w (w.setCell ⟨K.bh, i, none⟩ (.int .i64 x)) := only_set (P := fun k => k = K.bh) rfl _
  obtain ⟨f1, f2, f3, f4, f5, f6⟩ := h.fn
  refine ⟨h.obj.one f2 o, h.o.one f4 o, ?_, h.n.one f6.symm o, h.q.only (fun k hk e => (h.qn k hk).1 (.inr (.inr (.inl e)))) o, own_only h.ord (fun k hk e => (h.on_ k hk).1 (.inr (.inr (.inl e)))) o, rw_low h.gts (fun k e => by rw [e]; exact h.low.2.2.1) o, h.fn, h.qn, h.on_, h.low⟩
  have := h.h.put i (.int .i64 x)
  rwa [intA_set] at this
theorem So.setN (h : So K gs w tv ov op heads next P T L) (i : Nat) (x : Int) : So K gs (w.setCell ⟨K.bn, i, none⟩ (.int .i64 x)) tv ov op heads (next.set i x) P T L := by
  have o : Only (fun k => k = K.bn) w (w.setCell ⟨K.bn, i, none⟩ (.int .i64 x)) := only_set (P := fun k => k = K.bn) rfl _
  obtain ⟨f1, f2, f3, f4, f5, f6⟩ := h.fn
  refine ⟨h.obj.one f3 o, h.o.one f5 o, h.h.one f6 o, ?_, h.q.only (fun k hk e => (h.qn k hk).1 (.inr (.inr (.inr e)))) o, own_only h.ord (fun k hk e => (h.on_ k hk).1 (.inr (.inr (.inr e)))) o, rw_low h.gts (fun k e => by rw [e]; exact h.low.2.2.2.1) o, h.fn, h.qn, h.on_, h.low⟩
  have := h.n.put i (.int .i64 x)
  rwa [intA_set] at this
theorem So.setO (h : So K gs w tv ov op heads next P T L) (i : Nat) (x : Int) : So K gs (w.setCell ⟨K.bo, i, none⟩ (.int .i64 x)) tv ov (op.set i x) heads next P T L := by
  have o : Only (fun k => k = K.bo) w (w.setCell ⟨K.bo, i, none⟩ (.int .i64 x)) := only_set (P := fun k => k = K.bo) rfl _
  obtain ⟨f1, f2, f3, f4, f5, f6⟩ := h.fn
  refine ⟨h.obj.one f1 o, ?_, h.h.one f4.symm o, h.n.one f5.symm o, h.q.only (fun k hk e => (h.qn k hk).1 (.inr (.inl e))) o, own_only h.ord (fun k hk e => (h.on_ k hk).1 (.inr (.inl e))) o, rw_low h.gts (fun k e => by rw [e]; exact h.low.2.1) o, h.fn, h.qn, h.on_, h.low⟩
  have := h.o.put i (.int .i64 x)
  rwa [intA_set] at this
/-- its heap has been written -/
theorem So.heap (h : So K gs w tv ov op heads next P T L) {tv' : Value} {P' T' : List Nat} (hq : Qs K.A K.B w' K.bq K.g K.s K.p tv' gs.length P' T') (o : Only (HQ K.g K.p tv) w w') (ho : OwnN tv tv' w) : So K gs w' tv' ov op heads next P' T' L := by
  have qb : ∀ k, HQ K.g K.p tv k → QB K.bq K.g K.s K.p tv k := fun k e => .inr (.inr e)
  have nf : ∀ k, K.F k → ¬ HQ K.g K.p tv k := fun k e e2 => (h.qn k (qb k e2)).1 e
  have cv : ∀ k, QB K.bq K.g K.s K.p tv' k → QB K.bq K.g K.s K.p tv k ∨ w.heap.size ≤ k := by
    rintro k (e | e | e | e | e)
    · exact .inl (.inl e)
    · exact .inl (.inr (.inl e))
    · exact .inl (.inr (.inr (.inl e)))
    · exact .inl (.inr (.inr (.inr (.inl e))))
    · exact (ho k e).imp (fun e => .inr (.inr (.inr (.inr e)))) id
  obtain ⟨l1, l2, l3, l4, l5⟩ := h.lt
  refine ⟨h.obj.only (nf _ (.inl rfl)) o, h.o.only (nf _ (.inr (.inl rfl))) o, h.h.only (nf _ (.inr (.inr (.inl rfl)))) o, h.n.only (nf _ (.inr (.inr (.inr rfl)))) o, hq, own_only h.ord (fun k hk e => (h.on_ k hk).2 (qb k e)) o, rw_low h.gts (fun k e => (h.qn k (qb k e)).2) o, h.fn, fun k hk => ?_, fun k hk => ⟨(h.on_ k hk).1, fun e => ?_⟩, h.low⟩
  · rcases cv k hk with e | e
    · exact h.qn k e
    · refine ⟨?_, by omega⟩
      rintro (e2 | e2 | e2 | e2) <;> omega
  · rcases cv k e with e2 | e2
    · exact (h.on_ k hk).2 e2
    · have := (h.ord.lt k hk).2
      omega
theorem So.cells (h : So K gs w tv ov op heads next P T L) : w.cell? ⟨K.Z, 0, none⟩ = some (.slice K.ga gs.length K.gc) ∧ w.cell? ⟨K.Z, 1, none⟩ = some (.slice (some ⟨K.bo, 0, none⟩) K.V K.V) ∧ w.cell? ⟨K.Z, 2, none⟩ = some (.slice (some ⟨K.bh, 0, none⟩) gs.length gs.length) ∧
    w.cell? ⟨K.Z, 3, none⟩ = some (.slice (some ⟨K.bn, 0, none⟩) gs.length gs.length) ∧ w.cell? ⟨K.Z, 4, none⟩ = some (.slice (some ⟨K.bq, 0, none⟩) 1 K.cap) ∧ w.cell? ⟨K.Z, 5, none⟩ = some ov ∧ w.frozen? ⟨K.Z, 5, none⟩ = false :=
  ⟨(h.obj.cell 0).1, (h.obj.cell 1).1, (h.obj.cell 2).1, (h.obj.cell 3).1, (h.obj.cell 4).1, (h.obj.cell 5).1, (h.obj.cell 5).2⟩
theorem So.atO (h : So K gs w tv ov op heads next P T L) {i : Nat} (hi : i < op.length) : w.cell? ⟨K.bo, i, none⟩ = some (.int .i64 (op.getD i (-1))) ∧ w.frozen? ⟨K.bo, i, none⟩ = false := ⟨(h.o.cell i).1.trans (intA_at hi _), (h.o.cell i).2⟩
theorem So.atH (h : So K gs w tv ov op heads next P T L) {i : Nat} (hi : i < heads.length) : w.cell? ⟨K.bh, i, none⟩ = some (.int .i64 (heads.getD i (-1))) ∧ w.frozen? ⟨K.bh, i, none⟩ = false := ⟨(h.h.cell i).1.trans (intA_at hi _), (h.h.cell i).2⟩
theorem So.atN (h : So K gs w tv ov op heads next P T L) {i : Nat} (hi : i < next.length) : w.cell? ⟨K.bn, i, none⟩ = some (.int .i64 (next.getD i (-1))) ∧ w.frozen? ⟨K.bn, i, none⟩ = false := ⟨(h.n.cell i).1.trans (intA_at hi _), (h.n.cell i).2⟩
end
/-- what settle leaves -/
def Settled (K : SP) (gs : List Tri) (k : Nat) (rest : List Nat) (told : List Bool) (L op next : List Int) (ov : Value) (i : Nat) (w w' : World) : Prop :=
  ∃ tv' heads' next' P' T' C', So K gs w' tv' ov op heads' next' P' T' L ∧ Inv gs K.V k rest told L op heads' next' P' C' ∧ Below K.W w w' ∧ ∀ q, q ≠ i → next'.getD q (-1) = next.getD q (-1)
end Go.Proofs.Ytbpjflghkkkenaa.row

/- settle: a gate waits for another one, or is ready. (Printed by mkZj.py.) -/
namespace Go.Proofs.Ytbpjflghkkkenaa.row
set_option maxRecDepth 100000
open Go.RowKit
open Go.Proofs.Ytbpjflghkkkenaa.aig (Only)
open Go.Proofs.Ytbpjflghkkkenaa.heap Go.Proofs.Ytbpjflghkkkenaa.hpf Go.Proofs.Ytbpjflghkkkenaa.fns
open Go.Proofs.Ytbpjflghkkkenaa.ints (below_drewN)

theorem var_of {l : Int} (h : 0 ≤ l ∧ l ≤ 33554433) : litVar l = l / 2 := var_yes (good_yes h.1 h.2)
set_option maxHeartbeats 6400000 in
theorem settle_any (K : SP) (gs : List Tri) (w : World) (tv ov : Value) (op heads next : List Int) (P T : List Nat) (L : List Int) (k i : Nat) (rest : List Nat) (told : List Bool) (C : Nat → List Nat)
    (h : So K gs w tv ov op heads next P T L) (hI : Inv gs K.V k (i :: rest) told L op heads next P C) (hg : GG gs K.V) (hl : ∀ t ∈ gs, Lit3 t) (hn : gs.length ≤ 1000) (hV : K.V ≤ 100000000) :
    Calls Try.prog 62 #[.pointer (some ⟨K.Z, 0, none⟩), .int .i64 (i : Int)] w fun e w' => e = .returned (.tuple #[]) ∧ Settled K gs k rest told L op next ov i w w' := by
  obtain ⟨hik, hit⟩ := hI.pd i List.mem_cons_self
  have hin : i < gs.length := by have := hI.kn; omega
  obtain ⟨z0, -, -, -, -, -, -⟩ := h.cells
  obtain ⟨ga, off, hga, hgb, g0, g1, g2⟩ := h.gts.at3 hin
  obtain ⟨lZ, -, -, -, lW⟩ := h.lt
  obtain ⟨a, ha⟩ : ∃ a, a = (gs.getD i (0, 0, 0)).2.1 := ⟨_, rfl⟩
  obtain ⟨b, hb⟩ : ∃ b, b = (gs.getD i (0, 0, 0)).2.2 := ⟨_, rfl⟩
  obtain ⟨c, hc⟩ : ∃ c, c = (gs.getD i (0, 0, 0)).1 := ⟨_, rfl⟩
  obtain ⟨-, hla, hlb⟩ := lit3_at hl i
  have ga1 := hg.a i hin
  have gb1 := hg.b i hin
  unfold vA at ga1
  unfold vB at gb1
  rw [← ha] at g1 hla ga1
  rw [← hb] at g2 hlb gb1
  rw [← hc] at g0
  obtain ⟨va, hva⟩ : ∃ va : Nat, a / 2 = (va : Int) := ⟨(a / 2).toNat, by omega⟩
  obtain ⟨vb, hvb⟩ : ∃ vb : Nat, b / 2 = (vb : Int) := ⟨(b / 2).toNat, by omega⟩
  have HVA : Hid (litVar a = (va : Int) ∧ vA gs i = (va : Int) ∧ va < K.V) := Lib.hid ⟨by rw [var_of hla, hva], by unfold vA; rw [← ha, hva], by omega⟩
  have HVB : Hid (litVar b = (vb : Int) ∧ vB gs i = (vb : Int) ∧ vb < K.V) := Lib.hid ⟨by rw [var_of hlb, hvb], by unfold vB; rw [← hb, hvb], by omega⟩
  have HH := Lib.hid h
  have HI := Lib.hid hI
  have HG := Lib.hid hg
  have HZ0 := Lib.hid z0
  have hx : K.ga = some ⟨ga, off, none⟩ := hga
  have HL5 := Lib.hid (show K.V ≤ 100000000 from hV)
  have i1 : (i : Int) < (gs.length : Int) := by omega
  have i2 : 0 ≤ (i : Int) := by omega
  have hBox : Below w.heap.size w (w.alloc (.cells #[.int .i64 c, .int .i64 a, .int .i64 b] 47)) := (Below.refl _ _).alloc (Nat.le_refl _) _
  have HS1 := Lib.hid (h.on hBox)
  have HB1 : Hid (Below K.W w (w.alloc (.cells #[.int .i64 c, .int .i64 a, .int .i64 b] 47))) := Lib.hid (hBox.mono lW)
  rw [hx] at z0
  clear h hI hg hl ha hb hc ga1 gb1 hva hvb hga hx hBox hla hlb hik hit
  go_enter Try.func62, Try.ntmps62
  go_wp2_with fail
  obtain ⟨v, hv⟩ : ∃ v, v = w.alloc (.cells #[.int .i64 c, .int .i64 a, .int .i64 b] 47) := ⟨_, rfl⟩
  rw [← hv] at HS1 HB1 ⊢
  have x0 : ∀ u : World, (Instr.index 95 (.agg #[.int .i64 a, .int .i64 b]) (.int .i64 0)).run Try.prog u = .ok (.int .i64 a) u := fun _ => rfl
  have x1 : ∀ u : World, (Instr.index 95 (.agg #[.int .i64 a, .int .i64 b]) (.int .i64 1)).run Try.prog u = .ok (.int .i64 b) u := fun _ => rfl
  clear hv z0 g0 g1 g2 hgb lZ
  go_loopw [20] (fun ix wr => ∃ q : Nat, q ≤ 2 ∧ ix = .int .i64 q ∧ Hid (1 ≤ q → ¬ Wt gs told (vA gs i)) ∧ Hid (2 ≤ q → ¬ Wt gs told (vB gs i)) ∧ Hid (So K gs wr tv ov op heads next P T L) ∧ Hid (Below K.W w wr)) (fun ix _ => 2 - (intOf ix).toNat)
  case atStart => exact ⟨0, by omega, rfl, Lib.hid (fun h => by omega), Lib.hid (fun h => by omega), HS1, HB1⟩
  case round =>
    clear HS1 HB1
    obtain ⟨q, hq, rfl, HQ1, HQ2, HS, HB⟩ := hrel
    obtain ⟨wo, rfl⟩ : ∃ wo : World, wo = wr := ⟨_, rfl⟩
    obtain ⟨z0, z1, z2, z3, z4, z5, -⟩ := HS.out.cells
    obtain ⟨lZ, lo, lh, ln, -⟩ := HS.out.lt
    have hlo := HI.out.ol
    have hlh := HI.out.hl
    have hln := HI.out.nl
    by_cases e0 : q = 0
    · subst e0
      have hvlt := HVA.out.2.2
      obtain ⟨y0, y1⟩ := HS.out.atO (i := va) (by rw [hlo]; exact hvlt)
      have j1 : (va : Int) < (K.V : Int) := by omega
      have j2 : 0 ≤ (va : Int) := by omega
      have HVV := Lib.hid HVA.out.1
      obtain ⟨on, hon⟩ : ∃ on, on = op.getD va (-1) := ⟨_, rfl⟩
      have HON := Lib.hid hon
      rw [← hon] at y0
      clear hon y1
      go_upto_region 4 with fail
      go_cut [7] (fun u wx => u = .int .i64 on ∧ Hid (∃ q, wx = wo.drewN q))
      case first =>
        go_quiet ((first | (go_at_call 28; exact Calls.quiet_of_same (Var_q HVV.out _)) | fail))
        go_wp2_with fail
        go_meet
        exact ⟨rfl, Lib.hid ⟨_, rfl⟩⟩
      case rest =>
        clear y0 z0 z1 z2 z3 z4 z5
        obtain ⟨rfl, HW⟩ := hcut
        obtain ⟨wi, rfl⟩ : ∃ wi : World, wi = wc := ⟨_, rfl⟩
        have HS4 : Hid (So K gs wi tv ov op heads next P T L) := Lib.hid (by obtain ⟨d, e⟩ := HW.out; rw [e]; exact HS.out.on (below_drewN (Below.refl _ _) d))
        have HB4 : Hid (Below K.W w wi) := Lib.hid (by obtain ⟨d, e⟩ := HW.out; rw [e]; exact below_drewN HB.out d)
        clear HW lZ lo lh ln
        by_cases hm : on = -1
        · have t1 : (on != -1) = false := by simp [hm]
          have t2 : (on == -1) = true := by simp [hm]
          have HNO : Hid (¬ Wt gs told (vA gs i)) := Lib.hid (by
            rcases HI.out.opn va hvlt with ⟨-, e⟩ | ⟨p, -, e, -, -⟩
            · rw [HVA.out.2.1]; exact e
            · rw [← HON.out, hm] at e; omega)
          clear hm
          go_wp2_with fail
          go_roundw
          case rel => exact ⟨1, by omega, by go_num, Lib.hid (fun _ => HNO.out), Lib.hid (fun h => by omega), HS4, HB4⟩
          case measure => simp [intOf]
        · have t1 : (on != -1) = true := by simp [hm]
          have t2 : (on == -1) = false := by simp [hm]
          have HO : ∃ p : Nat, p < gs.length ∧ on = (p : Int) ∧ told.getD p false = false ∧ vL gs p = vA gs i := by
            rcases HI.out.opn va hvlt with ⟨e, -⟩ | ⟨p, e1, e2, e3, e4⟩
            · exact absurd (by rw [HON.out, e]) hm
            · exact ⟨p, e1, by rw [HON.out, e2], e3, by rw [e4, HVA.out.2.1]⟩
          obtain ⟨p, hp1, rfl, hp3, hp4⟩ := HO
          have HP := Lib.hid (And.intro hp1 (And.intro hp3 hp4))
          clear hm hp3 hp4 HON
          -- next[i] = heads[p]
          have s5 := HS4.out.on ((Below.refl wi.heap.size wi).drew)
          obtain ⟨z0, z1, z2, z3, z4, z5, -⟩ := s5.cells
          obtain ⟨lZ, lo, lh, ln, -⟩ := s5.lt
          obtain ⟨y0, -⟩ := s5.atH (i := p) (by rw [hlh]; exact hp1)
          obtain ⟨y1, y2⟩ := s5.atN (i := i) (by rw [hln]; exact hin)
          have p1 : (p : Int) < (gs.length : Int) := by omega
          have p2 : 0 ≤ (p : Int) := by omega
          have HS6 := Lib.hid (s5.setN i (heads.getD p (-1)))
          have HB6 : Hid (Below K.W w (wi.drew.setCell ⟨K.bn, i, none⟩ (.int .i64 (heads.getD p (-1))))) := Lib.hid (HB4.out.drew.setCell (p := ⟨K.bn, i, none⟩) (by exact s5.low.2.2.2.1) _)
          obtain ⟨hh, hhh⟩ : ∃ hh, hh = heads.getD p (-1) := ⟨_, rfl⟩
          have HHH := Lib.hid hhh
          rw [← hhh] at y0 HS6 HB6
          obtain ⟨nn, hnn⟩ : ∃ nn, nn = next.getD i (-1) := ⟨_, rfl⟩
          rw [← hnn] at y1
          clear hhh hnn s5 HS4 HB4
          go_upto_region 6 with fail
          go_cut [] (fun wx => Hid (So K gs wx tv ov op heads (next.set i hh) P T L ∧ Below K.W w wx))
          case first =>
            go_region
            go_wp2_with fail
            go_meet
            exact ⟨HS6.out, HB6.out⟩
          case rest =>
            clear HS6 HB6 y0 y1 y2 z0 z1 z2 z3 z4 z5 lZ lo lh ln
            obtain ⟨s6, b6⟩ := hcut.out
            obtain ⟨wj, rfl⟩ : ∃ wj : World, wj = wc := ⟨_, rfl⟩
            obtain ⟨z0, z1, z2, z3, z4, z5, -⟩ := s6.cells
            obtain ⟨lZ, lo, lh, ln, -⟩ := s6.lt
            obtain ⟨y0, y3⟩ := s6.atH (i := p) (by rw [hlh]; exact hp1)
            have HE : Hid (Settled K gs k rest told L op next ov i w (wj.setCell ⟨K.bh, p, none⟩ (.int .i64 (i : Int)))) := Lib.hid
              ⟨tv, _, _, P, T, _, s6.setH p i, by rw [HHH.out]; exact HI.out.wait HP.out.1 HP.out.2.1 (.inl HP.out.2.2), b6.setCell (p := ⟨K.bh, p, none⟩) (by exact s6.low.2.2.1) _, fun x hx => by rw [getD_setG, if_neg (fun e => hx e.1.symm)]⟩
            clear s6 b6 hcut
            go_wp2_with fail
            refine bodyPost_ret (results_none rfl _ _ _) rfl ?_
            exact ⟨rfl, HE.out⟩
    · by_cases e1 : q = 1
      · subst e1
        have hvlt := HVB.out.2.2
        obtain ⟨y0, y1⟩ := HS.out.atO (i := vb) (by rw [hlo]; exact hvlt)
        have HQ1b : Hid (1 ≤ 2 → ¬ Wt gs told (vA gs i)) := Lib.hid (fun _ => HQ1.out (by omega))
        have j1 : (vb : Int) < (K.V : Int) := by omega
        have j2 : 0 ≤ (vb : Int) := by omega
        have HVV := Lib.hid HVB.out.1
        obtain ⟨on, hon⟩ : ∃ on, on = op.getD vb (-1) := ⟨_, rfl⟩
        have HON := Lib.hid hon
        rw [← hon] at y0
        clear hon y1
        go_upto_region 4 with fail
        go_cut [7] (fun u wx => u = .int .i64 on ∧ Hid (∃ q, wx = wo.drewN q))
        case first =>
          go_quiet ((first | (go_at_call 28; exact Calls.quiet_of_same (Var_q HVV.out _)) | fail))
          go_wp2_with fail
          go_meet
          exact ⟨rfl, Lib.hid ⟨_, rfl⟩⟩
        case rest =>
          clear y0 z0 z1 z2 z3 z4 z5
          obtain ⟨rfl, HW⟩ := hcut
          obtain ⟨wi, rfl⟩ : ∃ wi : World, wi = wc := ⟨_, rfl⟩
          have HS4 : Hid (So K gs wi tv ov op heads next P T L) := Lib.hid (by obtain ⟨d, e⟩ := HW.out; rw [e]; exact HS.out.on (below_drewN (Below.refl _ _) d))
          have HB4 : Hid (Below K.W w wi) := Lib.hid (by obtain ⟨d, e⟩ := HW.out; rw [e]; exact below_drewN HB.out d)
          clear HW lZ lo lh ln
          by_cases hm : on = -1
          · have t1 : (on != -1) = false := by simp [hm]
            have t2 : (on == -1) = true := by simp [hm]
            have HNO : Hid (¬ Wt gs told (vB gs i)) := Lib.hid (by
              rcases HI.out.opn vb hvlt with ⟨-, e⟩ | ⟨p, -, e, -, -⟩
              · rw [HVB.out.2.1]; exact e
              · rw [← HON.out, hm] at e; omega)
            clear hm
            go_wp2_with fail
            go_roundw
            case rel => exact ⟨2, by omega, by go_num, HQ1b, Lib.hid (fun _ => HNO.out), HS4, HB4⟩
            case measure => simp [intOf]
          · have t1 : (on != -1) = true := by simp [hm]
            have t2 : (on == -1) = false := by simp [hm]
            have HO : ∃ p : Nat, p < gs.length ∧ on = (p : Int) ∧ told.getD p false = false ∧ vL gs p = vB gs i := by
              rcases HI.out.opn vb hvlt with ⟨e, -⟩ | ⟨p, e1, e2, e3, e4⟩
              · exact absurd (by rw [HON.out, e]) hm
              · exact ⟨p, e1, by rw [HON.out, e2], e3, by rw [e4, HVB.out.2.1]⟩
            obtain ⟨p, hp1, rfl, hp3, hp4⟩ := HO
            have HP := Lib.hid (And.intro hp1 (And.intro hp3 hp4))
            clear hm hp3 hp4 HON
            -- next[i] = heads[p]
            have s5 := HS4.out.on ((Below.refl wi.heap.size wi).drew)
            obtain ⟨z0, z1, z2, z3, z4, z5, -⟩ := s5.cells
            obtain ⟨lZ, lo, lh, ln, -⟩ := s5.lt
            obtain ⟨y0, -⟩ := s5.atH (i := p) (by rw [hlh]; exact hp1)
            obtain ⟨y1, y2⟩ := s5.atN (i := i) (by rw [hln]; exact hin)
            have p1 : (p : Int) < (gs.length : Int) := by omega
            have p2 : 0 ≤ (p : Int) := by omega
            have HS6 := Lib.hid (s5.setN i (heads.getD p (-1)))
            have HB6 : Hid (Below K.W w (wi.drew.setCell ⟨K.bn, i, none⟩ (.int .i64 (heads.getD p (-1))))) := Lib.hid (HB4.out.drew.setCell (p := ⟨K.bn, i, none⟩) (by exact s5.low.2.2.2.1) _)
            obtain ⟨hh, hhh⟩ : ∃ hh, hh = heads.getD p (-1) := ⟨_, rfl⟩
            have HHH := Lib.hid hhh
            rw [← hhh] at y0 HS6 HB6
            obtain ⟨nn, hnn⟩ : ∃ nn, nn = next.getD i (-1) := ⟨_, rfl⟩
            rw [← hnn] at y1
            clear hhh hnn s5 HS4 HB4
            go_upto_region 6 with fail
            go_cut [] (fun wx => Hid (So K gs wx tv ov op heads (next.set i hh) P T L ∧ Below K.W w wx))
            case first =>
              go_region
              go_wp2_with fail
              go_meet
              exact ⟨HS6.out, HB6.out⟩
            case rest =>
              clear HS6 HB6 y0 y1 y2 z0 z1 z2 z3 z4 z5 lZ lo lh ln
              obtain ⟨s6, b6⟩ := hcut.out
              obtain ⟨wj, rfl⟩ : ∃ wj : World, wj = wc := ⟨_, rfl⟩
              obtain ⟨z0, z1, z2, z3, z4, z5, -⟩ := s6.cells
              obtain ⟨lZ, lo, lh, ln, -⟩ := s6.lt
              obtain ⟨y0, y3⟩ := s6.atH (i := p) (by rw [hlh]; exact hp1)
              have HE : Hid (Settled K gs k rest told L op next ov i w (wj.setCell ⟨K.bh, p, none⟩ (.int .i64 (i : Int)))) := Lib.hid
                ⟨tv, _, _, P, T, _, s6.setH p i, by rw [HHH.out]; exact HI.out.wait HP.out.1 HP.out.2.1 (.inr HP.out.2.2), b6.setCell (p := ⟨K.bh, p, none⟩) (by exact s6.low.2.2.1) _, fun x hx => by rw [getD_setG, if_neg (fun e => hx e.1.symm)]⟩
              clear s6 b6 hcut
              go_wp2_with fail
              refine bodyPost_ret (results_none rfl _ _ _) rfl ?_
              exact ⟨rfl, HE.out⟩
      · obtain rfl : 2 = q := by omega
        have HNA := Lib.hid (HQ1.out (by omega))
        have HNB := Lib.hid (HQ2.out (by omega))
        have h0 : P.getD i 0 = 0 := by
          by_cases e : P.getD i 0 = 0
          · exact e
          · exact absurd List.mem_cons_self (HI.out.hp i e).2.2
        have HP := Lib.hid (put_any K.A K.B K.bq K.cap K.g K.s K.p gs.length i tv P T wo HS.out.q hin h0 hn HS.out.low.2.2.2.2)
        clear h0 hq e0 e1 hlo hlh hln
        go_wp2_with fail
        go_at_call 74; refine HP.out.mono ?_; rintro e w1 ⟨rfl, tv', P', T', k1, k2, k3, k4⟩
        have HE : Hid (Settled K gs k rest told L op next ov i w w1) := Lib.hid ⟨tv', heads, next, P', T', C, HS.out.heap k1 k3 k4, HI.out.ready HNA.out HNB.out (by rw [HS.out.q.ok.wf.len]; exact hin) k2,
          HB.out.trans ⟨k3.os, k3.tape, k3.output, k3.size, fun j hj => k3.block j (by have := HB.out.size; omega) (fun e => by have := (HS.out.qn j (.inr (.inr e))).2; omega)⟩, fun _ _ => rfl⟩
        clear k1 k2 k3 k4
        go_wp2_with fail
        go_end0
        exact ⟨rfl, HE.out⟩
end Go.Proofs.Ytbpjflghkkkenaa.row
