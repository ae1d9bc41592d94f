import Derived.Test.YtbpjflghkkkenaaMg17
import Derived.StillTail
import Derived.StillTailTactics
import Derived.Test.YtbpjflghkkkenaaMg14
import Derived.Below
import Derived.Deep.DeepCutAuto
/- tell: a gate is told, and those that waited for it are settled again. -/
namespace Go.Proofs.Ytbpjflghkkkenaa.row
set_option maxRecDepth 100000
open Go.RowKit
open Go.Proofs.Ytbpjflghkkkenaa.aig (Only)
open Go.Proofs.Ytbpjflghkkkenaa.heap Go.Proofs.Ytbpjflghkkkenaa.hpf Go.Proofs.Ytbpjflghkkkenaa.fns
open Go.Proofs.Ytbpjflghkkkenaa.ints (below_drewN)

/-- a chain, as it lies in memory -/
def ChW (w : World) (bn : Nat) : Value → List Nat → Prop
  | v, [] => v = .int .i64 (-1)
  | v, q :: l => v = .int .i64 (q : Int) ∧ ∃ u, w.cell? ⟨bn, q, none⟩ = some u ∧ ChW w bn u l
theorem chw_one {w : World} {bn : Nat} : ∀ {l l' : List Nat} {v : Value}, ChW w bn v l → ChW w bn v l' → l = l' := by
  intro l
  induction l with
  | nil =>
    intro l' v h h'
    cases l' with
    | nil => rfl
    | cons q l' =>
      have h : v = .int .i64 (-1) := h
      have e := h'.1
      rw [h] at e
      have := (Value.int.inj e).2
      omega
  | cons q l ih =>
    intro l' v h h'
    cases l' with
    | nil =>
      have h' : v = .int .i64 (-1) := h'
      have e := h.1
      rw [h'] at e
      have := (Value.int.inj e).2
      omega
    | cons q' l' =>
      obtain ⟨e, u, c, r⟩ := h
      obtain ⟨e', u', c', r'⟩ := h'
      rw [e] at e'
      have := (Value.int.inj e').2
      obtain rfl : q = q' := by omega
      rw [c] at c'
      obtain rfl := Option.some.inj c'
      rw [ih r r']
open Classical in
noncomputable def lenC (bn : Nat) (v : Value) (w : World) : Nat := if h : ∃ l, ChW w bn v l then h.choose.length else 0
theorem lenC_is {bn : Nat} {v : Value} {w : World} {l : List Nat} (h : ChW w bn v l) : lenC bn v w = l.length := by
  have hx : ∃ l, ChW w bn v l := ⟨l, h⟩
  unfold lenC
  rw [dif_pos hx, chw_one h hx.choose_spec]
theorem Ch.agree {next next' : List Int} : ∀ {l : List Nat} {h : Int}, Ch next h l → (∀ y ∈ l, next'.getD y (-1) = next.getD y (-1)) → Ch next' h l := by
  intro l
  induction l with
  | nil => intro h c _; exact c
  | cons q l ih =>
    intro h c hq
    refine ⟨c.1, ?_⟩
    rw [hq q List.mem_cons_self]
    exact ih c.2 (fun y hy => hq y (List.mem_cons_of_mem _ hy))
section
variable {K : SP} {gs : List Tri} {w w' : World} {tv ov : Value} {op heads next : List Int} {P T : List Nat} {L : List Int}
theorem So.chw (h : So K gs w tv ov op heads next P T L) : ∀ {l : List Nat} {hv : Int}, Ch next hv l → (∀ y ∈ l, y < next.length) → ChW w K.bn (.int .i64 hv) l := by
  intro l
  induction l with
  | nil => intro hv c _; show Value.int .i64 hv = _; rw [show hv = -1 from c]
  | cons q l ih =>
    intro hv c hl
    refine ⟨by rw [c.1], _, (h.atN (hl q List.mem_cons_self)).1, ih c.2 (fun y hy => hl y (List.mem_cons_of_mem _ hy))⟩
/-- the order has grown -/
theorem So.grow (h : So K gs w tv ov op heads next P T L) {v' : Value} {x : Int} (hown : w'.ownsRow K.W 3 1 v' (L ++ [x]).length ((L ++ [x]).map (Value.int .i64))) (hgrow : w.grownBy w' ov.ownBlock) (hn : ∀ k, v'.ownBlock = some k → ov.ownBlock = some k ∨ w.heap.size ≤ k) :
    So K gs (w'.setCell ⟨K.Z, 5, none⟩ v') tv v' op heads next P T (L ++ [x]) := by
  have o1 : Only (fun k => ov.ownBlock = some k) w w' := only_grown (only_refl _ _) hgrow (fun k hk => .inl hk)
  have o2 : Only (fun k => k = K.Z) w' (w'.setCell ⟨K.Z, 5, none⟩ v') := only_set (P := fun k => k = K.Z) rfl _
  obtain ⟨f1, f2, f3, f4, f5, f6⟩ := h.fn
  obtain ⟨l1, l2, l3, l4, l5⟩ := h.lt
  have nv : ∀ k, v'.ownBlock = some k → ¬ K.F k ∧ ¬ QB K.bq K.g K.s K.p tv k := by
    intro k hk
    rcases hn k hk with e | e
    · exact h.on_ k e
    · refine ⟨?_, fun e2 => by have := h.q.lt k e2; omega⟩
      rintro (e2 | e2 | e2 | e2) <;> omega
  have kb : ∀ {X : Nat} {cs : Array Value}, Blk w X cs → K.F X → X ≠ K.Z → Blk (w'.setCell ⟨K.Z, 5, none⟩ v') X cs := fun hb hf hne => (hb.only (fun e => (h.on_ _ e).1 hf) o1).only hne o2
  refine ⟨?_, kb h.o (.inr (.inl rfl)) f1.symm, kb h.h (.inr (.inr (.inl rfl))) f2.symm, kb h.n (.inr (.inr (.inr rfl))) f3.symm, (h.q.only (fun k hk e => (h.on_ k e).2 hk) o1).only (fun k hk e => (h.qn k hk).1 (.inl e)) o2, own_only hown (fun k hk e => (nv k hk).1 (.inl e)) o2, ?_, h.fn, h.qn, nv, h.low⟩
  · have hb := (h.obj.only (fun e => (h.on_ _ e).1 (.inl rfl)) o1).put 5 v'
    have e : (K.cells gs.length ov).setIfInBounds 5 v' = K.cells gs.length v' := by simp [SP.cells]
    rwa [e] at hb
  · exact rw_low (rw_low h.gts (fun k e => (h.ord.lt k e).1) o1) (fun k e => by rw [e]; exact h.low.1) o2
end
/-- what tell leaves -/
def ToldW (K : SP) (gs : List Tri) (k : Nat) (told : List Bool) (L op : List Int) (w w' : World) : Prop :=
  ∃ tv' ov' heads' next' P' T' C', So K gs w' tv' ov' op heads' next' P' T' L ∧ Inv gs K.V k [] told L op heads' next' P' C' ∧ Below K.W w w'
set_option maxHeartbeats 6400000 in
theorem tell_any (K : SP) (gs : List Tri) (w : World) (tv ov : Value) (op heads next : List Int) (P T : List Nat) (L : List Int) (k x : Nat) (l : List Nat) (told : List Bool) (C : Nat → List Nat) (V : Nat) (hVx : vL gs x = (V : Int))
    (h : So K gs w tv ov op heads next P T L) (hI : Inv gs K.V k l told (L ++ [(x : Int)]) (op.set V (-1)) heads next P C) (hc : Ch next (heads.getD x (-1)) l) (hx : x < gs.length)
    (hg : GG gs K.V) (hl : ∀ t ∈ gs, Lit3 t) (hn : gs.length ≤ 1000) (hV : K.V ≤ 100000000) :
    Calls Try.prog 64 #[.pointer (some ⟨K.Z, 0, none⟩), .int .i64 (x : Int)] w fun e w' => e = .returned (.tuple #[]) ∧ ToldW K gs k told (L ++ [(x : Int)]) (op.set V (-1)) w w' := by
  obtain ⟨i0, hi, hz0, hz1, hz2⟩ := info_parts infI
  have HH := Lib.hid h
  have HI := Lib.hid hI
  have HC := Lib.hid hc
  have HG := Lib.hid hg
  have HL := Lib.hid hl
  have HVX := Lib.hid hVx
  have hLn := hI.len
  rw [List.length_append, List.length_singleton] at hLn
  have hA : Below w.heap.size w (w.alloc (.cells #[.int .i64 (x : Int)] 3)) := (Below.refl _ _).alloc (Nat.le_refl _) _
  have HA := Lib.hid hA
  have HSA := Lib.hid (h.on hA)
  obtain ⟨-, -, -, -, -, z5, f5⟩ := h.cells
  have lZ := h.lt.1
  have hlow := h.lt.2.2.2.2
  clear h hI hc hg hl hVx hA
  go_enter Try.func64, Try.ntmps64
  go_upto_region 0 with fail
  go_cut [] (fun wx => Hid (∃ ov', So K gs wx tv ov' op heads next P T (L ++ [(x : Int)]) ∧ Below K.W w wx))
  case first =>
    go_wp2_with (at_builtin; refine wpList_append_lies _ rfl _ _ 22 rfl K.W 3 i0 (.int .i64 0) 1 8 Try.underlying22 hi hz0 hz1 hz2 rfl (by decide) ov L.length (L.map (Value.int .i64)) rfl HSA.out.ord ⟨w.heap.size, 0, none⟩ 1 1 [.int .i64 (x : Int)] rfl rfl (news1 _ _ _) (one_cell x) (by decide) (by unfold maxLen; omega) (by omega) (by simp; omega) _ rfl ?_)
    intro t c w1 hown hgrow hat hlt
    have hown2 : w1.ownsRow K.W 3 1 (.slice (some ⟨t, 0, none⟩) (L.length + 1) c) (L ++ [(x : Int)]).length ((L ++ [(x : Int)]).map (Value.int .i64)) := by
      rw [List.map_append, List.length_append, List.length_singleton]; exact hown
    have HN := Lib.hid (HSA.out.grow hown2 hgrow (fun k hk => by
      obtain rfl : t = k := by simpa [Value.ownBlock] using hk
      exact hat.imp id (fun e => by rw [e]; simp)))
    have HB : Hid (Below K.W w (w1.setCell ⟨K.Z, 5, none⟩ (.slice (some ⟨t, 0, none⟩) (L.length + 1) c))) := Lib.hid
      (((HA.out.mono hlow).grown hgrow (by simp; omega) (fun k hk => (HSA.out.ord.lt k hk).1)).setCell (p := ⟨K.Z, 5, none⟩) (by exact HSA.out.low.1) _)
    have hne : some K.Z ≠ ov.ownBlock := fun e => (HSA.out.on_ _ e.symm).1 (.inl rfl)
    obtain ⟨-, -, -, -, -, d5, df⟩ := HSA.out.cells
    have hgl := HSA.out.lt.1
    have c3 := (hgrow.cell_far ⟨K.Z, 5, none⟩ hgl hne).trans d5
    have f3 := (hgrow.frozen_far ⟨K.Z, 5, none⟩ hgl hne).trans df
    clear hown hown2 hgrow hat hne d5 df z5 f5
    go_wp2_with fail
    go_meet
    exact ⟨_, HN.out, HB.out⟩
  case rest =>
    clear HSA HA z5 f5 HH lZ
    obtain ⟨ov', s1, b1⟩ := hcut.out
    obtain ⟨wo, rfl⟩ : ∃ wo : World, wo = wc := ⟨_, rfl⟩
    have s2 := s1.on ((Below.refl wo.heap.size wo).drew)
    obtain ⟨z0, z1, -, -, -, -, -⟩ := s2.cells
    obtain ⟨ga, off, hga, hgb, g0, -, -⟩ := s2.gts.at3 hx
    rw [hga] at z0
    obtain ⟨hlc, -, -⟩ := lit3_at HL.out x
    have hvl := HG.out.l x hx
    rw [HVX.out] at hvl
    have hvl2 : V < op.length := by have := HI.out.ol; rw [List.length_set] at this; omega
    have hVX2 := HVX.out
    unfold vL at hVX2
    obtain ⟨c, hc⟩ : ∃ c, c = (gs.getD x (0, 0, 0)).1 := ⟨_, rfl⟩
    rw [← hc] at g0 hlc hVX2
    have HVV : Hid (litVar c = (V : Int)) := Lib.hid (by rw [var_of hlc, hVX2])
    obtain ⟨y0, y1⟩ := s2.atO hvl2
    obtain ⟨yy, hyy⟩ : ∃ yy, yy = op.getD V (-1) := ⟨_, rfl⟩
    rw [← hyy] at y0
    have HN := Lib.hid (s2.setO V (-1))
    have HB : Hid (Below K.W w (wo.drew.setCell ⟨K.bo, V, none⟩ (.int .i64 (-1)))) := Lib.hid (b1.drew.setCell (p := ⟨K.bo, V, none⟩) (by exact s2.low.2.1) _)
    have x1 : (x : Int) < (gs.length : Int) := by omega
    have x2 : 0 ≤ (x : Int) := by omega
    have v1 : (V : Int) < (K.V : Int) := by omega
    have v2 : 0 ≤ (V : Int) := by omega
    obtain ⟨lZ, lo, -, -, -⟩ := s2.lt
    clear hc hyy hlc hVX2 hga s1 s2 b1 hcut hvl2
    go_upto_region 1 with fail
    go_cut [] (fun wx => Hid (So K gs wx tv ov' (op.set V (-1)) heads next P T (L ++ [(x : Int)]) ∧ Below K.W w wx))
    case first =>
      refine wp_region_still_tail 14 (by kernel_rfl) (by kernel_rfl) ?_
      simp only [List.take_succ_cons, List.take_zero, List.drop_succ_cons, List.drop_zero]
      generalize hW : ({ heap := wo.heap, tape := wo.tape, drawn := wo.drawn + 1, os := wo.os, output := wo.output } : World) = W
      have hWD : wo.drew = W := hW
      rw [hWD] at z0 z1 g0 y0 y1 HN HB lZ lo hgb
      clear hW hWD
      repeat (first | still_step | (refine wpStill_step (fun K hK => ?_); go_simp; refine ⟨_, Var_q HVV.out W, hK _ ?_⟩; clear hK K))
      refine wpStill_nil ?_
      go_wp2_with fail
      go_meet
      exact ⟨HN.out, HB.out⟩
    case rest =>
      clear HN HB z0 z1 g0 y0 y1 lZ lo v1 v2 hgb
      obtain ⟨s1, b1⟩ := hcut.out
      obtain ⟨wi, rfl⟩ : ∃ wi : World, wi = wc := ⟨_, rfl⟩
      obtain ⟨z0, z1, z2, z3, z4, z5, -⟩ := s1.cells
      obtain ⟨lZ, lo, lh, ln, -⟩ := s1.lt
      obtain ⟨y0, -⟩ := s1.atH (i := x) (by rw [HI.out.hl]; exact hx)
      have HS := Lib.hid s1
      have HB := Lib.hid b1
      obtain ⟨hh, hhh⟩ : ∃ hh, hh = heads.getD x (-1) := ⟨_, rfl⟩
      rw [← hhh] at y0 HC
      clear hhh s1 b1 hcut
      go_wp2_with fail
      go_loopw [4] (fun qv wr => ∃ (ll : List Nat) (hv : Int) (tv' : Value) (heads' next' : List Int) (P' T' : List Nat) (C' : Nat → List Nat), qv = .int .i64 hv ∧ Hid (Ch next' hv ll) ∧ Hid (So K gs wr tv' ov' (op.set V (-1)) heads' next' P' T' (L ++ [(x : Int)])) ∧
        Hid (Inv gs K.V k ll told (L ++ [(x : Int)]) (op.set V (-1)) heads' next' P' C') ∧ Hid (Below K.W w wr)) (fun qv wr => lenC K.bn qv wr)
      case atStart => exact ⟨l, hh, tv, heads, next, P, T, C, rfl, HC, HS, HI, HB⟩
      case round =>
        clear HS HB HI HC z0 z1 z2 z3 z4 z5 lZ lo lh ln y0
        obtain ⟨ll, hv, tv', heads', next', P', T', C', rfl, HC, HS, HI, HB⟩ := hrel
        obtain ⟨wr2, rfl⟩ : ∃ wr2 : World, wr2 = wr := ⟨_, rfl⟩
        cases ll with
        | nil =>
          obtain rfl : hv = -1 := HC.out
          have HE : Hid (ToldW K gs k told (L ++ [(x : Int)]) (op.set V (-1)) w wr2) := Lib.hid ⟨tv', ov', heads', next', P', T', C', HS.out, HI.out, HB.out⟩
          go_wp2_with fail
          go_end0
          exact ⟨rfl, HE.out⟩
        | cons q l' =>
          obtain ⟨rfl, hc2⟩ : hv = (q : Int) ∧ Ch next' (next'.getD q (-1)) l' := HC.out
          have hql : ∀ y ∈ q :: l', y < next'.length := fun y hy => by have := (HI.out.pd y hy).1; have := HI.out.kn; have := HI.out.nl; omega
          have hqn := hql q List.mem_cons_self
          obtain ⟨-, -, -, z3, -, -, -⟩ := HS.out.cells
          obtain ⟨lZ, -, -, ln, -⟩ := HS.out.lt
          obtain ⟨y0, -⟩ := HS.out.atN hqn
          have hnl := HI.out.nl
          have t1 : ((q : Int) != -1) = true := by rw [bne_iff_ne]; omega
          have t2 : ((q : Int) == -1) = false := by rw [beq_eq_false_iff_ne]; omega
          have q1 : (q : Int) < (gs.length : Int) := by omega
          have q2 : 0 ≤ (q : Int) := by omega
          have HM : Hid (lenC K.bn (.int .i64 (q : Int)) wr2 = l'.length + 1) := Lib.hid (lenC_is (HS.out.chw HC.out hql))
          have HNQ : Hid (∀ y ∈ l', y ≠ q) := Lib.hid (fun y hy e => (List.nodup_cons.1 HI.out.pn).1 (by rw [← e]; exact hy))
          have HST := Lib.hid (settle_any K gs wr2 tv' ov' (op.set V (-1)) heads' next' P' T' (L ++ [(x : Int)]) k q l' told C' HS.out HI.out HG.out HL.out hn hV)
          obtain ⟨nx, hnx⟩ : ∃ nx, nx = next'.getD q (-1) := ⟨_, rfl⟩
          rw [← hnx] at y0 hc2
          have HC2 := Lib.hid hc2
          have HQL := Lib.hid hql
          clear hnx hc2 hql HC
          go_wp2_with fail
          go_at_call 62; refine HST.out.mono ?_; rintro e w3 ⟨rfl, tv3, heads3, next3, P3, T3, C3, s3, i3, b3, a3⟩
          have hch : Ch next3 nx l' := HC2.out.agree (fun y hy => a3 y (HNQ.out y hy))
          have HCH := Lib.hid hch
          have HS3 := Lib.hid s3
          have HI3 := Lib.hid i3
          have HB3 := Lib.hid (HB.out.trans b3)
          have HM3 : Hid (lenC K.bn (.int .i64 nx) w3 = l'.length) := Lib.hid (lenC_is (s3.chw hch (fun y hy => by
            have := (i3.pd y hy).1; have := i3.kn; have := i3.nl; omega)))
          clear hch s3 i3 b3 a3 z3 y0
          go_wp2_with fail
          go_roundw
          case rel => exact ⟨l', nx, tv3, heads3, next3, P3, T3, C3, rfl, HCH, HS3, HI3, HB3⟩
          case measure => rw [HM.out, HM3.out]; omega
end Go.Proofs.Ytbpjflghkkkenaa.row

/- A region that draws, some of whose operations make memory: each operation's value, and the part of the heap that is its own. -/
namespace Go.Proofs.Ytbpjflghkkkenaa.rinv
open Go Go.RowKit
abbrev VP := Nat → Nat → World → Value → Prop
/-- a value that is known -/
def Ev (c : Value) : VP := fun _ _ _ u => u = c
/-- the values so far, of an operation each; what an operation made lies between its lo and its hi -/
structure Jo (S : World → Prop) (V : List VP) (f : Nat → Bool) (us : List Value) (w : World) : Prop where
  s : S w
  len : us.length = V.length
  h : ∃ lo hi : Nat → Nat, (∀ i, f i = true → ∃ P u, V[i]? = some P ∧ us[i]? = some u ∧ P (lo i) (hi i) w u ∧ hi i ≤ w.heap.size) ∧ ∀ i j, f i = true → f j = true → i ≠ j → hi i ≤ lo j ∨ hi j ≤ lo i
/-- what is so of a value stays so -/
def Stays (P : VP) : Prop := ∀ lo hi w w' u, P lo hi w u → hi ≤ w.heap.size → Below w.heap.size w w' → P lo hi w' u
theorem stays_ev (c : Value) : Stays (Ev c) := fun _ _ _ _ _ h _ _ => h
theorem Jo.start {S : World → Prop} {V : List VP} {us : List Value} {w : World} (hs : S w) (hl : us.length = V.length) : Jo S V (fun _ => false) us w := ⟨hs, hl, fun _ => 0, fun _ => 0, nofun, nofun⟩
theorem Jo.put {S : World → Prop} {V : List VP} {f : Nat → Bool} {us : List Value} {w w' : World} (hst : ∀ P ∈ V, Stays P) (J : Jo S V f us w) (i : Nat) (hf : f i = false) {P : VP} {v : Value} (hP : V[i]? = some P) (hb : Below w.heap.size w w') (hv : P w.heap.size w'.heap.size w' v) (hs : S w') : Jo S V (upd f i) (us.set i v) w' := by
  obtain ⟨lo, hi, h1, h2⟩ := J.h
  have hi' := (List.getElem?_eq_some_iff.1 hP).1
  have hsz := hb.size
  have fj : ∀ j, j ≠ i → upd f i j = true → f j = true := fun j hj h => by simpa [upd, show (j == i) = false by simp; omega] using h
  refine ⟨hs, by rw [List.length_set]; exact J.len, fun j => if j = i then w.heap.size else lo j, fun j => if j = i then w'.heap.size else hi j, fun j hj => ?_, fun j k hj hk hne => ?_⟩
  · by_cases e : j = i
    · subst e
      refine ⟨P, v, hP, ?_, ?_, ?_⟩
      · rw [List.getElem?_set, if_pos rfl, if_pos (by rw [J.len]; exact hi')]
      · simpa using hv
      · simp
    · obtain ⟨Q, u, a, b, c, d⟩ := h1 j (fj j e hj)
      refine ⟨Q, u, a, by rw [List.getElem?_set, if_neg (fun e2 => e e2.symm)]; exact b, ?_, ?_⟩
      · simpa [e] using hst Q (List.mem_iff_getElem?.2 ⟨j, a⟩) _ _ _ _ _ c d hb
      · simp [e]; omega
  · by_cases e : j = i
    · subst e
      have hk2 := fj k (fun e => hne e.symm) hk
      obtain ⟨-, -, -, -, -, d⟩ := h1 k hk2
      have e : ¬ k = j := fun e => hne e.symm
      simp [e]; exact .inr d
    · by_cases e2 : k = i
      · subst e2
        obtain ⟨-, -, -, -, -, d⟩ := h1 j (fj j e hj)
        simp [e]; exact .inl d
      · simpa [e, e2] using h2 j k (fj j e hj) (fj k e2 hk) hne
theorem Jo.ev {S : World → Prop} {V : List VP} {f : Nat → Bool} {us : List Value} {w : World} (J : Jo S V f us w) (j : Nat) (hf : f j = true) {c u : Value} (hP : V[j]? = some (Ev c)) (hu : us[j]? = some u) : u = c := by
  obtain ⟨lo, hi, h1, -⟩ := J.h
  obtain ⟨P, u', a, b, h, -⟩ := h1 j hf
  rw [hP] at a; obtain rfl := Option.some.inj a
  rw [hu] at b; obtain rfl := Option.some.inj b
  exact h
theorem Jo.get {S : World → Prop} {V : List VP} {f : Nat → Bool} {us : List Value} {w : World} (J : Jo S V f us w) (j : Nat) (hf : f j = true) {P : VP} {u : Value} (hP : V[j]? = some P) (hu : us[j]? = some u) : ∃ lo hi, P lo hi w u ∧ hi ≤ w.heap.size := by
  obtain ⟨lo, hi, h1, -⟩ := J.h
  obtain ⟨P, u', a, b, h, d⟩ := h1 j hf
  rw [hP] at a; obtain rfl := Option.some.inj a
  rw [hu] at b; obtain rfl := Option.some.inj b
  exact ⟨_, _, h, d⟩
/-- several of them together: their parts are apart -/
theorem Jo.both {S : World → Prop} {V : List VP} {f : Nat → Bool} {us : List Value} {w : World} (J : Jo S V f us w) : ∃ lo hi : Nat → Nat, (∀ j (P : VP) (u : Value), f j = true → V[j]? = some P → us[j]? = some u → P (lo j) (hi j) w u ∧ hi j ≤ w.heap.size) ∧ ∀ i j, f i = true → f j = true → i ≠ j → hi i ≤ lo j ∨ hi j ≤ lo i := by
  obtain ⟨lo, hi, h1, h2⟩ := J.h
  refine ⟨lo, hi, fun j P u hf hP hu => ?_, h2⟩
  obtain ⟨P', u', a, b, h, d⟩ := h1 j hf
  rw [hP] at a; obtain rfl := Option.some.inj a
  rw [hu] at b; obtain rfl := Option.some.inj b
  exact ⟨h, d⟩
end Go.Proofs.Ytbpjflghkkkenaa.rinv

/- sorted's beginning: the sorter is made. (Printed by mkZl.py.) -/
namespace Go.Proofs.Ytbpjflghkkkenaa.row
set_option maxRecDepth 100000
open Go.RowKit
open Go.Proofs.Ytbpjflghkkkenaa.aig (Only)
open Go.Proofs.Ytbpjflghkkkenaa.heap Go.Proofs.Ytbpjflghkkkenaa.hpf Go.Proofs.Ytbpjflghkkkenaa.fns Go.Proofs.Ytbpjflghkkkenaa.rinv
open Go.Proofs.Ytbpjflghkkkenaa.ints (below_drewN)

theorem repeat_of (x : Int) (m g : Nat) (w : World) {z : Int} (hz : z = (m : Int)) (hm : m ≤ 100000000) (hg : Blk w g #[.int .i64 x]) :
    Calls Try.prog 25 #[.slice (some ⟨g, 0, none⟩) 1 1, .int .i64 z] w (RowNew x m w) := by subst hz; exact repeat_any x m g w hm hg
/-- a row of one -1 -/
def Lit1 : VP := fun _ _ w u => ∃ b, u = .slice (some ⟨b, 0, none⟩) 1 1 ∧ Blk w b #[.int .i64 (-1)]
def RowV (W0 : Nat) (x : Int) (m : Nat) : VP := fun lo hi w u => ∃ G, u = .slice (some ⟨G, 0, none⟩) m m ∧ W0 ≤ lo ∧ lo ≤ G ∧ G < hi ∧ Blk w G (intA (List.replicate m x))
def QueV (W0 n : Nat) : VP := fun lo hi w u => ∃ bq cap g s p B, u = .slice (some ⟨bq, 0, none⟩) 1 cap ∧ W0 ≤ lo ∧ 1 ≤ cap ∧ cap ≤ maxLen ∧ B ≤ bq ∧ bq < hi ∧ Bq w bq (.pointer (some ⟨g, 0, none⟩)) ∧ Hp lo B w g s p (.slice none 0 0) n (List.replicate n 0) (List.replicate n 0) []
/-- all of the sorter but its object -/
structure Pre (K : SP) (n last : Nat) (w : World) : Prop where
  o : Blk w K.bo (intA (List.replicate (last + 1) (-1)))
  h : Blk w K.bh (intA (List.replicate n (-1)))
  nx : Blk w K.bn (intA (List.replicate n 0))
  q : Qs K.A K.B w K.bq K.g K.s K.p (.slice none 0 0) n (List.replicate n 0) []
  fn : K.bo ≠ K.bh ∧ K.bo ≠ K.bn ∧ K.bh ≠ K.bn
  qn : ∀ k, QB K.bq K.g K.s K.p (.slice none 0 0) k → k ≠ K.bo ∧ k ≠ K.bh ∧ k ≠ K.bn
  cap : 1 ≤ K.cap ∧ K.cap ≤ maxLen
  v : K.V = last + 1
theorem Pre.on {K : SP} {n last : Nat} {w w' : World} (h : Pre K n last w) (hb : Below w.heap.size w w') : Pre K n last w' := ⟨h.o.on hb, h.h.on hb, h.nx.on hb, h.q.on hb, h.fn, h.qn, h.cap, h.v⟩
/-- all that the sorter's blocks are at least -/
def SP.low (K : SP) : Prop := K.W ≤ K.bo ∧ K.W ≤ K.bh ∧ K.W ≤ K.bn ∧ K.W ≤ K.bq ∧ K.W ≤ K.g ∧ K.W ≤ K.s ∧ K.W ≤ K.p
def AggV (W0 : Nat) (ga : Option Addr) (gc n last : Nat) : VP := fun _ _ w u => ∃ K : SP, u = .agg (K.cells n (.slice none 0 0)) ∧ Pre K n last w ∧ K.ga = ga ∧ K.gc = gc ∧ K.W = W0 ∧ K.low
def PtrV (W0 : Nat) (ga : Option Addr) (gc n last : Nat) (gs : List Tri) : VP := fun _ _ w u => ∃ K : SP, u = .pointer (some ⟨K.Z, 0, none⟩) ∧ So K gs w (.slice none 0 0) (.slice none 0 0) (List.replicate (last + 1) (-1)) (List.replicate n (-1)) (List.replicate n 0) (List.replicate n 0) [] [] ∧ K.V = last + 1 ∧ K.W = W0 ∧ K.ga = ga ∧ K.gc = gc
theorem stays_all (W0 : Nat) (ga : Option Addr) (gc n last : Nat) (gs : List Tri) : Stays Lit1 ∧ (∀ x m, Stays (RowV W0 x m)) ∧ Stays (QueV W0 n) ∧ Stays (AggV W0 ga gc n last) ∧ Stays (PtrV W0 ga gc n last gs) := by
  refine ⟨?_, ?_, ?_, ?_, ?_⟩
  · rintro lo hi w w' u ⟨b, e, h⟩ - hb; exact ⟨b, e, h.on hb⟩
  · rintro x m lo hi w w' u ⟨G, e, h0, h1, h2, h⟩ - hb; exact ⟨G, e, h0, h1, h2, h.on hb⟩
  · rintro lo hi w w' u ⟨bq, cap, g, s, p, B, e, h0, h1, h2, h3, h4, h5, h6⟩ - hb; exact ⟨bq, cap, g, s, p, B, e, h0, h1, h2, h3, h4, h5.on hb, h6.on hb⟩
  · rintro lo hi w w' u ⟨K, e, h1, h2⟩ - hb; exact ⟨K, e, h1.on hb, h2⟩
  · rintro lo hi w w' u ⟨K, e, h1, h2⟩ - hb; exact ⟨K, e, h1.on hb, h2⟩
theorem made_row {W0 : Nat} (n : Nat) (w : World) (hW : W0 ≤ w.heap.size) : RowV W0 0 n w.heap.size (w.alloc (.cells (madeCells #[.int .i64 0] n) 3)).heap.size (w.alloc (.cells (madeCells #[.int .i64 0] n) 3)) (.slice (some ⟨w.heap.size, 0, none⟩) n n) := by
  refine ⟨w.heap.size, rfl, hW, Nat.le_refl _, by simp, ?_⟩
  have h := blk_new w (madeCells #[.int .i64 0] n) 3
  have e : madeCells #[Value.int .i64 0] n = intA (List.replicate n 0) := by rw [made_ints]; simp [fillV, intA]
  rw [e] at h ⊢
  exact h
theorem pre_of {W0 : Nat} {ga : Option Addr} {gc n last : Nat} {w : World} {bo bh bn bq cap g s p B l1 h1 l2 h2 l3 h3 l4 h4 : Nat}
    (o0 : W0 ≤ l1) (o1 : l1 ≤ bo) (o2 : bo < h1) (o3 : Blk w bo (intA (List.replicate (last + 1) (-1)))) (p0 : W0 ≤ l2) (p1 : l2 ≤ bh) (p2 : bh < h2) (p3 : Blk w bh (intA (List.replicate n (-1)))) (n0 : W0 ≤ l3) (n1 : l3 ≤ bn) (n2 : bn < h3) (n3 : Blk w bn (intA (List.replicate n 0)))
    (q0 : W0 ≤ l4) (q1 : 1 ≤ cap) (q2 : cap ≤ maxLen) (q3 : B ≤ bq) (q4 : bq < h4) (q5 : Bq w bq (.pointer (some ⟨g, 0, none⟩))) (q6 : Hp l4 B w g s p (.slice none 0 0) n (List.replicate n 0) (List.replicate n 0) [])
    (a1 : h1 ≤ l2 ∨ h2 ≤ l1) (a2 : h1 ≤ l3 ∨ h3 ≤ l1) (a3 : h1 ≤ l4 ∨ h4 ≤ l1) (a4 : h2 ≤ l3 ∨ h3 ≤ l2) (a5 : h2 ≤ l4 ∨ h4 ≤ l2) (a6 : h3 ≤ l4 ∨ h4 ≤ l3) (lo hi : Nat) :
    AggV W0 ga gc n last lo hi w (.agg #[.slice ga n gc, .slice (some ⟨bo, 0, none⟩) (last + 1) (last + 1), .slice (some ⟨bh, 0, none⟩) n n, .slice (some ⟨bn, 0, none⟩) n n, .slice (some ⟨bq, 0, none⟩) 1 cap, .slice none 0 0]) := by
  obtain ⟨e1, e2, e3, e4, e5⟩ := q6.low
  obtain ⟨f1, f2, f3, f4, f5, f6, f7, f8⟩ := q6.lay
  refine ⟨⟨W0, 0, bo, bh, bn, bq, cap, g, s, p, l4, B, last + 1, ga, gc⟩, rfl, ⟨o3, p3, n3, ⟨q5, q6, hok_nil n _, ?_⟩, ⟨by show bo ≠ bh; omega, by show bo ≠ bn; omega, by show bh ≠ bn; omega⟩, ?_, ⟨q1, q2⟩, rfl⟩, rfl, rfl, rfl, ⟨?_, ?_, ?_, ?_, ?_, ?_, ?_⟩⟩
  · rintro (e | e | e)
    · have e : bq = g := e
      omega
    · have e : bq = p := e
      omega
    · cases e
  · intro k hk
    have hk2 : k = bq ∨ k = s ∨ k = g ∨ k = p := by
      rcases hk with e | e | e | e | e
      · exact .inl e
      · exact .inr (.inl e)
      · exact .inr (.inr (.inl e))
      · exact .inr (.inr (.inr e))
      · cases e
    show k ≠ bo ∧ k ≠ bh ∧ k ≠ bn
    omega
  · show W0 ≤ bo; omega
  · show W0 ≤ bh; omega
  · show W0 ≤ bn; omega
  · show W0 ≤ bq; omega
  · show W0 ≤ g; omega
  · show W0 ≤ s; omega
  · show W0 ≤ p; omega
theorem box_of {W0 : Nat} {K : SP} {ga : Option Addr} {gc n last : Nat} {gs : List Tri} {w w1 : World} {ty : TypeId} (h : Pre K n last w1 ∧ K.ga = ga ∧ K.gc = gc ∧ K.W = W0 ∧ K.low) (hg : Rw enc3 3 (fun k => W0 ≤ k) w (.slice ga n gc) gs) (hn : gs.length = n) (hb : Below w.heap.size w w1) (hW : W0 ≤ w1.heap.size) (lo hi : Nat) :
    PtrV W0 ga gc n last gs lo hi (w1.alloc (.cells (K.cells n (.slice none 0 0)) ty)) (.pointer (some ⟨w1.heap.size, 0, none⟩)) := by
  obtain ⟨hp, rfl, rfl, rfl, b1, b2, b3, b4, b5, b6, b7⟩ := h
  have hb1 : Below w1.heap.size w1 (w1.alloc (.cells (K.cells n (.slice none 0 0)) ty)) := (Below.refl _ _).alloc (Nat.le_refl _) _
  have q := hp.on hb1
  have r1 := hp.o.lt
  have r2 := hp.h.lt
  have r3 := hp.nx.lt
  obtain ⟨f1, f2, f3⟩ := hp.fn
  subst hn
  refine ⟨{ K with Z := w1.heap.size }, rfl, ⟨blk_new w1 _ _, ?_, q.h, q.nx, q.q, World.ownsRow_nil _ _ _ _, (hg.on hb).on hb1, ⟨by show w1.heap.size ≠ K.bo; omega, by show w1.heap.size ≠ K.bh; omega, by show w1.heap.size ≠ K.bn; omega, f1, f2, f3⟩, fun k hk => ?_, (fun k hk => by cases hk), ⟨hW, b1, b2, b3, hp.cap.1, hp.cap.2⟩⟩, hp.v, rfl, rfl, rfl⟩
  · exact q.o
  · have hlt := hp.q.lt k hk
    obtain ⟨g1, g2, g3⟩ := hp.qn k hk
    refine ⟨?_, ?_⟩
    · rintro (e | e | e | e)
      · have e : k = w1.heap.size := e
        omega
      · exact g1 e
      · exact g2 e
      · exact g3 e
    · show K.W ≤ k
      rcases hk with e | e | e | e | e
      · have e : k = K.bq := e
        omega
      · have e : k = K.s := e
        omega
      · have e : k = K.g := e
        omega
      · have e : k = K.p := e
        omega
      · cases e
theorem ex18 {β : Type} {F : Value → Value → Value → Value → Value → Value → Value → Value → Value → Value → Value → Value → Value → Value → Value → Value → Value → Value → β} {J : Value → Value → Value → Value → Value → Value → Value → Value → Value → Value → Value → Value → Value → Value → Value → Value → Value → Value → Prop} {a : β} (h : ∃ u0 u1 u2 u3 u4 u5 u6 u7 u8 u9 u10 u11 u12 u13 u14 u15 u16 u17, a = F u0 u1 u2 u3 u4 u5 u6 u7 u8 u9 u10 u11 u12 u13 u14 u15 u16 u17 ∧ J u0 u1 u2 u3 u4 u5 u6 u7 u8 u9 u10 u11 u12 u13 u14 u15 u16 u17) {G : β → Prop} (k : ∀ u0 u1 u2 u3 u4 u5 u6 u7 u8 u9 u10 u11 u12 u13 u14 u15 u16 u17, J u0 u1 u2 u3 u4 u5 u6 u7 u8 u9 u10 u11 u12 u13 u14 u15 u16 u17 → G (F u0 u1 u2 u3 u4 u5 u6 u7 u8 u9 u10 u11 u12 u13 u14 u15 u16 u17)) : G a := by
  obtain ⟨u0, u1, u2, u3, u4, u5, u6, u7, u8, u9, u10, u11, u12, u13, u14, u15, u16, u17, rfl, j⟩ := h
  exact k _ _ _ _ _ _ _ _ _ _ _ _ _ _ _ _ _ _ j
end Go.Proofs.Ytbpjflghkkkenaa.row
