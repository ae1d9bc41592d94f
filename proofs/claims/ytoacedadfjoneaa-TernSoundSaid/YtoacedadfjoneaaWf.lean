/- The walk of the project's hold: what must stay. -/
import Derived.Test.YtoacedadfjoneaaWe
namespace Go.Proofs.Ytoacedadfjoneaa.aig
open Go.RowKit
open Go.Proofs.Ytoacedadfjoneaa.mem Go.Proofs.Ytoacedadfjoneaa.agf Go.Proofs.Ytoacedadfjoneaa.fns
open Go.Proofs.Ytoacedadfjoneaa.ints (Ints ints_of_owned below_drewN)
open Go.Proofs.Ytoacedadfjoneaa.tri (tLit)

/-- the blocks that a dropper writes, and all from B on -/
def DB (tv tm B k : Nat) : Prop := k = tv ∨ k = tm ∨ B ≤ k
/-- a dropper that lies below B -/
structure DpB (d : DC) (B : Nat) (w : World) (V : List Int) (M : List Bool) : Prop where
  obj : ∃ t, w.heap[d.g]? = some (.cells #[.slice d.na d.m d.ncap, .slice (some ⟨d.gb, d.goff, none⟩) d.q d.gcap, .slice (some ⟨d.fb, d.foff, none⟩) d.q d.fcap, .slice (some ⟨d.tv, 0, none⟩) d.q d.c, .slice (some ⟨d.tm, 0, none⟩) d.q d.q] t (0, 0))
  net : KNds (DB d.tv d.tm B) w (.slice d.na d.m d.ncap) d.ns
  gates : KGrid (DB d.tv d.tm B) w (.slice (some ⟨d.gb, d.goff, none⟩) d.q d.gcap) (fanLL d.ns)
  first : KInts (DB d.tv d.tm B) w (.slice (some ⟨d.fb, d.foff, none⟩) d.q d.fcap) d.F
  vals : w.ownsRow d.A 3 1 (.slice (some ⟨d.tv, 0, none⟩) d.q d.c) d.q (V.map (Value.int .i64))
  must : w.ownsRow d.A 4 1 (.slice (some ⟨d.tm, 0, none⟩) d.q d.q) d.q (M.map Value.bool)
  lay : d.A ≤ d.g ∧ d.g ≠ d.tv ∧ d.g ≠ d.tm ∧ d.tv ≠ d.tm
  len : d.m + 1 = d.q ∧ d.q ≤ 1001
  low : d.g < B ∧ d.tv < B ∧ d.tm < B ∧ B ≤ w.heap.size
section
variable {d : DC} {B : Nat} {w w' : World} {V : List Int} {M : List Bool}
theorem Dp.toB (h : Dp d w V M) : DpB d w.heap.size w V M := by
  obtain ⟨h1, h2, h3, h4⟩ := h.lt
  refine ⟨h.obj, h.net.weak ?_, h.gates.weak ?_, h.first.weak ?_, h.vals, h.must, h.lay, h.len, h1, h2, h3, Nat.le_refl _⟩
  all_goals
    intro k hk hq
    rcases hq with e | e | e
    · exact .inl e
    · exact .inr e
    · omega
theorem DpB.toDp (h : DpB d B w V M) : Dp d w V M :=
  ⟨h.obj, h.net.weak (fun _ _ hq => hq.elim .inl (fun e => .inr (.inl e))), h.gates.weak (fun _ _ hq => hq.elim .inl (fun e => .inr (.inl e))), h.first.weak (fun _ _ hq => hq.elim .inl (fun e => .inr (.inl e))), h.vals, h.must, h.lay, h.len⟩
theorem DpB.moved {row : Option Nat} (h : DpB d B w V M) (hg : w.grownBy w' row) (hr : ∀ k, row = some k → B ≤ k) : DpB d B w' V M ∧ Moved (DB d.tv d.tm B) (DB d.tv d.tm B) w w' := by
  have hm : Moved (DB d.tv d.tm B) (DB d.tv d.tm B) w w' := ⟨⟨hg.os, hg.tape, hg.output, hg.size, fun k hk hn => hg.block k hk (fun e => hn (.inr (.inr (hr k e.symm))))⟩, fun _ e => .inl e⟩
  obtain ⟨t, ho⟩ := h.obj
  obtain ⟨l1, l2, l3, l4⟩ := h.low
  have hne : ∀ k, k < B → some k ≠ row := fun k hk e => by have := hr k e.symm; omega
  exact ⟨⟨⟨t, (hg.block d.g (by omega) (hne _ l1)).trans ho⟩, h.net.move hm, h.gates.move hm, h.first.move hm, h.vals.kept hg (.inr (hne _ l2)), h.must.kept hg (.inr (hne _ l3)), h.lay, h.len, l1, l2, l3, Nat.le_trans l4 hg.size⟩, hm⟩
theorem grown_of_below2 {w w' : World} (h : Below w.heap.size w w') : w.grownBy w' none := ⟨h.os, h.tape, h.output, h.size, fun k hk _ => h.block k hk⟩
theorem DpB.on (h : DpB d B w V M) (hb : Below w.heap.size w w') : DpB d B w' V M ∧ Moved (DB d.tv d.tm B) (DB d.tv d.tm B) w w' := h.moved (grown_of_below2 hb) (fun k e => by cases e)
theorem db_set (tv tm B R i : Nat) (hR : DB tv tm B R) (w : World) (v : Value) : Moved (DB tv tm B) (DB tv tm B) w (w.setCell ⟨R, i, none⟩ v) :=
  ⟨⟨rfl, rfl, rfl, by simp, fun k _ hn => heap_setCell_other w ⟨R, i, none⟩ k v (fun e => hn (by rw [e]; exact hR))⟩, fun _ h => .inl h⟩
theorem DpB.setM (h : DpB d B w V M) (i : Nat) (x : Bool) : DpB d B (w.setCell ⟨d.tm, i, none⟩ (.bool x)) V (M.set i x) ∧ Moved (DB d.tv d.tm B) (DB d.tv d.tm B) w (w.setCell ⟨d.tm, i, none⟩ (.bool x)) := by
  have hm := db_set d.tv d.tm B d.tm i (.inr (.inl rfl)) w (.bool x)
  obtain ⟨t, ho⟩ := h.obj
  obtain ⟨l1, l2, l3, l4⟩ := h.lay
  obtain ⟨k1, k2, k3, k4⟩ := h.low
  obtain ⟨s1, s2⟩ := h.must.stored i (.bool x)
  rw [← List.map_set] at s1
  exact ⟨⟨⟨t, (heap_setCell_other w ⟨d.tm, i, none⟩ d.g _ l3).trans ho⟩, h.net.move hm, h.gates.move hm, h.first.move hm, h.vals.kept s2 (.inr (by simp [Value.ownBlock]; omega)), s1, h.lay, h.len, k1, k2, k3, by simpa using k4⟩, hm⟩
theorem DpB.setV (h : DpB d B w V M) (i : Nat) (x : Int) : DpB d B (w.setCell ⟨d.tv, i, none⟩ (.int .i64 x)) (V.set i x) M ∧ Moved (DB d.tv d.tm B) (DB d.tv d.tm B) w (w.setCell ⟨d.tv, i, none⟩ (.int .i64 x)) := by
  have hm := db_set d.tv d.tm B d.tv i (.inl rfl) w (.int .i64 x)
  obtain ⟨t, ho⟩ := h.obj
  obtain ⟨l1, l2, l3, l4⟩ := h.lay
  obtain ⟨k1, k2, k3, k4⟩ := h.low
  obtain ⟨s1, s2⟩ := h.vals.stored i (.int .i64 x)
  rw [← List.map_set] at s1
  exact ⟨⟨⟨t, (heap_setCell_other w ⟨d.tv, i, none⟩ d.g _ l2).trans ho⟩, h.net.move hm, h.gates.move hm, h.first.move hm, s1, h.must.kept s2 (.inr (by simp [Value.ownBlock]; omega)), h.lay, h.len, k1, k2, k3, by simpa using k4⟩, hm⟩
end
/-- a row that is cut behind its first e cells -/
theorem own_cutI {w : World} {B t e m c : Nat} {L : List Int} (h : w.ownsRow B 3 1 (.slice (some ⟨t, 0, none⟩) m c) m (L.map (Value.int .i64))) (he : e ≤ m) :
    w.ownsRow B 3 1 (.slice (some ⟨t, 0, none⟩) e c) e ((L.take e).map (Value.int .i64)) := by
  obtain ⟨h1, h2⟩ := h
  refine ⟨by rw [List.length_map] at h1 ⊢; rw [List.length_take]; omega, ?_⟩
  rcases h2 with ⟨x, -⟩ | ⟨g, cap, cur, x, y1, y2, y3, y4, y5, y6⟩
  · cases x
  · cases x
    refine .inr ⟨t, c, cur, rfl, y1, y2, by omega, y4, y5, ?_⟩
    rw [List.map_take, ← y6, List.take_take]
    congr 1
    omega
/-- 'append(l, x...)' for two rows of one's own -/
theorem wpList_appO {ops : Array Oper} {rest : List Oper} {o : Oper} {a : Act} {Q : Exit → Act → World → Prop} {w : World} {lv v : Value} {L ys : List Int} {B B2 : Nat}
    (hgd : Region.wanted o (yielded ops a.tmps) = true) (s x : Operand) (ho : o.op = .call { callee := .builtin .append, args := #[s, x], argTypes := #[23, 23] })
    (hs : a.eval s = lv) (hx : a.eval x = v) (hown : w.ownsRow B 3 1 lv L.length (L.map (Value.int .i64))) (hv : w.ownsRow B2 3 1 v ys.length (ys.map (Value.int .i64))) (hfit : L.length + ys.length ≤ 10000) (hB : B ≤ w.heap.size)
    (h : ∀ v' w', w'.ownsRow B 3 1 v' (L ++ ys).length ((L ++ ys).map (Value.int .i64)) → w.grownBy w' lv.ownBlock → wpList Try.prog ops Q rest (a.put o.dst v') w') : wpList Try.prog ops Q (o :: rest) a w := by
  obtain ⟨i0, hi, hz0, hz1, hz2⟩ := info_parts infoI
  refine wpList_step fun K hK => ?_
  rw [if_pos hgd]
  rcases hv.2 with ⟨rfl, h0⟩ | ⟨t, cap, cur, rfl, hb, hg, hn, hm, hsz, ht⟩
  · obtain rfl : ys = [] := List.eq_nil_of_length_eq_zero h0
    have hrun := run_append_owned_none (P := Try.prog) (w := w) B 23 o.type 3 i0 1 Try.underlying23 hi _ _ _ hown
    have h1 := hK _ _ (h lv w (by rw [List.append_nil]; exact hown) ⟨rfl, rfl, rfl, Nat.le_refl _, fun _ _ _ => rfl⟩)
    unfold Oper.wp
    simp [execOp, ho, resolve, invoke, builtin, hs, hx, hrun, Result.andThen]
    exact h1
  · refine wp_append_own _ s x 23 ho B 3 i0 (.int .i64 0) 1 8 Try.underlying23 hi hz0 hz1 hz2 rfl (by decide) lv L.length _ hs hown ⟨t, 0, none⟩ ys.length cap (ys.map (Value.int .i64)) hx (by simp) ?_ ?_ (by unfold maxLen; omega) (by omega) hB ?_
    · intro j u hj
      have hl := (List.getElem?_eq_some_iff.1 hj).1
      rw [List.length_map] at hl
      rw [addr_add, Nat.zero_add, hv.cellAt j (by omega), hj]
    · intro u hu
      obtain ⟨z, -, rfl⟩ := List.mem_map.1 hu
      rfl
    · intro v' w' h1 h2 _
      exact hK _ _ (h v' w' (by rw [List.map_append, List.length_append]; exact h1) h2)
theorem own_formI {w : World} {B n : Nat} {v : Value} {L : List Int} (h : w.ownsRow B 3 1 v L.length (L.map (Value.int .i64))) (hn : L.length = n) (hp : 0 < n) :
    ∃ t c, v = .slice (some ⟨t, 0, none⟩) n c ∧ n ≤ c ∧ c ≤ maxLen ∧ B ≤ t := by
  rcases h.2 with ⟨e, e2⟩ | ⟨g', cap, cur, e, e1, e2, e3, e4, -⟩
  · omega
  · exact ⟨g', cap, by rw [e, hn], by omega, e4, e1⟩
theorem last_split {S : List Int} {e : Nat} (h : S.length = e + 1) : S = S.take e ++ [S.getD e 0] := by
  have h1 : S.take (e + 1) = S.take e ++ [S.getD e 0] := by rw [List.take_succ_eq_append_getElem (by omega)]; simp [List.getD, show e < S.length by omega]
  rw [← h1, List.take_of_length_le (by omega)]
/-- how many of them are not marked yet, by the memory -/
def cntW (tm q : Nat) (w : World) : Nat := (List.range q).countP fun i => match w.cell? ⟨tm, i, none⟩ with | some (.bool b) => !b | _ => false
def lenOf (v : Value) : Nat := match v with | .slice _ n _ => n | _ => 0
theorem cntW_eq {d : DC} {w : World} {V : List Int} {M : List Bool} (h : Dp d w V M) : cntW d.tm d.q w = cntF M := by
  have hl := h.lens.2.1
  have e : M = (List.range d.q).map fun i => M.getD i false := by
    apply List.ext_getElem (by simp [hl])
    intro i h1 h2
    simp [List.getD, h1]
  unfold cntW cntF
  conv => rhs; rw [e, List.countP_map]
  refine List.countP_congr fun i hi => ?_
  rw [(h.cM (List.mem_range.1 hi)).1]
  rfl
/-- how hold leaves things -/
def HeldT (d : DC) (B : Nat) (V : List Int) (ls out : List Int) (M : List Bool) (S : List Int) (w : World) (e : Ending) (w' : World) : Prop :=
  e = .returned (.tuple #[]) ∧ ∃ M', DpB d B w' V M' ∧ Moved (DB d.tv d.tm B) (DB d.tv d.tm B) w w' ∧ Ho (d.ns.map absN) ls out M S M' []
def HoldI (d : DC) (B : Nat) (V : List Int) (ls out : List Int) (M : List Bool) (S : List Int) (w wr : World) (sv : Value) (M1 : List Bool) (S1 : List Int) : Prop :=
  DpB d B wr V M1 ∧ Moved (DB d.tv d.tm B) (DB d.tv d.tm B) w wr ∧ Ho (d.ns.map absN) ls out M S M1 S1 ∧ wr.ownsRow B 3 1 sv S1.length (S1.map (Value.int .i64))
theorem own_sliceI {w : World} {B : Nat} {v : Value} {L : List Int} (h : w.ownsRow B 3 1 v L.length (L.map (Value.int .i64))) : ∃ a c, v = .slice a L.length c := by
  rcases h.2 with ⟨e, e2⟩ | ⟨g', cap, cur, e, -⟩
  · exact ⟨none, 0, by rw [e, e2]⟩
  · exact ⟨_, _, e⟩
set_option maxRecDepth 100000 in
set_option maxHeartbeats 3200000 in
theorem hold_any (d : DC) (B : Nat) (V ls out : List Int) (M : List Bool) (S : List Int) (sv : Value) (w : World) (h : DpB d B w V M) (hg : GoodN d.ns) (hV : V = (tSt out (d.ns.map absN)).1) (ho : Ho (d.ns.map absN) ls out M S M S) (hs : w.ownsRow B 3 1 sv S.length (S.map (Value.int .i64))) (hS : S.length ≤ 2000) :
    Calls Try.prog 45 #[.pointer (some ⟨d.g, 0, none⟩), sv] w (HeldT d B V ls out M S w) := by
  have HI0 : Hid (HoldI d B V ls out M S w w sv M S) := Lib.hid ⟨h, Moved.refl _ _, ho, hs⟩
  have hml := h.toDp.lens
  have hlen := h.len
  have HGN := Lib.hid hg
  have HV := Lib.hid hV
  have HML := Lib.hid hml
  have HLN := Lib.hid hlen
  have HRM : Hid (∀ M1 S1, Ho (d.ns.map absN) ls out M S M1 S1 → S1.length + 2 * cntF M1 ≤ 6000) := Lib.hid (fun M1 S1 hh => by have := hh.room; have := cntF_le M; omega)
  obtain ⟨sa, sc, rfl⟩ := own_sliceI hs
  clear h hg hV ho hs hml hlen
  go_enter Try.func45, Try.ntmps45
  go_wp2_with fail
  go_loopw [1] (fun l wr => ∃ (sv : Value) (M1 : List Bool) (S1 : List Int), l = sv ∧ Hid (HoldI d B V ls out M S w wr sv M1 S1)) (fun l wr => lenOf l + 3 * cntW d.tm d.q wr)
  case atStart => exact ⟨_, M, S, rfl, HI0⟩
  case round =>
    clear HI0
    obtain ⟨sv, M1, S1, hsv, HI⟩ := hrel
    obtain rfl : sv = _ := hsv.symm
    obtain ⟨wo, rfl⟩ : ∃ wo : World, wo = wr := ⟨_, rfl⟩
    cases hn : S1.length with
    | zero =>
      obtain rfl : S1 = [] := List.eq_nil_of_length_eq_zero hn
      obtain ⟨a, c, rfl⟩ := own_sliceI HI.out.2.2.2
      have HE : Hid (HeldT d B V ls out M S w (.returned (.tuple #[])) wo) := Lib.hid ⟨rfl, M1, HI.out.1, HI.out.2.1, HI.out.2.2.1⟩
      clear hn
      go_wp2_with fail
      refine bodyPost_ret (results_none rfl _ _ _) rfl ?_
      exact HE.out
    | succ e =>
      obtain ⟨n, hne⟩ : ∃ n, n = e + 1 := ⟨_, rfl⟩
      obtain ⟨t, c, rfl, l1, l2, l3⟩ := own_formI HI.out.2.2.2 (hn.trans hne.symm) (by omega)
      unfold maxLen at l2
      have hsp := last_split hn
      obtain ⟨S2, hS2⟩ : ∃ S2, S2 = S1.take e := ⟨_, rfl⟩
      obtain ⟨z, hz⟩ : ∃ z, z = S1.getD e 0 := ⟨_, rfl⟩
      rw [← hS2, ← hz] at hsp
      have hlow := HI.out.1.low
      have hho := HI.out.2.2.1
      rw [hsp] at hho
      obtain ⟨v, rfl, hv1, hvF⟩ := hho.fs z (by simp)
      have hroom := HRM.out _ _ hho
      have hS2l : S2.length = e := by rw [hS2, List.length_take]; omega
      have hvq : v < d.q := by rw [← HML.out.2.1]; exact hv1
      have hvm : v ≤ d.m := by have := HLN.out; omega
      have he6 : e ≤ 6000 := by simp at hroom; omega
      have hvs : v ≤ 1001 := by have := HLN.out; omega
      obtain ⟨-, -, -, -, c4⟩ := HI.out.1.toDp.cG
      obtain ⟨m1, m2⟩ := HI.out.1.toDp.cM hvq
      have hrow := HI.out.2.2.2
      rw [hn, ← hne] at hrow
      have hx1 : wo.cell? ⟨t, e, none⟩ = some (.int .i64 (v : Int)) := by
        rw [hrow.cellAt e (by omega), List.getElem?_map, List.getElem?_eq_getElem (by omega)]
        rw [hz]; simp [List.getD, show e < S1.length by omega]
      have hcut := own_cutI hrow (show e ≤ n by omega)
      rw [← hS2] at hcut
      have HCUT : Hid (wo.ownsRow B 3 1 (.slice (some ⟨t, 0, none⟩) e c) S2.length (S2.map (Value.int .i64))) := Lib.hid (by rw [hS2l]; exact hcut)
      have HHO := Lib.hid hho
      have HLOW := Lib.hid hlow
      have HS2L := Lib.hid hS2l
      have HVF := Lib.hid hvF
      have HVM := Lib.hid hvm
      have HVQ := Lib.hid hvq
      have HNE := Lib.hid hne
      have HL3 := Lib.hid l3
      have t0 : decide (0 < n) = true := by simp; omega
      have t1 : (n : Int) - 1 = (e : Int) := by omega
      have t2 : (e : Int) < (n : Int) := by omega
      have t3 : e < n := by omega
      have t4 : (v : Int) < (d.q : Int) := by omega
      have hec : e ≤ c := by omega
      have hnb : n ≤ 7000 := by omega
      obtain ⟨b, hb⟩ : ∃ b, b = M1.getD v false := ⟨_, rfl⟩
      rw [← hb] at m1
      have HBB := Lib.hid hb
      clear hne hn hsp hS2 hz hho hv1 hvF hroom hS2l hvm hrow hcut hlow hb l3
      cases b with
      | true =>
        have HE : Hid (HoldI d B V ls out M S w wo (.slice (some ⟨t, 0, none⟩) e c) M1 S2) := Lib.hid ⟨HI.out.1, HI.out.2.1, ho_skip HHO.out (by simpa using HBB.out.symm), HCUT.out⟩
        clear m2
        go_wp2_with fail
        go_roundw
        case rel => exact ⟨_, M1, S2, rfl, HE⟩
        case measure => show e + _ < n + _; omega
      | false =>
        obtain ⟨hd1, hm1⟩ := HI.out.1.setM v true
        have hne : d.tm ≠ t := by have := HLOW.out; have := HL3.out; omega
        have hrow1 := own_moved HCUT.out (dw_set d.tv d.tm d.tm v (.inr rfl) wo (.bool true)) (fun k hk e => by
          have hk' : t = k := by simpa [Value.ownBlock] using hk
          have := HLOW.out; have := HL3.out
          rcases e with e | e <;> omega)
        obtain ⟨W2, hW2⟩ : ∃ W2, W2 = wo.setCell ⟨d.tm, v, none⟩ (.bool true) := ⟨_, rfl⟩
        rw [← hW2] at hd1 hm1 hrow1
        have HD1 := Lib.hid hd1
        have HM1 := Lib.hid (HI.out.2.1.trans hm1)
        have HR1 := Lib.hid hrow1
        have HC := Lib.hid (causes_any d V _ v W2 hd1.toDp HGN.out HVM.out)
        have hcf := cause_fo (ns := d.ns) (ls := ls) (out := out) HGN.out (by rw [HML.out.2.2.2]; have := HLN.out; omega) (v := v) (by rw [HML.out.2.2.2]; exact HVM.out) HVF.out
        have hlc := causeL_len V d.ns v
        rw [← HV.out, HML.out.2.2.2] at hcf
        obtain ⟨C, hC⟩ : ∃ C, C = causeL V d.ns v := ⟨_, rfl⟩
        rw [← hC] at HC hcf hlc
        have HHO2 : Hid (Ho (d.ns.map absN) ls out M S (M1.set v true) (S2 ++ C)) := Lib.hid (ho_mark HHO.out HBB.out.symm (fun c hc => by
          obtain ⟨j, h1, h2, h3⟩ := hcf c hc
          exact ⟨j, h1, by rw [HML.out.2.1]; have := HLN.out; omega, h3⟩) hlc)
        have HLC := Lib.hid hlc
        have HSZ : Hid (B ≤ W2.heap.size) := Lib.hid (by have := hd1.low; omega)
        have hcnt : cntF (M1.set v true) + 1 = cntF M1 := cntF_set (by have := hd1.toDp.lens.2.1; rw [List.length_set] at this; have := HVQ.out; omega) HBB.out.symm
        have HCNT := Lib.hid hcnt
        have HCW0 := Lib.hid (cntW_eq HI.out.1.toDp)
        clear hd1 hm1 hrow1 hcf hlc hC hne hcnt
        go_upto_region 5 with fail
        rw [← hW2]
        clear hW2 c4 m1 m2
        go_wp2_with fail
        go_at_call 47; refine HC.out.mono ?_; rintro e3 w3 ⟨u, rfl, r3, b3⟩
        obtain ⟨ua, uc, rfl⟩ := own_sliceI r3
        have HR3 := Lib.hid r3
        obtain ⟨hd3, hm3⟩ := HD1.out.on b3
        have HD3 := Lib.hid hd3
        have HM3 := Lib.hid (HM1.out.trans hm3)
        have HRR := Lib.hid (own_on HR1.out b3)
        have hsz3 : B ≤ w3.heap.size := Nat.le_trans HSZ.out b3.size
        clear r3 b3 hd3 hm3
        go_wp2_with (at_builtin; refine wpList_appO (by simp [Region.wanted]) (.tmp 33) (.tmp 36) rfl rfl rfl HRR.out HR3.out (by have := HS2L.out; have := HLC.out; omega) hsz3 ?_)
        intro v4 w4 hown hgrow
        replace hown : w4.ownsRow B 3 1 v4 (S2 ++ C).length ((S2 ++ C).map (Value.int .i64)) := by rw [List.length_append, List.map_append]; exact hown
        obtain ⟨hd4, hm4⟩ := HD3.out.moved hgrow (fun k hk => by
          have hk' : t = k := by simpa [Value.ownBlock] using hk
          have := HL3.out; omega)
        have HE : Hid (HoldI d B V ls out M S w w4 v4 (M1.set v true) (S2 ++ C)) := Lib.hid ⟨hd4, HM3.out.trans hm4, HHO2.out, hown⟩
        have HCW4 := Lib.hid (cntW_eq hd4.toDp)
        have HLV : Hid (lenOf v4 ≤ e + 2) := Lib.hid (by
          obtain ⟨a4, c4, rfl⟩ := own_sliceI hown
          show (S2 ++ C).length ≤ e + 2
          rw [List.length_append, HS2L.out]; have := HLC.out; omega)
        clear hown hgrow hd4 hm4 hsz3
        go_wp2_with fail
        go_roundw
        case rel => exact ⟨v4, _, _, rfl, HE⟩
        case measure =>
          have h1 := HCW4.out
          have h2 := HCW0.out
          have h3 := HLV.out
          have h4 := HCNT.out
          show lenOf v4 + 3 * cntW d.tm d.q w4 < n + 3 * cntW d.tm d.q wo
          rw [h1, h2]; omega
end Go.Proofs.Ytoacedadfjoneaa.aig
