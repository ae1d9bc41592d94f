/- The walk of the project's Cut. (Printed by mkE7.py.) -/
import Derived.Test.YtbdmndhjbemenaaE6
import Derived.Test.YtbdmndhjbemenaaC8
import Derived.Lib.SliceRun
namespace Go.Proofs.Ytbdmndhjbemenaa.aig
open Go.RowKit
open Go.Proofs.Ytbdmndhjbemenaa.mem Go.Proofs.Ytbdmndhjbemenaa.agf Go.Proofs.Ytbdmndhjbemenaa.fns
open Go.Proofs.Ytbdmndhjbemenaa.ints (Ints ints_of_owned)

theorem padI_getD {L : List Int} {n j : Nat} (h : j < L.length) : (padI L n).getD j 0 = L.getD j 0 := by
  have := pad_at (n := n) h
  simp only [List.getD, this]; rfl
theorem padI_lit {L : List Int} {n x : Nat} (h : x / 2 < L.length) : litAt (padI L n) x = litAt L x := by
  unfold litAt; rw [padI_getD h]
/-- the small net, which grows, beside the places, which are filled -/
structure CQ (B T q0 : Nat) (w1 wr : World) (ov : Value) (M : Net) (L : List Int) : Prop where
  o : wr.ownsRow B 37 2 ov M.length (nodeCells (M.map conc))
  a : wr.ownsRow w1.heap.size 3 1 (.slice (some ⟨T, 0, none⟩) q0 q0) q0 ((padI L q0).map (Value.int .i64))
  b : Below w1.heap.size w1 wr
  lay : w1.heap.size ≤ T ∧ T < B
  room : B ≤ wr.heap.size
section
variable {B T q0 : Nat} {w1 wr wr' : World} {ov : Value} {M : Net} {L : List Int}
theorem CQ.on (c : CQ B T q0 w1 wr ov M L) (hb : Below wr.heap.size wr wr') : CQ B T q0 w1 wr' ov M L :=
  ⟨own_on c.o hb, own_on c.a hb, c.b.trans (hb.mono c.b.size), c.lay, Nat.le_trans c.room hb.size⟩
theorem CQ.set (c : CQ B T q0 w1 wr ov M L) (hl : L.length < q0) (r : Int) : CQ B T q0 w1 (wr.setCell ⟨T, L.length, none⟩ (.int .i64 r)) ov M (L ++ [r]) := by
  refine ⟨ownsRow_setCell_below c.o (a := ⟨T, L.length, none⟩) c.lay.2 _, ?_, c.b.setCell (p := ⟨T, L.length, none⟩) c.lay.1 _, c.lay, by simp; exact c.room⟩
  have h := (c.a.stored L.length (.int .i64 r)).1
  rw [← List.map_set, pad_set hl] at h; exact h
theorem CQ.addO {t c2 : Nat} {x : Nd} {w3 : World} {o : Obj} (c : CQ B T q0 w1 wr ov M L) (hown : w3.ownsRow B 37 2 (.slice (some ⟨t, 0, none⟩) (M.length + 1) c2) (M.length + 1) (nodeCells (M.map conc) ++ [.int .i64 (conc x).1, .int .i64 (conc x).2]))
    (hg : (wr.alloc o).grownBy w3 ov.ownBlock) : CQ B T q0 w1 w3 (.slice (some ⟨t, 0, none⟩) (M.length + 1) c2) (M ++ [x]) L := by
  have ha : Below wr.heap.size wr (wr.alloc o) := (Below.refl _ _).alloc (Nat.le_refl _) _
  have hz := c.b.size
  have hl := c.lay
  refine ⟨?_, own_kept c.a ha hg (fun k hk e => ?_), (c.b.trans (ha.mono hz)).grown hg (by simp; omega) (fun k hk => by have := (c.o.lt k hk).1; omega), hl, Nat.le_trans c.room (Nat.le_trans ha.size hg.size)⟩
  · rw [nodeCells_snoc] at hown
    rw [List.length_append, List.length_singleton, List.map_append]; exact hown
  · have e1 : T = k := by simpa [Value.ownBlock] using hk
    have := (c.o.lt k e).1
    omega
end
theorem Of_at (m : Nat) (w : World) (h0 : 1 ≤ m) (h1 : m ≤ 2000) : Calls Try.prog 34 #[.int .i64 (m : Int), .bool false] w fun e w' => e = .returned (.int .i64 (2 * (m : Int))) ∧ w = w' := by
  have h := lits.Of_any (m : Int) false w
  rw [of_pos (by omega) (by omega)] at h; exact h
set_option maxRecDepth 100000 in
set_option maxHeartbeats 1000000 in
theorem cut_any (v u : Value) (ns : List (Int × Int)) (zs : List Int) (w : World) (hv : KNds (fun _ => False) w v ns) (hg : GoodN ns) (hn : ns.length ≤ 1000) (hu : Ints w u zs) :
    Calls Try.prog 20 #[v, u] w (CutTold (cutTo (ns.map absN) (ofB (ns.map absN) zs) ns.length) w) := by
  have hk : ∀ W : World, ∀ a n c, (binOp .eql 33 (.slice a n c) (.slice none 0 0)).run Try.prog W = .ok (.bool a.isNone) W := fun W a n c => Lib.run_eql_slice_nil W 33 4 a n c 0 0 Try.underlying33
  have HC := Lib.hid (reached_any v u ns zs w hv hg hn hu)
  have HRL := Lib.hid (reach_len (ns.map absN) zs)
  have HRA := Lib.hid (fun i (h : i < (ns.map absN).length) => reach_at zs (i := i) h)
  have HOK := Lib.hid (cut_ok (good_abs hg) (S := ofB (ns.map absN) zs) (fun i a b e h => of_down (good_abs hg) h e))
  have HDN := Lib.hid (fun i x y (h : ofB (ns.map absN) zs i = true) (e : (ns.map absN)[i]? = some (some (x, y))) => of_down (good_abs hg) h e)
  rw [List.length_map] at HOK HRL HRA
  obtain ⟨f, hf⟩ : ∃ f, f = ofB (ns.map absN) zs := ⟨_, rfl⟩
  rw [← hf] at HOK HDN HRA ⊢
  obtain ⟨BL, hBL⟩ : ∃ BL, BL = reachL (ns.map absN) zs := ⟨_, rfl⟩
  rw [← hBL] at HC HRL HRA
  obtain ⟨q0, hq0⟩ : ∃ q0, q0 = BL.length := ⟨_, rfl⟩
  have HQ := Lib.hid hq0
  obtain ⟨i0, hi, hz0, hz1, hz2⟩ := info_parts infoI
  obtain ⟨j0, hj, hy0, hy1, hy2⟩ := info_parts infoN
  obtain ⟨a, cap, rfl, l1, l2⟩ := hv.form
  unfold maxLen at l2
  obtain ⟨m, hm⟩ : ∃ m, m = ns.length := ⟨_, rfl⟩
  rw [← hm] at l1 hn hv HC HOK HRL HRA ⊢
  have HQM : Hid (q0 = m + 1) := Lib.hid (by rw [hq0]; exact HRL.out)
  have q2 : q0 ≤ 1001 := by have := HQM.out; omega
  have q3 : m < q0 := by have := HQM.out; omega
  have HV := Lib.hid hv
  have HM := Lib.hid hm
  have HG := Lib.hid hg
  clear hv hm hg hf hu hBL hq0 HRL
  go_enter Try.func20, Try.ntmps20
  go_wp2_with fail
  go_at_call 26; refine HC.out.mono ?_; rintro e w1 ⟨R, rfl, o1, b1⟩
  rw [← HQ.out] at o1
  rw [← HQ.out]
  have HRl := Lib.hid (o1.lt R rfl).2
  have HKB : Hid (∀ j, j < m → w1.cell? ⟨R, j + 1, none⟩ = some (.bool (f j))) := Lib.hid (fun j hj => by
    have hjl : j + 1 < BL.length := by rw [← HQ.out]; omega
    rw [o1.cellAt (j + 1) (by omega), List.getElem?_map, List.getElem?_eq_getElem hjl, ← HRA.out j hj]
    simp [List.getD, hjl])
  have HB1 := Lib.hid b1
  have hz := Nat.le_refl w1.heap.size
  clear o1 b1 HC
  go_wp2_with (refine wpList_make_full _ rfl (.tmp 18) (.tmp 18) 23 rfl w1.heap.size 3 i0 (.int .i64 0) 1 Try.underlying23 hi hz0 hz1 .i64 .i64 _ _ q0 rfl rfl rfl rfl (by rw [hz2]; omega) (by unfold maxLen; omega) hz ?_)
  intro w2 hown hgrow
  have HB2 : Hid (Below w1.heap.size w1 w2) := Lib.hid ((Below.refl _ w1).grown hgrow hz (fun k hk => by cases hk))
  rw [show (madeCells #[Value.int IntKind.i64 0] q0).toList = (padI [0] q0).map (Value.int .i64) by rw [HQM.out]; exact made_pad m] at hown
  obtain ⟨T, hT⟩ : ∃ T, T = w1.heap.size := ⟨_, rfl⟩
  obtain ⟨B, hB⟩ : ∃ B, B = w2.heap.size := ⟨_, rfl⟩
  have HCQ : Hid (CQ B T q0 w1 w2 (.slice none 0 0) [] [0]) := Lib.hid (by
    refine ⟨World.ownsRow_nil _ _ _ _, by rw [hT]; exact hown, HB2.out, ⟨by omega, ?_⟩, by omega⟩
    rw [hB, hT]; exact (hown.lt _ rfl).2)
  rw [← hT]
  clear hown hgrow hz hT hB HB2
  go_wp2_with fail
  go_loopw [7, 22] (fun o i wr => ∃ (k : Nat) (M : Net) (L : List Int) (ov : Value), k ≤ m ∧ i = .int .i64 k ∧ o = ov ∧ Hid (cutTo (ns.map absN) f k = (M, L)) ∧ Hid (CQ B T q0 w1 wr ov M L)) (fun _ i _ => m - (intOf i).toNat)
  case atStart => exact ⟨0, [], [0], _, Nat.zero_le _, rfl, rfl, Lib.hid rfl, HCQ⟩
  case round =>
    clear HCQ
    obtain ⟨k, M, L, ov, hk, rfl, hov, HCT, HW⟩ := hrel
    obtain rfl : ov = _ := hov.symm
    obtain ⟨wo, rfl⟩ : ∃ wo : World, wo = wr := ⟨_, rfl⟩
    have HK := Lib.hid (HOK.out k hk)
    rw [HCT.out] at HK
    have HLL : Hid (L.length = k + 1) := Lib.hid HK.out.len
    by_cases hlt : k < m
    · have HC1 := Lib.hid (fun h => cut_no (N := ns.map absN) (f := f) (k := k) h)
      have HC2 := Lib.hid (fun h => cut_yes (N := ns.map absN) (f := f) (k := k) h)
      rw [HCT.out] at HC1 HC2
      simp only at HC1 HC2
      have HWB : Hid (Below w.heap.size w wo) := Lib.hid (HB1.out.trans (HW.out.b.mono HB1.out.size))
      have hMM : M.length ≤ 1000 := by have := HK.out.few; simp only at this; omega
      obtain ⟨nb, noff, hna, hnbl, e2, e3⟩ := (HV.out.on HWB.out).at_ hlt
      subst hna
      have HAT := Lib.hid (absN_at (ns := ns) (k := k) (by rw [← HM.out]; exact hlt))
      have hgg := HG.out k (by rw [← HM.out]; exact hlt)
      have HDK := Lib.hid (fun x y => HDN.out k x y)
      obtain ⟨pq, hpq⟩ : ∃ pq, pq = ns.getD k (0, 0) := ⟨_, rfl⟩
      rw [← hpq] at e2 e3 HAT hgg
      obtain ⟨p, q⟩ := pq
      simp only at e2 e3 hgg
      have d1 : (k : Int) < (m : Int) := by omega
      have d2 : 0 ≤ (k : Int) := by omega
      have d4 : (k : Int) + 1 < (q0 : Int) := by omega
      have z1 := (HW.out.b.cell (p := ⟨R, k + 1, none⟩) HRl.out).trans (HKB.out k hlt)
      clear hpq
      go_upto_region 9 with fail
      obtain ⟨W1, hW1⟩ : ∃ W1, W1 = wo.alloc (.cells #[.int .i64 p, .int .i64 q] 37) := ⟨_, rfl⟩
      obtain ⟨X, hX⟩ : ∃ X, X = wo.heap.size := ⟨_, rfl⟩
      have x0 : W1.cell? ⟨X, 0, none⟩ = some (.int .i64 p) := by rw [hW1, hX]; exact (box_at _ _ _ _).1
      have x1 : W1.cell? ⟨X, 1, none⟩ = some (.int .i64 q) := by rw [hW1, hX]; exact (box_at _ _ _ _).2
      have HBX : Hid (Below wo.heap.size wo W1) := Lib.hid (by rw [hW1]; exact box_below wo p q _)
      replace z1 := (HBX.out.cell (p := ⟨R, k + 1, none⟩) (Nat.lt_of_lt_of_le HRl.out HW.out.b.size)).trans z1
      have HX1 := Lib.hid (HW.out.on HBX.out)
      rw [← hX, ← hW1]
      clear hX hW1 e2 e3
      cases hfk : f k with
      | false =>
        rw [hfk] at z1
        have HF := Lib.hid (HC1.out hfk)
        have HX8 : Hid (CQ B T q0 w1 (W1.setCell ⟨T, k + 1, none⟩ (.int .i64 (-1))) ov M (L ++ [-1])) := Lib.hid (by
          have h := CQ.set HX1.out (by rw [HLL.out]; omega) (-1)
          rw [HLL.out] at h; exact h)
        have f3 := HX1.out.a.frozenAt (k + 1)
        have z3 := HX1.out.a.cellAt (k + 1) (by omega)
        obtain ⟨u3, hu3⟩ : ∃ u, ((padI L q0).map (Value.int .i64))[k + 1]? = some u := ⟨_, List.getElem?_eq_getElem (by rw [List.length_map, pad_len (by rw [HLL.out]; omega)]; omega)⟩
        rw [hu3] at z3
        clear hfk hu3 hgg
        go_wp2_with fail
        go_roundw
        case rel => exact ⟨k + 1, M, L ++ [-1], ov, by omega, by go_num, rfl, HF, HX8⟩
        case measure => simp [intOf]; omega
      | true =>
        rw [hfk] at z1
        have HF0 := Lib.hid (HC2.out hfk)
        replace HDK := Lib.hid (fun x y => HDK.out x y hfk)
        clear hfk
        by_cases g0 : p < 0
        · have HF : Hid (cutTo (ns.map absN) f (k + 1) = (M ++ [none], L ++ [2 * ((M.length : Int) + 1)])) := Lib.hid (by
            rw [HF0.out, HAT.out]; unfold absN; rw [if_pos g0])
          have HRN := Lib.hid (fun u' w' => renum_in p q u' w' g0)
          clear g0 hgg
          go_wp2_with fail
          go_at_call 33; refine (HRN.out _ _).mono ?_; rintro e W4 ⟨rfl, hb⟩
          have HX := Lib.hid (HX1.out.on hb)
          clear hb x0 x1
          have HRO := Lib.hid (own_on HX.out.o ((Below.refl _ W4).alloc (Nat.le_refl _) (.cells #[.int .i64 (-1), .int .i64 0] 37)))
          have hBz := HX.out.room
          go_wp2_with (at_builtin; refine wpList_append_lies _ rfl (.tmp 37) (.tmp 41) 22 rfl B 37 j0 _ 2 16 Try.underlying22 hj hy0 hy1 hy2 rfl (by decide) ov M.length (nodeCells (M.map conc)) rfl HRO.out ⟨W4.heap.size, 0, none⟩ 1 1 [.int .i64 (-1), .int .i64 0] rfl rfl (news_pair _ _ _ _) (pair_cell8 _ _) (by omega) (by unfold maxLen; omega) (by omega) (by simp; omega) _ rfl ?_)
          intro t1 c1 w7 hown hgrow hat _
          have HX7 : Hid (CQ B T q0 w1 w7 (.slice (some ⟨t1, 0, none⟩) (M.length + 1) c1) (M ++ [none]) L) := Lib.hid (CQ.addO HX.out (by exact hown) hgrow)
          have HX8 : Hid (CQ B T q0 w1 (w7.setCell ⟨T, k + 1, none⟩ (.int .i64 (2 * ((M.length : Int) + 1)))) (.slice (some ⟨t1, 0, none⟩) (M.length + 1) c1) (M ++ [none]) (L ++ [2 * ((M.length : Int) + 1)])) := Lib.hid (by
            have h := CQ.set HX7.out (by rw [HLL.out]; omega) (2 * ((M.length : Int) + 1))
            rw [HLL.out] at h; exact h)
          have f3 := HX7.out.a.frozenAt (k + 1)
          have z3 := HX7.out.a.cellAt (k + 1) (by omega)
          obtain ⟨u3, hu3⟩ : ∃ u, ((padI L q0).map (Value.int .i64))[k + 1]? = some u := ⟨_, List.getElem?_eq_getElem (by rw [List.length_map, pad_len (by rw [HLL.out]; omega)]; omega)⟩
          rw [hu3] at z3
          clear hown hgrow hat hu3
          go_wp2_with fail
          go_at_call 34; refine (lits.Of_any _ _ _).mono ?_; rintro e w' ⟨rfl, rfl⟩
          trace_state
          rw [of_pos (by omega) (by omega)]
          have e0 : 2 * ((M.length : Int) + 1) = 2 * (M.length : Int) + 2 := by omega
          clear e0
          go_wp2_with fail
          go_roundw
          case rel => exact ⟨k + 1, M ++ [none], L ++ [2 * ((M.length : Int) + 1)], _, by omega, by go_num, rfl, HF, HX8⟩
          case measure => simp [intOf]; omega
        · obtain ⟨g1, g2, g3⟩ := hgg (by omega)
          obtain ⟨x, rfl⟩ := Int.eq_ofNat_of_zero_le (show 0 ≤ p by omega)
          obtain ⟨y, rfl⟩ := Int.eq_ofNat_of_zero_le g2
          have e4 : (ns.map absN)[k]? = some (some (x, y)) := by
            rw [HAT.out]; unfold absN; rw [if_neg g0]; simp
          obtain ⟨s1, s2⟩ := HDK.out x y e4
          have la := HK.out.lit (a := x) (by omega) s1
          have lb := HK.out.lit (a := y) (by omega) s2
          have pa := HK.out.pl (a := x) (by omega) s1
          have pb := HK.out.pl (a := y) (by omega) s2
          simp only at la lb pa pb
          have HF : Hid (cutTo (ns.map absN) f (k + 1) = (M ++ [some ((litAt L x).toNat, (litAt L y).toNat)], L ++ [2 * ((M.length : Int) + 1)])) := Lib.hid (by rw [HF0.out, e4])
          have hLq : L.length ≤ q0 := by rw [HLL.out]; omega
          have hx3 : x / 2 < L.length := by rw [HLL.out]; omega
          have hy3 : y / 2 < L.length := by rw [HLL.out]; omega
          have HRN : Hid (Calls Try.prog 33 #[.agg #[.int .i64 (x : Int), .int .i64 (y : Int)], .slice (some ⟨T, 0, none⟩) q0 q0] W1 fun e w' => e = .returned (.agg #[.int .i64 (litAt L x), .int .i64 (litAt L y)]) ∧ Below W1.heap.size W1 w') := Lib.hid (by
            have hr := HX1.out.a
            have hpl := pad_len (L := L) (n := q0) hLq
            have hI : Ints W1 (.slice (some ⟨T, 0, none⟩) q0 q0) (padI L q0) := ints_of_owned (B := w1.heap.size) (by rw [hpl]; exact hr)
            have := renum_gate x y _ (padI L q0) W1 hI (by omega) (by omega) (by omega) (by rw [padI_getD hx3]; exact ⟨pa.1, by omega, pa.2.1⟩) (by rw [padI_getD hy3]; exact ⟨pb.1, by omega, pb.2.1⟩)
            rw [padI_lit hx3, padI_lit hy3] at this; exact this)
          have ha0 := has_iff.1 la.1
          have hb0 := has_iff.1 lb.1
          obtain ⟨A1, hA1⟩ : ∃ A1, A1 = litAt L x := ⟨_, rfl⟩
          obtain ⟨B1, hB1⟩ : ∃ B1, B1 = litAt L y := ⟨_, rfl⟩
          rw [← hA1] at HRN ha0
          rw [← hB1] at HRN hb0
          have HCA : Hid ((conc (some ((litAt L x).toNat, (litAt L y).toNat))).1 = A1) := Lib.hid (by rw [← hA1, ← hB1]; show ((A1.toNat : Nat) : Int) = _; omega)
          have HCB : Hid ((conc (some ((litAt L x).toNat, (litAt L y).toNat))).2 = B1) := Lib.hid (by rw [← hA1, ← hB1]; show ((B1.toNat : Nat) : Int) = _; omega)
          clear g0 hgg g1 g2 g3 s1 s2 la lb pa pb ha0 hb0 hA1 hB1 e4 hx3 hy3 hLq
          go_wp2_with fail
          go_at_call 33; refine HRN.out.mono ?_; rintro e W4 ⟨rfl, hb⟩
          have HX := Lib.hid (HX1.out.on hb)
          clear hb x0 x1
          have HRO := Lib.hid (own_on HX.out.o ((Below.refl _ W4).alloc (Nat.le_refl _) (.cells #[.int .i64 A1, .int .i64 B1] 37)))
          have hBz := HX.out.room
          go_wp2_with (at_builtin; refine wpList_append_lies _ rfl (.tmp 37) (.tmp 41) 22 rfl B 37 j0 _ 2 16 Try.underlying22 hj hy0 hy1 hy2 rfl (by decide) ov M.length (nodeCells (M.map conc)) rfl HRO.out ⟨W4.heap.size, 0, none⟩ 1 1 [.int .i64 A1, .int .i64 B1] rfl rfl (news_pair _ _ _ _) (pair_cell8 _ _) (by omega) (by unfold maxLen; omega) (by omega) (by simp; omega) _ rfl ?_)
          intro t1 c1 w7 hown hgrow hat _
          have HX7 : Hid (CQ B T q0 w1 w7 (.slice (some ⟨t1, 0, none⟩) (M.length + 1) c1) (M ++ [some ((litAt L x).toNat, (litAt L y).toNat)]) L) := Lib.hid (CQ.addO HX.out (by rw [HCA.out, HCB.out]; exact hown) hgrow)
          have HX8 : Hid (CQ B T q0 w1 (w7.setCell ⟨T, k + 1, none⟩ (.int .i64 (2 * ((M.length : Int) + 1)))) (.slice (some ⟨t1, 0, none⟩) (M.length + 1) c1) (M ++ [some ((litAt L x).toNat, (litAt L y).toNat)]) (L ++ [2 * ((M.length : Int) + 1)])) := Lib.hid (by
            have h := CQ.set HX7.out (by rw [HLL.out]; omega) (2 * ((M.length : Int) + 1))
            rw [HLL.out] at h; exact h)
          have f3 := HX7.out.a.frozenAt (k + 1)
          have z3 := HX7.out.a.cellAt (k + 1) (by omega)
          obtain ⟨u3, hu3⟩ : ∃ u, ((padI L q0).map (Value.int .i64))[k + 1]? = some u := ⟨_, List.getElem?_eq_getElem (by rw [List.length_map, pad_len (by rw [HLL.out]; omega)]; omega)⟩
          rw [hu3] at z3
          clear hown hgrow hat hu3
          go_wp2_with fail
          go_at_call 34; refine (lits.Of_any _ _ _).mono ?_; rintro e w' ⟨rfl, rfl⟩
          trace_state
          rw [of_pos (by omega) (by omega)]
          have e0 : 2 * ((M.length : Int) + 1) = 2 * (M.length : Int) + 2 := by omega
          clear e0
          go_wp2_with fail
          go_roundw
          case rel => exact ⟨k + 1, M ++ [some ((litAt L x).toNat, (litAt L y).toNat)], L ++ [2 * ((M.length : Int) + 1)], _, by omega, by go_num, rfl, HF, HX8⟩
          case measure => simp [intOf]; omega
    · obtain rfl : m = k := by omega
      have HE : Hid (CutTold (cutTo (ns.map absN) f m) w (.returned (.tuple #[ov, .slice (some ⟨T, 0, none⟩) q0 q0])) wo) := Lib.hid (by
        have hq : L.length = q0 := by rw [HLL.out]; exact HQM.out.symm
        have h2 := HW.out.a
        have hs := HB1.out.size
        have hl := HW.out.lay
        rw [pad_full hq, ← hq] at h2
        rw [HCT.out, ← hq]
        exact ⟨ov, _, rfl, Joins.ownsRow_le HW.out.o (by omega), Joins.ownsRow_le h2 hs, HB1.out.trans (HW.out.b.mono hs)⟩)
      clear hlt hk
      go_wp2_with fail
      go_ret2
      exact HE.out
end Go.Proofs.Ytbdmndhjbemenaa.aig
