/- The walk of the project's Above. (Printed by mkE4.py.) -/
import Derived.Test.YtbdmndhjbemenaaE3
namespace Go.Proofs.Ytbdmndhjbemenaa.aig
open Go.RowKit
open Go.Proofs.Ytbdmndhjbemenaa.mem Go.Proofs.Ytbdmndhjbemenaa.agf Go.Proofs.Ytbdmndhjbemenaa.fns
open Go.Proofs.Ytbdmndhjbemenaa.ints (Ints ints_of_owned)

theorem padB_no {L : List Bool} {n : Nat} (h : L.length < n) : padB (L ++ [false]) n = padB L n := by
  unfold padB
  rw [show n - L.length = (n - (L ++ [false]).length) + 1 by simp; omega, List.replicate_succ]
  simp
theorem above_no {N : Net} (hN : agf.Good N) {x : Int} (h : ¬ (1 ≤ x ∧ x ≤ (N.length : Int))) (k : Nat) : selTo (aboveB N x) k = [] := by
  induction k with
  | zero => rfl
  | succ k ih =>
    rw [sel_no, ih]
    cases e : aboveB N x k with
    | false => rfl
    | true =>
      obtain ⟨h1, h2, h3, h4⟩ := hangs_iff.1 e
      have := hang_le hN _ h4
      omega
theorem above_at {N : Net} {y k : Nat} (hy : 1 ≤ y) (hk : k < N.length) : aboveB N (y : Int) k = (upL N y (k + 1)).getD (k + 1) false := by
  rw [hang_up (Nat.le_refl _) hk]
  show hangsB N (2 * ((k : Int) + 1)) (y : Int) = _
  unfold hangsB
  rw [decide_eq_true (show (2 : Int) ≤ 2 * ((k : Int) + 1) by omega), decide_eq_true (show 2 * ((k : Int) + 1) / 2 ≤ (N.length : Int) by omega), decide_eq_true (show (1 : Int) ≤ (y : Int) by omega)]
  rw [show (2 * ((k : Int) + 1) / 2).toNat = k + 1 by omega, show ((y : Int)).toNat = y by omega]; rfl
theorem above_start {N : Net} (hN : agf.Good N) {y : Nat} (hy : 1 ≤ y) (hm : y ≤ N.length) : selTo (aboveB N (y : Int)) y = [(y : Int)] := by
  obtain ⟨k, rfl⟩ : ∃ k, y = k + 1 := ⟨y - 1, by omega⟩
  have h0 : ∀ j, j ≤ k → selTo (aboveB N ((k + 1 : Nat) : Int)) j = [] := by
    intro j
    induction j with
    | zero => intro _; rfl
    | succ j ih =>
      intro hj
      rw [sel_no, ih (by omega)]
      cases e : aboveB N ((k + 1 : Nat) : Int) j with
      | false => rfl
      | true =>
        obtain ⟨h1, h2, h3, h4⟩ := hangs_iff.1 e
        have := hang_le hN _ h4
        omega
  have h1 : aboveB N ((k + 1 : Nat) : Int) k = true := by
    rw [above_at hy (by omega), hang_up (Nat.le_refl _) (by omega)]
    exact hang_self hy hm
  rw [sel_yes h1, h0 k (Nat.le_refl _)]; simp
theorem up_last {N : Net} {y k : Nat} {r : Bool} (h : upL N y (k + 1) = upL N y k ++ [r]) : (upL N y (k + 1)).getD (k + 1) false = r := by
  have := snocB_r (upL N y k) r
  rw [up_len] at this
  rw [h]; exact this
theorem Var_at {l : Int} (h0 : 0 ≤ l) (h1 : l ≤ 33554433) (w : World) : Calls Try.prog 30 #[.int .i64 l] w fun e w' => e = .returned (.int .i64 (l / 2)) ∧ w = w' := by
  have h := lits.Var_any l w
  rw [var_yes (good_yes h0 h1)] at h
  exact h
/-- a row of truths and a list of ints, made later, behind an append to that -/
theorem above_end {R q0 B t c : Nat} {bs : List Bool} {lv : Value} {L : List Int} {r : Int} {w w1 w2 : World} {o : Obj} (hb : w1.ownsRow w.heap.size 4 1 (.slice (some ⟨R, 0, none⟩) q0 q0) q0 (bs.map Value.bool))
    (hl : w1.ownsRow B 3 1 lv L.length (L.map (Value.int .i64))) (hw : Below w.heap.size w w1)
    (hown : w2.ownsRow B 3 1 (.slice (some ⟨t, 0, none⟩) (L.length + 1) c) (L.length + 1) (L.map (Value.int .i64) ++ [.int .i64 r])) (hg : (w1.alloc o).grownBy w2 lv.ownBlock) (hRB : R < B) (hwB : w.heap.size ≤ B) :
    (w2.ownsRow w.heap.size 4 1 (.slice (some ⟨R, 0, none⟩) q0 q0) q0 (bs.map Value.bool) ∧ w2.ownsRow B 3 1 (.slice (some ⟨t, 0, none⟩) (L.length + 1) c) (L ++ [r]).length ((L ++ [r]).map (Value.int .i64))) ∧ Below w.heap.size w w2 := by
  have ha : Below w1.heap.size w1 (w1.alloc o) := (Below.refl _ _).alloc (Nat.le_refl _) _
  refine ⟨⟨own_kept hb ha hg (fun k hk e => ?_), ?_⟩, (hw.alloc hw.size o).grown hg (by simp; have := hw.size; omega) (fun k hk => Nat.le_trans hwB (hl.lt k hk).1)⟩
  · have e1 : R = k := by simpa [Value.ownBlock] using hk
    have := (hl.lt k e).1
    omega
  · rw [map_snocI] at hown
    rw [List.length_append, List.length_singleton]; exact hown
set_option maxRecDepth 100000 in
set_option maxHeartbeats 3200000 in
theorem above_any (v : Value) (ns : List (Int × Int)) (x : Int) (w : World) (hv : KNds (fun _ => False) w v ns) (hg : GoodN ns) (hn : ns.length ≤ 1000) (hx : In64 x) :
    Calls Try.prog 18 #[v, .int .i64 x] w (Told (selTo (aboveB (ns.map absN) x) ns.length) w) := by
  obtain ⟨i0, hi, hz0, hz1, hz2⟩ := info_parts infoB
  obtain ⟨i1, hj, hy0, hy1, hy2⟩ := info_parts infoI
  have HC := Lib.hid (check_any _ v ns w hv (by omega))
  rw [good_chk hg] at HC
  obtain ⟨a, cap, rfl, l1, l2⟩ := hv.form
  unfold maxLen at l2
  obtain ⟨m, hm⟩ : ∃ m, m = ns.length := ⟨_, rfl⟩
  have hN : (ns.map absN).length = m := by rw [List.length_map, hm]
  obtain ⟨N, hNN⟩ : ∃ N, N = ns.map absN := ⟨_, rfl⟩
  have hGN : agf.Good N := by rw [hNN]; exact good_abs hg
  rw [← hNN] at hN
  rw [← hm] at l1 hn hv HC
  rw [← hm, ← hNN]
  have HV := Lib.hid hv
  have HM := Lib.hid hm
  have HG := Lib.hid hg
  have HNE := Lib.hid hNN
  have HNL := Lib.hid hN
  have HGN := Lib.hid hGN
  clear hv hm hg hN hNN hGN
  unfold In64 at hx
  obtain ⟨hx0, hx1⟩ := hx
  have HNIL : Hid (¬ (1 ≤ x ∧ x ≤ (m : Int)) → ∀ w', Below w.heap.size w w' → Told (selTo (aboveB N x) m) w (.returned (.slice none 0 0)) w') := Lib.hid (fun h w' hb => by
    rw [above_no HGN.out (by rw [HNL.out]; exact h)]
    exact ⟨_, rfl, World.ownsRow_nil _ _ _ _, hb⟩)
  by_cases c1 : x < 1
  · have HE := Lib.hid (HNIL.out (by omega) _ (Below.refl _ w))
    go_enter Try.func18, Try.ntmps18
    go_wp2_with fail
    go_ret
    exact HE.out
  obtain ⟨y, rfl⟩ := Int.eq_ofNat_of_zero_le (show 0 ≤ x by omega)
  have y1 : 1 ≤ y := by omega
  have c1' : decide ((y : Int) < 1) = false := by simp; omega
  by_cases c2 : m < y
  · have HE := Lib.hid (HNIL.out (by omega) _ (Below.refl _ w))
    have c2' : decide (m < y) = true := by simp; omega
    have c2'' : (m : Int) < (y : Int) := by omega
    go_enter Try.func18, Try.ntmps18
    go_wp2_with fail
    go_ret
    exact HE.out
  have c2' : decide (m < y) = false := by simp; omega
  have hym : y ≤ m := by omega
  have HUS := Lib.hid (above_start HGN.out y1 (by rw [HNL.out]; exact hym))
  have HABO := Lib.hid (fun k (h : k < m) => above_at (N := N) (y := y) (k := k) y1 (by rw [HNL.out]; exact h))
  obtain ⟨q0, hq0⟩ : ∃ q0, q0 = m + 1 := ⟨_, rfl⟩
  have HQM := Lib.hid hq0
  have q1 : (m : Int) + 1 = (q0 : Int) := by omega
  have q2 : q0 ≤ 1001 := by omega
  have HQ1 := Lib.hid q1
  have HPS := Lib.hid (pad_start N (v := y) (n := q0) y1 (by omega))
  have b1 : (y : Int) < (q0 : Int) := by omega
  have b2 : 0 ≤ (y : Int) := by omega
  have b3 : y < q0 := by omega
  clear hq0 q1 HNIL hx0 hx1 c1 c2
  go_enter Try.func18, Try.ntmps18
  go_wp2_with fail
  go_at_call 32; refine HC.out.mono ?_; rintro e w1 ⟨rfl, hb1⟩
  have HB1 := Lib.hid hb1
  have hz := hb1.size
  clear hb1
  go_wp2_with (refine wpList_make_full _ rfl (.tmp 24) (.tmp 24) 33 rfl w.heap.size 4 i0 (.bool false) 1 Try.underlying33 hi hz0 hz1 .i64 .i64 _ _ q0 rfl rfl HQ1.out HQ1.out (by rw [hz2]; omega) (by unfold maxLen; omega) hz ?_)
  intro w2 hown hgrow
  obtain ⟨R, hR⟩ : ∃ R, R = w1.heap.size := ⟨_, rfl⟩
  have HB2 : Hid (Below w.heap.size w w2) := Lib.hid (HB1.out.grown hgrow hz (fun k hk => by cases hk))
  have HRw : Hid (w.heap.size ≤ R) := Lib.hid (by rw [hR]; exact hz)
  rw [madeB, ← hR] at hown
  have HRl : Hid (R < w2.heap.size) := Lib.hid (hown.lt R rfl).2
  have f1 := hown.frozenAt y
  have z1 := hown.cellAt y (by omega)
  obtain ⟨u1, hu1⟩ : ∃ u, ((padB [] q0).map Value.bool)[y]? = some u := ⟨_, List.getElem?_eq_getElem (by rw [List.length_map, padB_len (by simp)]; omega)⟩
  rw [hu1] at z1
  have HS1 : Hid ((w2.setCell ⟨R, y, none⟩ (.bool true)).ownsRow w.heap.size 4 1 (.slice (some ⟨R, 0, none⟩) q0 q0) q0 ((padB (upL N y y) q0).map Value.bool)) := Lib.hid (by
    have h := (hown.stored y (.bool true)).1
    rw [← List.map_set, HPS.out] at h; exact h)
  have HB3 : Hid (Below w.heap.size w (w2.setCell ⟨R, y, none⟩ (.bool true))) := Lib.hid (HB2.out.setCell (p := ⟨R, y, none⟩) HRw.out _)
  rw [← hR]
  clear hown hgrow hz hR hu1
  go_upto_region 5 with fail
  obtain ⟨W3, hW3⟩ : ∃ W3, W3 = w2.setCell ⟨R, y, none⟩ (.bool true) := ⟨_, rfl⟩
  have HRl3 : Hid (R < W3.heap.size) := Lib.hid (by rw [hW3]; simpa using HRl.out)
  rw [← hW3] at HS1 HB3 ⊢
  clear hW3 f1 z1 HB2 HRl HB1
  obtain ⟨B, hB⟩ : ∃ B, B = W3.heap.size := ⟨_, rfl⟩
  have HRB : Hid (R < B) := Lib.hid (by rw [hB]; exact HRl3.out)
  have HwB : Hid (w.heap.size ≤ B) := Lib.hid (by rw [hB]; exact HB3.out.size)
  have HI4 : Hid ((W3.alloc (.cells #[.int .i64 (y : Int)] 3)).ownsRow B 3 1 (.slice (some ⟨W3.heap.size, 0, none⟩) 1 1) 1 [.int .i64 (y : Int)]) := Lib.hid (by
    have h := World.ownsRow_lit (base := B) (e := 3) (size := 1) W3 #[.int .i64 (y : Int)] 1 (by rw [hB]; exact Nat.le_refl _) (by unfold maxLen; omega) rfl
    simpa using h)
  have HS4 := Lib.hid (own_on HS1.out ((Below.refl _ W3).alloc (Nat.le_refl _) (.cells #[.int .i64 (y : Int)] 3)))
  have HB4 := Lib.hid (HB3.out.alloc HB3.out.size (.cells #[.int .i64 (y : Int)] 3))
  have HBz4 : Hid (B ≤ (W3.alloc (.cells #[.int .i64 (y : Int)] 3)).heap.size) := Lib.hid (by rw [hB]; simp)
  clear hB HS1 HB3 HRl3
  go_wp2_with fail
  go_loopw [6, 7] (fun l i wr => ∃ (k : Nat) (L : List Int) (lv : Value), y ≤ k ∧ k ≤ m ∧ i = .int .i64 ((k : Int) + 1) ∧ l = lv ∧ L.length ≤ k ∧ Hid (B ≤ wr.heap.size) ∧ Hid (L = selTo (aboveB N (y : Int)) k) ∧ Hid ((wr.ownsRow w.heap.size 4 1 (.slice (some ⟨R, 0, none⟩) q0 q0) q0 ((padB (upL N y k) q0).map Value.bool) ∧ wr.ownsRow B 3 1 lv L.length (L.map (Value.int .i64))) ∧ Below w.heap.size w wr)) (fun _ i _ => m + 1 - (intOf i).toNat)
  case atStart => exact ⟨y, [(y : Int)], _, Nat.le_refl _, hym, by go_num, rfl, y1, HBz4, Lib.hid HUS.out.symm, Lib.hid ⟨⟨HS4.out, HI4.out⟩, HB4.out⟩⟩
  case round =>
    clear HS4 HI4 HB4
    obtain ⟨k, L, lv, hyk, hk, rfl, hlv, hL, HBz, HLI, HW⟩ := hrel
    obtain rfl : lv = _ := hlv.symm
    obtain ⟨wo, rfl⟩ : ∃ wo : World, wo = wr := ⟨_, rfl⟩
    by_cases hlt : k < m
    · have d0 : decide ((k : Int) + 1 ≤ (m : Int)) = true := by simp; omega
      obtain ⟨b, off, rfl, -, e1, e2⟩ := (HV.out.on HW.out.2).at_ hlt
      have HST := Lib.hid (fun r => up_step (ns := ns) y (k := k) (by rw [← HM.out]; exact hlt) hyk r)
      have hgg := HG.out k (by rw [← HM.out]; exact hlt)
      have HSY : Hid (upL N y (k + 1) = upL N y k ++ [true] → L ++ [(k : Int) + 1] = selTo (aboveB N (y : Int)) (k + 1)) := Lib.hid (fun h => by
        rw [sel_yes (by rw [HABO.out k hlt]; exact up_last h), HLI.out])
      have HSN : Hid (upL N y (k + 1) = upL N y k ++ [false] → L = selTo (aboveB N (y : Int)) (k + 1)) := Lib.hid (fun h => by
        rw [sel_no (by rw [HABO.out k hlt]; exact up_last h), HLI.out])
      have HUL := Lib.hid (up_len N y k)
      obtain ⟨pq, hpq⟩ : ∃ pq, pq = ns.getD k (0, 0) := ⟨_, rfl⟩
      rw [← hpq, ← HNE.out] at HST
      rw [← hpq] at e1 e2 hgg
      obtain ⟨p, q⟩ := pq
      simp only at e1 e2 hgg HST
      have hwz := HW.out.2.size
      have d1 : (k : Int) < (m : Int) := by omega
      have d2 : 0 ≤ (k : Int) := by omega
      have d3 : (k : Int) + 1 - 1 = (k : Int) := by omega
      have d4 : (k : Int) + 1 < (q0 : Int) := by have := HQM.out; omega
      have d5 : k + 1 < q0 := by have := HQM.out; omega
      clear hpq
      go_upto_region 10 with fail
      obtain ⟨W1, hW1⟩ : ∃ W1, W1 = wo.alloc (.cells #[.int .i64 p, .int .i64 q] 37) := ⟨_, rfl⟩
      obtain ⟨X, hX⟩ : ∃ X, X = wo.heap.size := ⟨_, rfl⟩
      have x0 : W1.cell? ⟨X, 0, none⟩ = some (.int .i64 p) := by rw [hW1, hX]; exact (box_at _ _ _ _).1
      have x1 : W1.cell? ⟨X, 1, none⟩ = some (.int .i64 q) := by rw [hW1, hX]; exact (box_at _ _ _ _).2
      have hXl : X < W1.heap.size := by rw [hW1, hX]; simp
      have HBX : Hid (Below wo.heap.size wo W1) := Lib.hid (by rw [hW1]; exact box_below wo p q _)
      rw [← hX, ← hW1]
      clear hX hW1 e1 e2
      by_cases g0 : p < 0
      · have HP : Hid (decide (p < 0) = true) := Lib.hid (decide_eq_true g0)
        replace HST := Lib.hid (fun r (h : r = false) => HST.out r (by rw [if_pos g0]; exact h))
        clear g0 hgg
        go_wp2_with fail
        go_at_call 28; refine (coneIn_of q HP.out _).mono ?_; rintro e w3 ⟨rfl, hb⟩
        have hb3 := HBX.out.trans (hb.mono HBX.out.size)
        have HRW3 := Lib.hid (And.intro (own_on HW.out.1.1 hb3) (own_on HW.out.1.2 hb3))
        have HB3 := Lib.hid (HW.out.2.trans (hb3.mono hwz))
        have HBz3 := Lib.hid (Nat.le_trans HBz.out hb3.size)
        clear hb hb3 x0 x1 hXl
        have HX := Lib.hid (HST.out false rfl)
        have HN := Lib.hid (HSN.out HX.out)
        have HE : Hid ((w3.ownsRow w.heap.size 4 1 (.slice (some ⟨R, 0, none⟩) q0 q0) q0 ((padB (upL N y (k + 1)) q0).map Value.bool) ∧ w3.ownsRow B 3 1 lv L.length (L.map (Value.int .i64))) ∧ Below w.heap.size w w3) := Lib.hid ⟨⟨by rw [HX.out, padB_no (by rw [HUL.out]; have := HQM.out; omega)]; exact HRW3.out.1, HRW3.out.2⟩, HB3.out⟩
        go_wp2_with fail
        go_roundw
        case rel => exact ⟨k + 1, L, lv, by omega, by omega, by go_num, rfl, by omega, HBz3, HN, HE⟩
        case measure => simp [intOf]; omega
      · have HP : Hid (decide (p < 0) = false) := Lib.hid (decide_eq_false g0)
        obtain ⟨g1, g2, g3⟩ := hgg (by omega)
        obtain ⟨x, rfl⟩ := Int.eq_ofNat_of_zero_le (show 0 ≤ p by omega)
        obtain ⟨z, rfl⟩ := Int.eq_ofNat_of_zero_le g2
        have hx2 : x ≤ 2001 := by omega
        have hz2' : z ≤ 2001 := by omega
        have b5 : x / 2 < q0 := by have := HQM.out; omega
        have b6 : z / 2 < q0 := by have := HQM.out; omega
        have k5 : x / 2 ≤ k := by omega
        have k6 : z / 2 ≤ k := by omega
        replace HST := Lib.hid (fun r (h : r = ((upL N y k).getD (x / 2) false || (upL N y k).getD (z / 2) false)) => HST.out r (by rw [if_neg g0]; exact h))
        clear g0 hgg g1 g2 g3
        go_wp2_with fail
        go_at_call 28; refine (coneIn_of (z : Int) HP.out _).mono ?_; rintro e w3 ⟨rfl, hb⟩
        have hb3 := HBX.out.trans (hb.mono HBX.out.size)
        have HRW3 := Lib.hid (And.intro (own_on HW.out.1.1 hb3) (own_on HW.out.1.2 hb3))
        have HB3 := Lib.hid (HW.out.2.trans (hb3.mono hwz))
        have HBz3 := Lib.hid (Nat.le_trans HBz.out hb3.size)
        have y0 := (hb.cell (p := ⟨X, 0, none⟩) hXl).trans x0
        have y9 := (hb.cell (p := ⟨X, 1, none⟩) hXl).trans x1
        have s1 := bcell HRW3.out.1 (k := x / 2) (by rw [HUL.out]; omega) (by rw [HUL.out]; omega)
        have s2 := bcell HRW3.out.1 (k := z / 2) (by rw [HUL.out]; omega) (by rw [HUL.out]; omega)
        have i5 : (x : Int) / 2 < (q0 : Int) := by omega
        have i6 : 0 ≤ (x : Int) / 2 := by omega
        have i7 : (z : Int) / 2 < (q0 : Int) := by omega
        have i8 : 0 ≤ (z : Int) / 2 := by omega
        obtain ⟨r1, hr1⟩ : ∃ r1, r1 = (upL N y k).getD (x / 2) false := ⟨_, rfl⟩
        obtain ⟨r2, hr2⟩ : ∃ r2, r2 = (upL N y k).getD (z / 2) false := ⟨_, rfl⟩
        rw [← hr1] at s1 HST
        rw [← hr2] at s2 HST
        clear hb hb3 x0 x1 hXl hr1 hr2
        go_wp2_with fail
        go_at_call 30; refine (Var_at (l := (x : Int)) (by omega) (by omega) _).mono ?_; rintro e w' ⟨rfl, rfl⟩
        cases r1 with
        | true =>
          replace HST := Lib.hid (fun r (h : r = true) => HST.out r (by rw [h]; rfl))
          have HX := Lib.hid (HST.out true rfl)
          have HN := Lib.hid (HSY.out HX.out)
          have HRO := Lib.hid (HRW3.out.2)
          have HB9 : Hid (w3.setCell ⟨R, k + 1, none⟩ (.bool true) |>.ownsRow w.heap.size 4 1 (.slice (some ⟨R, 0, none⟩) q0 q0) q0 ((padB (upL N y (k + 1)) q0).map Value.bool)) := Lib.hid (by
            have h := (HRW3.out.1.stored (k + 1) (.bool true)).1
            have hs := padB_set (L := upL N y k) (n := q0) (r := true) (by rw [HUL.out]; have := HQM.out; omega)
            rw [HUL.out] at hs
            rw [← List.map_set, hs, ← HX.out] at h; exact h)
          have HI9 : Hid (w3.setCell ⟨R, k + 1, none⟩ (.bool true) |>.ownsRow B 3 1 lv L.length (L.map (Value.int .i64))) := Lib.hid (ownsRow_setCell_below HRO.out (a := ⟨R, k + 1, none⟩) HRB.out _)
          have HBW : Hid (Below w.heap.size w (w3.setCell ⟨R, k + 1, none⟩ (.bool true))) := Lib.hid (HB3.out.setCell (p := ⟨R, k + 1, none⟩) HRw.out _)
          have f3 := HRW3.out.1.frozenAt (k + 1)
          have z3 := HRW3.out.1.cellAt (k + 1) (by have := HQM.out; omega)
          obtain ⟨u3, hu3⟩ : ∃ u, ((padB (upL N y k) q0).map Value.bool)[k + 1]? = some u := ⟨_, List.getElem?_eq_getElem (by rw [List.length_map, padB_len (by rw [HUL.out]; have := HQM.out; omega)]; have := HQM.out; omega)⟩
          rw [hu3] at z3
          clear hu3
          go_upto_region 12 with fail
          obtain ⟨W9, hW9⟩ : ∃ W9, W9 = w3.setCell ⟨R, k + 1, none⟩ (.bool true) := ⟨_, rfl⟩
          have hBz : B ≤ W9.heap.size := by rw [hW9]; simpa using HBz3.out
          rw [← hW9] at HB9 HI9 HBW ⊢
          clear hW9 f3 z3
          have HROW := Lib.hid (own_on HI9.out ((Below.refl _ W9).alloc (Nat.le_refl _) (.cells #[.int .i64 ((k : Int) + 1)] 3)))
          have hsz := HBW.out.size
          go_wp2_with (at_builtin; refine wpList_append_lies _ rfl (.tmp 66) (.tmp 68) 23 rfl B 3 i1 (.int .i64 0) 1 8 Try.underlying23 hj hy0 hy1 hy2 rfl (by decide) lv L.length (L.map (Value.int .i64)) rfl HROW.out ⟨W9.heap.size, 0, none⟩ 1 1 [.int .i64 ((k : Int) + 1)] rfl rfl (news1 _ _ _) (one_cell _) (by omega) (by unfold maxLen; omega) (by omega) (by simp; omega) _ rfl ?_)
          intro t2 c2 w7 hown hgrow hat _
          have HE : Hid ((w7.ownsRow w.heap.size 4 1 (.slice (some ⟨R, 0, none⟩) q0 q0) q0 ((padB (upL N y (k + 1)) q0).map Value.bool) ∧ w7.ownsRow B 3 1 (.slice (some ⟨t2, 0, none⟩) (L.length + 1) c2) (L ++ [(k : Int) + 1]).length ((L ++ [(k : Int) + 1]).map (Value.int .i64))) ∧ Below w.heap.size w w7) := Lib.hid (above_end HB9.out HI9.out HBW.out hown hgrow HRB.out HwB.out)
          have HBz7 : Hid (B ≤ w7.heap.size) := Lib.hid (by have := hgrow.size; simp at this; omega)
          clear hown hgrow hat
          go_wp2_with fail
          go_roundw
          case rel => exact ⟨k + 1, L ++ [(k : Int) + 1], .slice (some ⟨t2, 0, none⟩) (L.length + 1) c2, by omega, by omega, by go_num, rfl, by simp; omega, HBz7, HN, HE⟩
          case measure => simp [intOf]; omega
        | false =>
          go_wp2_with fail
          go_at_call 30; refine (Var_at (l := (z : Int)) (by omega) (by omega) _).mono ?_; rintro e w' ⟨rfl, rfl⟩
          cases r2 with
          | true =>
            replace HST := Lib.hid (fun r (h : r = true) => HST.out r (by rw [h]; rfl))
            have HX := Lib.hid (HST.out true rfl)
            have HN := Lib.hid (HSY.out HX.out)
            have HRO := Lib.hid (HRW3.out.2)
            have HB9 : Hid (w3.setCell ⟨R, k + 1, none⟩ (.bool true) |>.ownsRow w.heap.size 4 1 (.slice (some ⟨R, 0, none⟩) q0 q0) q0 ((padB (upL N y (k + 1)) q0).map Value.bool)) := Lib.hid (by
              have h := (HRW3.out.1.stored (k + 1) (.bool true)).1
              have hs := padB_set (L := upL N y k) (n := q0) (r := true) (by rw [HUL.out]; have := HQM.out; omega)
              rw [HUL.out] at hs
              rw [← List.map_set, hs, ← HX.out] at h; exact h)
            have HI9 : Hid (w3.setCell ⟨R, k + 1, none⟩ (.bool true) |>.ownsRow B 3 1 lv L.length (L.map (Value.int .i64))) := Lib.hid (ownsRow_setCell_below HRO.out (a := ⟨R, k + 1, none⟩) HRB.out _)
            have HBW : Hid (Below w.heap.size w (w3.setCell ⟨R, k + 1, none⟩ (.bool true))) := Lib.hid (HB3.out.setCell (p := ⟨R, k + 1, none⟩) HRw.out _)
            have f3 := HRW3.out.1.frozenAt (k + 1)
            have z3 := HRW3.out.1.cellAt (k + 1) (by have := HQM.out; omega)
            obtain ⟨u3, hu3⟩ : ∃ u, ((padB (upL N y k) q0).map Value.bool)[k + 1]? = some u := ⟨_, List.getElem?_eq_getElem (by rw [List.length_map, padB_len (by rw [HUL.out]; have := HQM.out; omega)]; have := HQM.out; omega)⟩
            rw [hu3] at z3
            clear hu3
            go_upto_region 12 with fail
            obtain ⟨W9, hW9⟩ : ∃ W9, W9 = w3.setCell ⟨R, k + 1, none⟩ (.bool true) := ⟨_, rfl⟩
            have hBz : B ≤ W9.heap.size := by rw [hW9]; simpa using HBz3.out
            rw [← hW9] at HB9 HI9 HBW ⊢
            clear hW9 f3 z3
            have HROW := Lib.hid (own_on HI9.out ((Below.refl _ W9).alloc (Nat.le_refl _) (.cells #[.int .i64 ((k : Int) + 1)] 3)))
            have hsz := HBW.out.size
            go_wp2_with (at_builtin; refine wpList_append_lies _ rfl (.tmp 66) (.tmp 68) 23 rfl B 3 i1 (.int .i64 0) 1 8 Try.underlying23 hj hy0 hy1 hy2 rfl (by decide) lv L.length (L.map (Value.int .i64)) rfl HROW.out ⟨W9.heap.size, 0, none⟩ 1 1 [.int .i64 ((k : Int) + 1)] rfl rfl (news1 _ _ _) (one_cell _) (by omega) (by unfold maxLen; omega) (by omega) (by simp; omega) _ rfl ?_)
            intro t2 c2 w7 hown hgrow hat _
            have HE : Hid ((w7.ownsRow w.heap.size 4 1 (.slice (some ⟨R, 0, none⟩) q0 q0) q0 ((padB (upL N y (k + 1)) q0).map Value.bool) ∧ w7.ownsRow B 3 1 (.slice (some ⟨t2, 0, none⟩) (L.length + 1) c2) (L ++ [(k : Int) + 1]).length ((L ++ [(k : Int) + 1]).map (Value.int .i64))) ∧ Below w.heap.size w w7) := Lib.hid (above_end HB9.out HI9.out HBW.out hown hgrow HRB.out HwB.out)
            have HBz7 : Hid (B ≤ w7.heap.size) := Lib.hid (by have := hgrow.size; simp at this; omega)
            clear hown hgrow hat
            go_wp2_with fail
            go_roundw
            case rel => exact ⟨k + 1, L ++ [(k : Int) + 1], .slice (some ⟨t2, 0, none⟩) (L.length + 1) c2, by omega, by omega, by go_num, rfl, by simp; omega, HBz7, HN, HE⟩
            case measure => simp [intOf]; omega
          | false =>
            replace HST := Lib.hid (fun r (h : r = false) => HST.out r (by rw [h]; rfl))
            have HX := Lib.hid (HST.out false rfl)
            have HN := Lib.hid (HSN.out HX.out)
            have HE : Hid ((w3.ownsRow w.heap.size 4 1 (.slice (some ⟨R, 0, none⟩) q0 q0) q0 ((padB (upL N y (k + 1)) q0).map Value.bool) ∧ w3.ownsRow B 3 1 lv L.length (L.map (Value.int .i64))) ∧ Below w.heap.size w w3) := Lib.hid ⟨⟨by rw [HX.out, padB_no (by rw [HUL.out]; have := HQM.out; omega)]; exact HRW3.out.1, HRW3.out.2⟩, HB3.out⟩
            go_wp2_with fail
            go_roundw
            case rel => exact ⟨k + 1, L, lv, by omega, by omega, by go_num, rfl, by omega, HBz3, HN, HE⟩
            case measure => simp [intOf]; omega
    · obtain rfl : m = k := by omega
      have d0 : decide ((m : Int) + 1 ≤ (m : Int)) = false := by simp; omega
      have HE : Hid (Told (selTo (aboveB N (y : Int)) m) w (.returned lv) wo) := Lib.hid (by
        rw [← HLI.out]; exact ⟨lv, rfl, Joins.ownsRow_le HW.out.1.2 HwB.out, HW.out.2⟩)
      clear hlt hk
      go_wp2_with fail
      go_ret
      exact HE.out
end Go.Proofs.Ytbdmndhjbemenaa.aig
