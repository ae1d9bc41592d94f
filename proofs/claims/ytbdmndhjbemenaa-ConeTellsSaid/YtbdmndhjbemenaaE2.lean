/- The walks of the project's cone: isInput, mark, reached. -/
import Derived.Test.YtbdmndhjbemenaaE1
import Derived.Test.YtbdmndhjbemenaaFnZ
namespace Go.Proofs.Ytbdmndhjbemenaa.aig
open Go.RowKit
open Go.Proofs.Ytbdmndhjbemenaa.mem Go.Proofs.Ytbdmndhjbemenaa.agf Go.Proofs.Ytbdmndhjbemenaa.fns
open Go.Proofs.Ytbdmndhjbemenaa.ints (Ints)

/-- whether a node is an input -/
theorem coneIn_of {a : Int} (b : Int) {r : Bool} (h : decide (a < 0) = r) (w : World) : Calls Try.prog 28 #[.agg #[.int .i64 a, .int .i64 b]] w fun e w' => e = .returned (.bool r) ∧ Below w.heap.size w w' := by
  have HB : Hid (Below w.heap.size w (w.alloc (.cells #[.int .i64 a, .int .i64 b] 37))) := Lib.hid ((Below.refl _ _).alloc (Nat.le_refl _) _)
  go_enter Try.func28, Try.ntmps28
  go_wp2_with fail
  go_ret
  exact ⟨rfl, HB.out⟩
theorem moved_set (R i : Nat) (w : World) (v : Value) : Moved (fun k => k = R) (fun k => k = R) w (w.setCell ⟨R, i, none⟩ v) :=
  ⟨⟨rfl, rfl, rfl, by simp, fun k _ hn => heap_setCell_other w ⟨R, i, none⟩ k v hn⟩, fun _ h => .inl h⟩
set_option maxRecDepth 100000 in
set_option maxHeartbeats 3200000 in
theorem mark_any (E R q : Nat) (bs : List Bool) (u : Value) (zs : List Int) (w : World) (hrow : w.ownsRow E 4 1 (.slice (some ⟨R, 0, none⟩) q q) q (bs.map Value.bool)) (hb : bs.length = q) (_hq : q ≤ 2000) (hu : KInts (fun k => k = R) w u zs) :
    Calls Try.prog 36 #[.slice (some ⟨R, 0, none⟩) q q, u] w fun e w' => e = .returned (.tuple #[]) ∧ w'.ownsRow E 4 1 (.slice (some ⟨R, 0, none⟩) q q) q ((markTo bs zs).map Value.bool) ∧ Moved (fun k => k = R) (fun k => k = R) w w' := by
  have HU := Lib.hid hu
  obtain ⟨a, cap, rfl, l1, l2, -⟩ := hu
  unfold maxLen at l2
  obtain ⟨n, hnn⟩ : ∃ n, n = zs.length := ⟨_, rfl⟩
  rw [← hnn] at l1 HU ⊢
  have HNN := Lib.hid hnn
  have HBL := Lib.hid hb
  have HR0 := Lib.hid hrow
  clear hnn hrow hb
  go_enter Try.func36, Try.ntmps36
  go_wp2_with fail
  go_loopw [9] (fun i wr => ∃ k : Nat, k ≤ n ∧ i = .int .i64 k ∧ Hid (wr.ownsRow E 4 1 (.slice (some ⟨R, 0, none⟩) q q) q ((markTo bs (zs.take k)).map Value.bool) ∧ Moved (fun k => k = R) (fun k => k = R) w wr)) (fun i _ => n - (intOf i).toNat)
  case atStart => exact ⟨0, Nat.zero_le _, rfl, Lib.hid ⟨HR0.out, Moved.refl _ _⟩⟩
  case round =>
    clear HR0
    obtain ⟨k, hk, rfl, HW⟩ := hrel
    obtain ⟨wo, rfl⟩ : ∃ wo : World, wo = wr := ⟨_, rfl⟩
    by_cases hlt : k < n
    · obtain ⟨b, off, rfl, -, e1⟩ := (HU.out.move HW.out.2).cell_ hlt
      have HST := Lib.hid (markTo_step bs (zs := zs) (k := k) (by rw [← HNN.out]; exact hlt))
      have hml : (markTo bs (zs.take k)).length = q := by rw [markTo_len]; exact HBL.out
      obtain ⟨z, hz⟩ : ∃ z, z = zs.getD k 0 := ⟨_, rfl⟩
      obtain ⟨L, hL⟩ : ∃ L, L = markTo bs (zs.take k) := ⟨_, rfl⟩
      rw [← hz] at e1 HST
      rw [← hL] at HST HW hml
      have d1 : (k : Int) < (n : Int) := by omega
      have d2 : 0 ≤ (k : Int) := by omega
      obtain ⟨b1, b2⟩ := var_bd z
      have HC := Lib.hid (lits.Var_any z wo)
      have HMO : Hid (markOne L z = if 0 < litVar z ∧ litVar z < (q : Int) then L.set (litVar z).toNat true else L) := Lib.hid (by rw [← hml]; rfl)
      obtain ⟨v, hv⟩ : ∃ v, v = litVar z := ⟨_, rfl⟩
      rw [← hv] at HC b1 b2 HMO
      have HML := Lib.hid hml
      clear hz hv hL hml
      by_cases c0 : 0 < v
      · by_cases c1 : v < (q : Int)
        · obtain ⟨y, rfl⟩ := Int.eq_ofNat_of_zero_le (show 0 ≤ v by omega)
          have f1 := HW.out.1.frozenAt y
          have z1 := HW.out.1.cellAt y (by omega)
          obtain ⟨u1, hu1⟩ : ∃ u, (L.map Value.bool)[y]? = some u := ⟨_, List.getElem?_eq_getElem (by rw [List.length_map, HML.out]; omega)⟩
          rw [hu1] at z1
          have HE : Hid ((wo.setCell ⟨R, y, none⟩ (.bool true)).ownsRow E 4 1 (.slice (some ⟨R, 0, none⟩) q q) q ((markTo bs (zs.take (k + 1))).map Value.bool) ∧ Moved (fun k => k = R) (fun k => k = R) w (wo.setCell ⟨R, y, none⟩ (.bool true))) := Lib.hid ⟨by
            have h := (HW.out.1.stored y (.bool true)).1
            rw [← List.map_set] at h
            rw [HST.out, HMO.out, if_pos ⟨c0, c1⟩, Int.toNat_natCast]; exact h, HW.out.2.trans (moved_set _ _ _ _)⟩
          have c2 : 0 < y := by omega
          have c3 : y < q := by omega
          have c4 : 0 ≤ (y : Int) := by omega
          clear hu1
          go_wp2_with fail
          go_at_call 30; refine HC.out.mono ?_; rintro e w' ⟨rfl, rfl⟩
          go_wp2_with fail
          go_roundw
          case rel => exact ⟨k + 1, by omega, by go_num, HE⟩
          case measure => simp [intOf]; omega
        · have HE : Hid (wo.ownsRow E 4 1 (.slice (some ⟨R, 0, none⟩) q q) q ((markTo bs (zs.take (k + 1))).map Value.bool) ∧ Moved (fun k => k = R) (fun k => k = R) w wo) := Lib.hid ⟨by
            rw [HST.out, HMO.out, if_neg (fun e => c1 e.2)]; exact HW.out.1, HW.out.2⟩
          go_wp2_with fail
          go_at_call 30; refine HC.out.mono ?_; rintro e w' ⟨rfl, rfl⟩
          go_wp2_with fail
          go_roundw
          case rel => exact ⟨k + 1, by omega, by go_num, HE⟩
          case measure => simp [intOf]; omega
      · have HE : Hid (wo.ownsRow E 4 1 (.slice (some ⟨R, 0, none⟩) q q) q ((markTo bs (zs.take (k + 1))).map Value.bool) ∧ Moved (fun k => k = R) (fun k => k = R) w wo) := Lib.hid ⟨by
            rw [HST.out, HMO.out, if_neg (fun e => c0 e.1)]; exact HW.out.1, HW.out.2⟩
        go_wp2_with fail
        go_at_call 30; refine HC.out.mono ?_; rintro e w' ⟨rfl, rfl⟩
        go_wp2_with fail
        go_roundw
        case rel => exact ⟨k + 1, by omega, by go_num, HE⟩
        case measure => simp [intOf]; omega
    · obtain rfl : n = k := by omega
      have HE : Hid (wo.ownsRow E 4 1 (.slice (some ⟨R, 0, none⟩) q q) q ((markTo bs zs).map Value.bool) ∧ Moved (fun k => k = R) (fun k => k = R) w wo) := Lib.hid ⟨by
        have h := HW.out.1
        rw [HNN.out, List.take_length] at h; exact h, HW.out.2⟩
      clear hlt hk
      go_wp2_with fail
      go_end0
      exact ⟨rfl, HE.out⟩
theorem KInts.weak {P Q : Nat → Prop} {w : World} {v : Value} {zs : List Int} (h : KInts P w v zs) (hq : ∀ k, k < w.heap.size → Q k → P k) : KInts Q w v zs := by
  obtain ⟨a, cap, hv, h1, h2, h3⟩ := h
  refine ⟨a, cap, hv, h1, h2, fun hp => ?_⟩
  obtain ⟨b, off, ha, hlt, hn, hc⟩ := h3 hp
  exact ⟨b, off, ha, hlt, fun e => hn (hq b hlt e), hc⟩
/-- what was there lies in no new block -/
theorem kints_old {w w' : World} {R : Nat} {v : Value} {zs : List Int} (h : Ints w v zs) (hb : Below w.heap.size w w') (hR : w.heap.size ≤ R) : KInts (fun k => k = R) w' v zs := by
  obtain ⟨a, cap, hv, h1, h2, h3⟩ := h
  refine ⟨a, cap, hv, h1, h2, fun hp => ?_⟩
  obtain ⟨b, off, ha, hlt, hc⟩ := h3 hp
  exact ⟨b, off, ha, Nat.lt_of_lt_of_le hlt hb.size, by omega, fun i hi => (hb.cell (p := ⟨b, off + i, none⟩) hlt).trans (hc i hi)⟩
theorem kints_lit {R : Nat} (w : World) (cs : Array Value) (t : TypeId) (zs : List Int) (h : cs = (zs.map (Value.int .i64)).toArray) (h1 : zs.length ≤ 1000) (hR : R < w.heap.size) : KInts (fun k => k = R) (w.alloc (.cells cs t)) (.slice (some ⟨w.heap.size, 0, none⟩) zs.length zs.length) zs := by
  obtain ⟨a, cap, hv, k1, k2, k3⟩ := ints_lit w cs t zs h h1
  refine ⟨a, cap, hv, k1, k2, fun hp => ?_⟩
  obtain ⟨b, off, ha, hlt, hc⟩ := k3 hp
  obtain ⟨e, -, -⟩ := Value.slice.inj hv
  rw [ha] at e
  obtain ⟨e1, -⟩ := Addr.mk.inj (Option.some.inj e)
  exact ⟨b, off, ha, hlt, by omega, hc⟩
/-- truths of the call's own, told -/
def ToldM (L : List Bool) (w : World) (e : Ending) (w' : World) : Prop :=
  ∃ R, e = .returned (.slice (some ⟨R, 0, none⟩) L.length L.length) ∧ w'.ownsRow w.heap.size 4 1 (.slice (some ⟨R, 0, none⟩) L.length L.length) L.length (L.map Value.bool) ∧ Below w.heap.size w w'
theorem madeB' (n : Nat) : (madeCells #[Value.bool false] n).toList = (List.replicate n false).map Value.bool := by
  rw [madeB, padB_nil]
set_option maxRecDepth 100000 in
set_option maxHeartbeats 3200000 in
theorem reached_any (v u : Value) (ns : List (Int × Int)) (zs : List Int) (w : World) (hv : KNds (fun _ => False) w v ns) (hg : GoodN ns) (hn : ns.length ≤ 1000) (hu : Ints w u zs) :
    Calls Try.prog 26 #[v, u] w (ToldM (reachL (ns.map absN) zs) w) := by
  obtain ⟨i0, hi, hz0, hz1, hz2⟩ := info_parts infoB
  have HC := Lib.hid (check_any _ v ns w hv (by omega))
  rw [good_chk hg] at HC
  obtain ⟨a, cap, rfl, l1, l2⟩ := hv.form
  unfold maxLen at l2
  obtain ⟨m, hm⟩ : ∃ m, m = ns.length := ⟨_, rfl⟩
  have hN : (ns.map absN).length = m := by rw [List.length_map, hm]
  rw [← hm] at l1 hn hv HC
  rw [← hm]
  have HV := Lib.hid hv
  have HM := Lib.hid hm
  have HG := Lib.hid hg
  have HU := Lib.hid hu
  have HNL := Lib.hid hN
  have HRS := Lib.hid (rch_start (ns.map absN) zs)
  rw [hN] at HRS
  have HRE := Lib.hid (fun L (h : Rch (ns.map absN) zs 0 L) => rch_end (good_abs hg) (by omega) h)
  have HMK := Lib.hid (fun L j x y (h : Rch (ns.map absN) zs (j + 1) L) h1 (h2 : (ns.map absN)[j]? = some (some (x, y))) => rch_mark (good_abs hg) (by omega) h h1 h2)
  have HLN := Lib.hid (reach_len (ns.map absN) zs)
  rw [hN] at HLN
  obtain ⟨q0, hq0⟩ : ∃ q0, q0 = m + 1 := ⟨_, rfl⟩
  rw [← hq0] at HLN HRS
  have HQ := Lib.hid hq0
  have q1 : (m : Int) + 1 = (q0 : Int) := by omega
  have q2 : q0 ≤ 1001 := by omega
  have q3 : 1 ≤ q0 := by omega
  have HQ1 := Lib.hid q1
  clear hv hm hg hu hN hq0 q1
  go_enter Try.func26, Try.ntmps26
  go_wp2_with fail
  go_at_call 32; refine HC.out.mono ?_; rintro e w1 ⟨rfl, hb1⟩
  have HB1 := Lib.hid hb1
  have hz := hb1.size
  clear hb1
  go_wp2_with (refine wpList_make_full _ rfl (.tmp 13) (.tmp 13) 33 rfl w.heap.size 4 i0 (.bool false) 1 Try.underlying33 hi hz0 hz1 .i64 .i64 _ _ q0 rfl rfl HQ1.out HQ1.out (by rw [hz2]; omega) (by unfold maxLen; omega) hz ?_)
  intro w2 hown hgrow
  obtain ⟨R, hR⟩ : ∃ R, R = w1.heap.size := ⟨_, rfl⟩
  have HB2 : Hid (Below w.heap.size w w2) := Lib.hid (HB1.out.grown hgrow hz (fun k hk => by cases hk))
  have hRR : w.heap.size ≤ R := by rw [hR]; exact hz
  have HO2 : Hid (w2.ownsRow w.heap.size 4 1 (.slice (some ⟨R, 0, none⟩) q0 q0) q0 ((List.replicate q0 false).map Value.bool)) := Lib.hid (by
    have h := hown
    rw [madeB', ← hR] at h
    exact h)
  have HRR := Lib.hid hRR
  rw [← hR]
  clear hown hgrow hz hR hRR
  go_wp2_with fail
  go_at_call 36; refine (mark_any w.heap.size R q0 _ _ zs _ HO2.out (by simp) (by omega) (kints_old HU.out HB2.out HRR.out)).mono ?_; rintro e w3 ⟨rfl, o3, m3⟩
  have HB3 : Hid (Below w.heap.size w w3) := Lib.hid (HB2.out.trans (m3.below (fun k hk => by have := HRR.out; omega) HB2.out.size))
  have HO3 := Lib.hid o3
  clear o3 m3 HO2 HB2
  go_wp2_with fail
  go_loopw [6] (fun i wr => ∃ (k : Nat) (L : List Bool), k ≤ m ∧ i = .int .i64 k ∧ L.length = q0 ∧ Hid (Rch (ns.map absN) zs k L) ∧ Hid (wr.ownsRow w.heap.size 4 1 (.slice (some ⟨R, 0, none⟩) q0 q0) q0 (L.map Value.bool) ∧ Below w.heap.size w wr)) (fun i _ => (intOf i).toNat)
  case atStart => exact ⟨m, _, Nat.le_refl _, rfl, by rw [markTo_len]; simp, HRS, Lib.hid ⟨HO3.out, HB3.out⟩⟩
  case round =>
    clear HO3 HB3 HRS
    obtain ⟨k, L, hk, rfl, hL, HLI, HW⟩ := hrel
    obtain ⟨wo, rfl⟩ : ∃ wo : World, wo = wr := ⟨_, rfl⟩
    have HLL := Lib.hid hL
    clear hL
    cases k with
    | succ j =>
      rw [show ((j + 1 : Nat) : Int) = (j : Int) + 1 by omega]
      have hlt : j < m := by omega
      obtain ⟨b, off, rfl, -, e1, e2⟩ := (HV.out.on HW.out.2).at_ hlt
      have HAT := Lib.hid (absN_at (ns := ns) (k := j) (by rw [← HM.out]; exact hlt))
      have hgg := HG.out j (by rw [← HM.out]; exact hlt)
      obtain ⟨pq, hpq⟩ : ∃ pq, pq = ns.getD j (0, 0) := ⟨_, rfl⟩
      rw [← hpq] at e1 e2 HAT hgg
      obtain ⟨p, q⟩ := pq
      simp only at e1 e2 hgg
      have hwz := HW.out.2.size
      have d1 : (j : Int) < (m : Int) := by omega
      have d2 : 0 ≤ (j : Int) := by omega
      have d3 : (j : Int) + 1 - 1 = (j : Int) := by omega
      have d4 : (j : Int) + 1 < (q0 : Int) := by have := HQ.out; omega
      have hjl : j + 1 < L.length := by rw [HLL.out]; have := HQ.out; omega
      have z1 := HW.out.1.cellAt (j + 1) (by rw [HLL.out] at hjl; omega)
      rw [List.getElem?_map, List.getElem?_eq_getElem hjl, Option.map_some] at z1
      obtain ⟨t, ht⟩ : ∃ t, t = L[j + 1] := ⟨_, rfl⟩
      have HT : Hid (L.getD (j + 1) false = t) := Lib.hid (by rw [ht]; simp [List.getD, hjl])
      rw [← ht] at z1
      have HS1 := Lib.hid (fun h => rch_skip HLI.out h)
      clear hpq ht hjl
      go_upto_region 9 with fail
      obtain ⟨W1, hW1⟩ : ∃ W1, W1 = wo.alloc (.cells #[.int .i64 p, .int .i64 q] 37) := ⟨_, rfl⟩
      obtain ⟨X, hX⟩ : ∃ X, X = wo.heap.size := ⟨_, rfl⟩
      have x0 : W1.cell? ⟨X, 0, none⟩ = some (.int .i64 p) := by rw [hW1, hX]; exact (box_at _ _ _ _).1
      have x1 : W1.cell? ⟨X, 1, none⟩ = some (.int .i64 q) := by rw [hW1, hX]; exact (box_at _ _ _ _).2
      have hXl : X < W1.heap.size := by rw [hW1, hX]; simp
      have HBX : Hid (Below wo.heap.size wo W1) := Lib.hid (by rw [hW1]; exact box_below wo p q _)
      have HROW := Lib.hid (own_on HW.out.1 HBX.out)
      have HBW := Lib.hid (HW.out.2.trans (HBX.out.mono hwz))
      have z2 := (HBX.out.cell (p := ⟨R, j + 1, none⟩) (HW.out.1.lt R rfl).2).trans z1
      rw [← hX, ← hW1]
      clear hX hW1 e1 e2 z1
      cases t with
      | false =>
        have HX := Lib.hid (HS1.out (.inl HT.out))
        go_wp2_with fail
        go_roundw
        case rel => exact ⟨j, L, by omega, by go_num, HLL.out, HX, Lib.hid ⟨HROW.out, HBW.out⟩⟩
        case measure => simp [intOf]
      | true =>
        by_cases g0 : p < 0
        · have HP : Hid (decide (p < 0) = true) := Lib.hid (decide_eq_true g0)
          have HX := Lib.hid (HS1.out (.inr (by rw [HAT.out]; unfold absN; rw [if_pos g0])))
          clear g0 hgg
          go_wp2_with fail
          go_at_call 28; refine (coneIn_of q HP.out _).mono ?_; rintro e w3 ⟨rfl, hb⟩
          have HE : Hid (w3.ownsRow w.heap.size 4 1 (.slice (some ⟨R, 0, none⟩) q0 q0) q0 (L.map Value.bool) ∧ Below w.heap.size w w3) := Lib.hid ⟨own_on HROW.out hb, HBW.out.trans (hb.mono HBW.out.size)⟩
          clear hb
          go_wp2_with fail
          go_roundw
          case rel => exact ⟨j, L, by omega, by go_num, HLL.out, HX, HE⟩
          case measure => simp [intOf]
        · have HP : Hid (decide (p < 0) = false) := Lib.hid (decide_eq_false g0)
          obtain ⟨g1, g2, g3⟩ := hgg (by omega)
          obtain ⟨x, rfl⟩ := Int.eq_ofNat_of_zero_le (show 0 ≤ p by omega)
          obtain ⟨y, rfl⟩ := Int.eq_ofNat_of_zero_le g2
          have e4 : (ns.map absN)[j]? = some (some (x, y)) := by
            rw [HAT.out]; unfold absN; rw [if_neg g0]; simp
          have HX := Lib.hid (HMK.out L j x y HLI.out HT.out e4)
          clear g0 hgg e4 g1 g2 g3
          go_wp2_with fail
          go_at_call 28; refine (coneIn_of (y : Int) HP.out _).mono ?_; rintro e w3 ⟨rfl, hb⟩
          have HRO3 := Lib.hid (own_on HROW.out hb)
          have HB3 := Lib.hid (HBW.out.trans (hb.mono HBW.out.size))
          have y0 := (hb.cell (p := ⟨X, 0, none⟩) hXl).trans x0
          have y1 := (hb.cell (p := ⟨X, 1, none⟩) hXl).trans x1
          have hRl := (HRO3.out.lt R rfl).2
          have HKI := Lib.hid (kints_lit (R := R) w3 #[.int .i64 (x : Int), .int .i64 (y : Int)] 3 [(x : Int), (y : Int)] rfl (by simp) hRl)
          have HRO4 := Lib.hid (own_on HRO3.out ((Below.refl _ w3).alloc (Nat.le_refl _) (.cells #[.int .i64 (x : Int), .int .i64 (y : Int)] 3)))
          have HB4 : Hid (Below w.heap.size w (w3.alloc (.cells #[.int .i64 (x : Int), .int .i64 (y : Int)] 3))) := Lib.hid (HB3.out.alloc HB3.out.size _)
          clear hb x0 x1 hXl
          go_wp2_with fail
          go_at_call 36; refine (mark_any w.heap.size R q0 L _ [(x : Int), (y : Int)] _ HRO4.out HLL.out (by omega) HKI.out).mono ?_; rintro e w5 ⟨rfl, o5, m5⟩
          have HE : Hid (w5.ownsRow w.heap.size 4 1 (.slice (some ⟨R, 0, none⟩) q0 q0) q0 ((markTo L [(x : Int), (y : Int)]).map Value.bool) ∧ Below w.heap.size w w5) := Lib.hid ⟨o5, HB4.out.trans (m5.below (fun k hk => by have := HRR.out; omega) HB4.out.size)⟩
          clear o5 m5
          go_wp2_with fail
          go_roundw
          case rel => exact ⟨j, markTo L [(x : Int), (y : Int)], by omega, by go_num, by rw [markTo_len]; exact HLL.out, HX, HE⟩
          case measure => simp [intOf]
    | zero =>
      have HE : Hid (ToldM (reachL (ns.map absN) zs) w (.returned (.slice (some ⟨R, 0, none⟩) q0 q0)) wo) := Lib.hid (by
        have e := HRE.out L HLI.out
        rw [← e]
        have hq := HLL.out
        exact ⟨R, by rw [hq], by rw [hq]; exact HW.out.1, HW.out.2⟩)
      rw [show ((0 : Nat) : Int) = 0 from rfl]
      go_wp2_with fail
      go_ret
      exact HE.out
end Go.Proofs.Ytbdmndhjbemenaa.aig
