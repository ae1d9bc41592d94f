/- The walk of the project's simulation: Words. -/
import Derived.Test.YtemolhmkhjfehaaD9
import Derived.StillTailTactics
import Derived.IntWalk
namespace Go.Proofs.Ytemolhmkhjfehaa.aig
open Go.RowKit
open Go.Proofs.Ytemolhmkhjfehaa.mem Go.Proofs.Ytemolhmkhjfehaa.agf
open Go.Proofs.Ytemolhmkhjfehaa.nats (Rd U rd_len rd_cell rd_form Rd.on rd_of_owned)

/-- a list, filled up to n by zeros -/
def padN (L : List Nat) (n : Nat) : List Nat := L ++ List.replicate (n - L.length) 0
theorem padN_len {L : List Nat} {n : Nat} (h : L.length ≤ n) : (padN L n).length = n := by unfold padN; simp; omega
theorem padN_set {L : List Nat} {n : Nat} {r : Nat} (h : L.length < n) : (padN L n).set L.length r = padN (L ++ [r]) n := by
  unfold padN
  rw [List.set_append_right _ _ (Nat.le_refl _), Nat.sub_self, show n - L.length = (n - (L ++ [r]).length) + 1 by simp; omega, List.replicate_succ, List.set_cons_zero]
  simp
theorem padN_zero {L : List Nat} {n : Nat} (h : L.length < n) : padN (L ++ [0]) n = padN L n := by
  unfold padN
  rw [show n - L.length = (n - (L ++ [0]).length) + 1 by simp; omega, List.replicate_succ]
  simp
theorem padN_full {L : List Nat} {n : Nat} (h : L.length = n) : padN L n = L := by unfold padN; rw [h, Nat.sub_self]; simp
theorem padN_lt {L : List Nat} {n : Nat} (h : ∀ z ∈ L, z < 18446744073709551616) : ∀ z ∈ padN L n, z < 18446744073709551616 := by
  intro z hz
  unfold padN at hz
  rcases List.mem_append.1 hz with h1 | h1
  · exact h z h1
  · have := (List.mem_replicate.1 h1).2
    omega
theorem madeU (m : Nat) : (madeCells #[Value.int IntKind.u64 0] (m + 1)).toList = (padN [0] (m + 1)).map U := by
  have e : padN [0] (m + 1) = List.replicate (m + 1) 0 := by unfold padN; simp [List.replicate_succ]
  rw [e]
  simp [madeCells, Nat.mod_one, List.map_const', U]
theorem sWord_q {v : Value} {ws : List Nat} {l : Int} {r : Nat} (h : litW ws l = r) (w : World) (hv : Rd U w v ws) (hw : ∀ z ∈ ws, z < 18446744073709551616) :
    Calls Try.prog 14 #[v, .int .i64 l] w fun e w' => e = .returned (U r) ∧ w' = w := by
  subst h
  exact (sWord_any v ws l w hv hw).mono fun _ _ h => ⟨h.1, h.2.symm⟩
set_option maxRecDepth 100000 in
set_option maxHeartbeats 3200000 in
theorem sWords_any (v u : Value) (ns : List (Int × Int)) (zs : List Nat) (w : World) (hv : KNds (fun _ => False) w v ns) (hg : GoodN ns) (hn : ns.length ≤ 1000) (hu : Rd U w u zs) (hz : ∀ z ∈ zs, z < 18446744073709551616) (hzl : zs.length ≤ 1000) :
    Calls Try.prog 13 #[v, u] w fun e w' => ∃ u, e = .returned u ∧ Rd U w' u (wst zs (ns.map absN)).1 ∧ Below w.heap.size w w' := by
  obtain ⟨i0, hi, hz0, hz1, hz2⟩ := info_parts infoU
  have HC := Lib.hid (check_any (fun _ => False) v ns w hv (by omega))
  rw [good_chk hg] at HC
  obtain ⟨a, cap, rfl, l1, l2⟩ := hv.form
  unfold maxLen at l2
  obtain ⟨ua, ucap, rfl⟩ := rd_form hu
  obtain ⟨-, l3, l4⟩ := rd_len hu
  unfold maxLen at l4
  have HAL := Lib.hid (wst_all hz (good_abs hg) (by rw [List.length_map]; exact hn))
  have HIN : Hid (∀ j, ¬ j < zs.length → zs.getD j 0 = 0) := Lib.hid (fun j h => by simp only [List.getD]; rw [List.getElem?_eq_none (by omega)]; rfl)
  obtain ⟨m, hm⟩ : ∃ m, m = ns.length := ⟨_, rfl⟩
  obtain ⟨n, hnn⟩ : ∃ n, n = zs.length := ⟨_, rfl⟩
  rw [← hm] at l1 hn hv HC ⊢
  rw [← hnn] at l3 hzl hu HIN ⊢
  have HV := Lib.hid hv
  have HU := Lib.hid hu
  have HM := Lib.hid hm
  have HG := Lib.hid hg
  obtain ⟨q0, hq0⟩ : ∃ q0, q0 = m + 1 := ⟨_, rfl⟩
  have HQ := Lib.hid hq0
  have q1 : (m : Int) + 1 = (q0 : Int) := by omega
  have q2 : q0 ≤ 1001 := by omega
  have HQ1 := Lib.hid q1
  clear hv hu hm hg hz hq0 q1 hnn
  go_enter Try.func13, Try.ntmps13
  go_wp2_with fail
  go_at_call 24; refine HC.out.mono ?_; rintro e w1 ⟨rfl, hb1⟩
  have HB1 := Lib.hid hb1
  have hz := hb1.size
  clear hb1
  go_wp2_with (refine wpList_make_full _ rfl (.tmp 14) (.tmp 14) 30 rfl w.heap.size 32 i0 (.int .u64 0) 1 Try.underlying30 hi hz0 hz1 .i64 .i64 _ _ q0 rfl rfl HQ1.out HQ1.out (by rw [hz2]; omega) (by unfold maxLen; omega) hz ?_)
  intro w2 hown hgrow
  obtain ⟨R, hR⟩ : ∃ R, R = w1.heap.size := ⟨_, rfl⟩
  have HB2 : Hid (Below w.heap.size w w2) := Lib.hid (HB1.out.grown hgrow hz (fun k hk => by cases hk))
  have HRR : Hid (w.heap.size ≤ R) := Lib.hid (by rw [hR]; exact hz)
  have HO2 : Hid (w2.ownsRow w.heap.size 32 1 (.slice (some ⟨R, 0, none⟩) q0 q0) q0 ((padN [0] q0).map U)) := Lib.hid (by
    have h := hown
    rw [show (madeCells #[Value.int IntKind.u64 0] q0).toList = (padN [0] q0).map U by rw [HQ.out]; exact madeU m, ← hR] at h
    exact h)
  rw [← hR]
  clear hown hgrow hz hR HC
  go_wp2_with fail
  go_loopw [6, 18] (fun kv i wr => ∃ (k kk : Nat) (L : List Nat), k ≤ m ∧ kk ≤ k ∧ kv = .int .i64 kk ∧ i = .int .i64 k ∧ Hid (L.length = k + 1) ∧ Hid (wst zs ((ns.map absN).take k) = (L, kk)) ∧ Hid (wr.ownsRow w.heap.size 32 1 (.slice (some ⟨R, 0, none⟩) q0 q0) q0 ((padN L q0).map U) ∧ Below w.heap.size w wr)) (fun _ i _ => m - (intOf i).toNat)
  case atStart => exact ⟨0, 0, [0], Nat.zero_le _, Nat.le_refl _, rfl, rfl, Lib.hid rfl, Lib.hid rfl, Lib.hid ⟨HO2.out, HB2.out⟩⟩
  case round =>
    clear HO2 HB2
    obtain ⟨k, kk, L, hk, hkk, rfl, rfl, HLL, HLI, HW⟩ := hrel
    obtain ⟨wo, rfl⟩ : ∃ wo : World, wo = wr := ⟨_, rfl⟩
    by_cases hlt : k < m
    · obtain ⟨b, off, rfl, -, e1, e2⟩ := (HV.out.on HW.out.2).at_ hlt
      have HAT := Lib.hid (absN_at (ns := ns) (k := k) (by rw [← HM.out]; exact hlt))
      have hgg := HG.out k (by rw [← HM.out]; exact hlt)
      obtain ⟨pq, hpq⟩ : ∃ pq, pq = ns.getD k (0, 0) := ⟨_, rfl⟩
      rw [← hpq] at e1 e2 HAT hgg
      obtain ⟨p, q⟩ := pq
      simp only at e1 e2 hgg
      have HS2 : Hid (wst zs ((ns.map absN).take (k + 1)) = wStep zs (L, kk) (absN (p, q))) := Lib.hid (by rw [wst_step zs HAT.out, HLI.out])
      have hwz := HW.out.2.size
      have HWZ := Lib.hid hwz
      have d1 : (k : Int) < (m : Int) := by omega
      have d2 : 0 ≤ (k : Int) := by omega
      have hLq : L.length < q0 := by have := HQ.out; have := HLL.out; omega
      have HLQ := Lib.hid hLq
      have HLB : Hid (∀ z ∈ L, z < 18446744073709551616) := Lib.hid (by
        have h := (HAL.out k (by rw [List.length_map, ← HM.out]; omega)).2.1
        rw [HLI.out] at h; exact h)
      clear hpq hLq hwz
      go_upto_region 8 with fail
      obtain ⟨W1, hW1⟩ : ∃ W1, W1 = wo.alloc (.cells #[.int .i64 p, .int .i64 q] 42) := ⟨_, rfl⟩
      obtain ⟨X, hX⟩ : ∃ X, X = wo.heap.size := ⟨_, rfl⟩
      have x0 : W1.cell? ⟨X, 0, none⟩ = some (.int .i64 p) := by rw [hW1, hX]; exact (box_at _ _ _ _).1
      have x1 : W1.cell? ⟨X, 1, none⟩ = some (.int .i64 q) := by rw [hW1, hX]; exact (box_at _ _ _ _).2
      have HBX : Hid (Below wo.heap.size wo W1) := Lib.hid (by rw [hW1]; exact box_below wo p q _)
      rw [← hX, ← hW1]
      clear hX hW1 e1 e2
      have hrow := own_on HW.out.1 HBX.out
      have f3 := hrow.frozenAt (k + 1)
      have z3 := hrow.cellAt (k + 1) (by have := HQ.out; omega)
      obtain ⟨u3, hu3⟩ : ∃ u, ((padN L q0).map U)[k + 1]? = some u := ⟨_, List.getElem?_eq_getElem (by rw [List.length_map, padN_len (by have := HLQ.out; omega)]; have := HQ.out; omega)⟩
      rw [hu3] at z3
      have HRW := Lib.hid hrow
      have HBW : Hid (Below w.heap.size w W1) := Lib.hid (HW.out.2.trans (HBX.out.mono HWZ.out))
      have b7 : (k : Int) + 1 < (q0 : Int) := by have := HQ.out; omega
      have t1 : 0 ≤ (k : Int) + 1 := by omega
      have t4 : ((k : Int) + 1).toNat = k + 1 := by omega
      have hk1 : k ≤ 1000 := by omega
      clear hrow hu3
      by_cases g0 : p < 0
      · have c0 : decide (0 ≤ p) = false := decide_eq_false (by omega)
        have HN : Hid (wst zs ((ns.map absN).take (k + 1)) = (L ++ [zs.getD kk 0], kk + 1)) := Lib.hid (by rw [HS2.out]; unfold absN; rw [if_pos g0]; rfl)
        clear g0 hgg
        by_cases hkn : kk < n
        · obtain ⟨b', off', rfl, -, e3⟩ := rd_cell (HU.out.on HBW.out) hkn
          obtain ⟨r, hr⟩ : ∃ r, r = zs.getD kk 0 := ⟨_, rfl⟩
          rw [← hr] at e3 HN
          have d3 : (kk : Int) < (n : Int) := by omega
          have d4 : 0 ≤ (kk : Int) := by omega
          clear hr hkn
          go_wp2_with fail
          go_roundw
          case rel =>
            have s1 := (HRW.out.stored (k + 1) (U r)).1
            rw [← List.map_set, show k + 1 = L.length from HLL.out.symm, padN_set HLQ.out] at s1
            have s2 := HBW.out.setCell (p := ⟨R, L.length, none⟩) HRR.out (U r)
            rw [HLL.out] at s1 s2
            exact ⟨k + 1, kk + 1, L ++ [r], by omega, by omega, by go_num, by go_num, Lib.hid (by rw [List.length_append, List.length_singleton, HLL.out]), HN, Lib.hid ⟨s1, s2⟩⟩
          case measure => simp [intOf]; omega
        · have c2 : decide ((kk : Int) < (n : Int)) = false := by simp; omega
          have c3 : decide (kk < n) = false := by simp; omega
          rw [HIN.out kk hkn] at HN
          have HE : Hid (W1.ownsRow w.heap.size 32 1 (.slice (some ⟨R, 0, none⟩) q0 q0) q0 ((padN (L ++ [0]) q0).map U) ∧ Below w.heap.size w W1) := Lib.hid ⟨by rw [padN_zero HLQ.out]; exact HRW.out, HBW.out⟩
          clear hkn z3 f3
          go_wp2_with fail
          go_roundw
          case rel => exact ⟨k + 1, kk + 1, L ++ [0], by omega, by omega, by go_num, by go_num, Lib.hid (by rw [List.length_append, List.length_singleton, HLL.out]), HN, HE⟩
          case measure => simp [intOf]; omega
      · have c0 : decide (0 ≤ p) = true := decide_eq_true (by omega)
        obtain ⟨g1, g2, g3⟩ := hgg (by omega)
        obtain ⟨x, hx⟩ : ∃ x, x = litW L p := ⟨_, rfl⟩
        obtain ⟨y, hy⟩ : ∃ y, y = litW L q := ⟨_, rfl⟩
        have HX := Lib.hid ((litW_more L (List.replicate (q0 - L.length) 0) (l := p) (by omega) (by have := HLL.out; omega) (by omega)).trans hx.symm)
        have HY := Lib.hid ((litW_more L (List.replicate (q0 - L.length) 0) (l := q) g2 (by have := HLL.out; omega) (by omega)).trans hy.symm)
        have hx2 := litW_lt HLB.out p
        have hy2 := litW_lt HLB.out q
        rw [← hx] at hx2
        rw [← hy] at hy2
        obtain ⟨r, hr⟩ : ∃ r, r = x &&& y := ⟨_, rfl⟩
        have g4 : bits .and .u64 (x : Int) (y : Int) = (r : Int) := by rw [hr]; exact u64_and_nat x y hx2 hy2
        have HN : Hid (wst zs ((ns.map absN).take (k + 1)) = (L ++ [r], kk)) := Lib.hid (by
          rw [HS2.out]; unfold absN; rw [if_neg g0, hr, hx, hy]
          show (L ++ [litW L ((p.toNat : Nat) : Int) &&& litW L ((q.toNat : Nat) : Int)], kk) = _
          rw [Int.toNat_of_nonneg (by omega), Int.toNat_of_nonneg g2])
        have HLP := Lib.hid (padN_lt (n := q0) HLB.out)
        have HST2 : Hid ((W1.drew.setCell ⟨R, k + 1, none⟩ (U r)).ownsRow w.heap.size 32 1 (.slice (some ⟨R, 0, none⟩) q0 q0) q0 ((padN (L ++ [r]) q0).map U) ∧ Below w.heap.size w (W1.drew.setCell ⟨R, k + 1, none⟩ (U r))) := Lib.hid (by
          have hd := own_on HRW.out ((Below.refl _ W1).drew)
          have s1 := (hd.stored (k + 1) (U r)).1
          rw [← List.map_set, show k + 1 = L.length from HLL.out.symm, padN_set HLQ.out] at s1
          have s2 := HBW.out.drew.setCell (p := ⟨R, L.length, none⟩) HRR.out (U r)
          rw [HLL.out] at s1 s2
          exact ⟨s1, s2⟩)
        have HRD : Hid (Rd U W1.drew (.slice (some ⟨R, 0, none⟩) q0 q0) (padN L q0)) := Lib.hid (by
          have hd := own_on HRW.out ((Below.refl _ W1).drew)
          have hl := padN_len (L := L) (n := q0) (by have := HLQ.out; omega)
          have h2 := rd_of_owned (mk := U) (w := W1.drew) (e := 32) (B := w.heap.size) (v := .slice (some ⟨R, 0, none⟩) q0 q0) (zs := padN L q0) (by rw [hl]; exact hd)
          exact h2)
        clear g0 hgg g1 g2 g3 hx hy hr hx2 hy2
        go_upto_region 9 with fail
        refine wp_region_still_tail 13 (by kernel_rfl) (by kernel_rfl) ?_
        simp only [List.take_succ_cons, List.take_zero, List.drop_succ_cons, List.drop_zero]
        generalize hW : ({ heap := W1.heap, tape := W1.tape, drawn := W1.drawn + 1, os := W1.os, output := W1.output } : World) = W
        have HWD : Hid (W1.drew = W) := Lib.hid hW
        replace x0 : W.cell? ⟨X, 0, none⟩ = some (.int .i64 p) := by rw [← hW]; exact x0
        replace x1 : W.cell? ⟨X, 1, none⟩ = some (.int .i64 q) := by rw [← hW]; exact x1
        replace z3 : W.cell? ⟨R, k + 1, none⟩ = some u3 := by rw [← hW]; exact z3
        replace f3 : W.frozen? ⟨R, k + 1, none⟩ = false := by rw [← hW]; exact f3
        rw [HWD.out] at HRD
        have HVX := Lib.hid (sWord_q HX.out W HRD.out HLP.out)
        have HVY := Lib.hid (sWord_q HY.out W HRD.out HLP.out)
        have t2 : IntKind.i64.wrap ((k : Int) + 1) = (k : Int) + 1 := IntWalk.i64_in _ (by omega)
        clear hW
        repeat (first | still_step | (refine wpStill_step (fun K hK => ?_); go_simp; with_reducible refine ⟨_, HVX.out, hK _ ?_⟩; clear hK K) | (refine wpStill_step (fun K hK => ?_); go_simp; with_reducible refine ⟨_, HVY.out, hK _ ?_⟩; clear hK K))
        refine wpStill_nil ?_
        clear t2
        go_wp2_with fail
        rw [← HWD.out]
        go_roundw
        case rel => exact ⟨k + 1, kk, L ++ [r], by omega, by omega, by go_num, by go_num, Lib.hid (by rw [List.length_append, List.length_singleton, HLL.out]), HN, HST2⟩
        case measure => simp [intOf]; omega
    · obtain rfl : m = k := by omega
      have HE : Hid (Rd U wo (.slice (some ⟨R, 0, none⟩) q0 q0) (wst zs (ns.map absN)).1 ∧ Below w.heap.size w wo) := Lib.hid (by
        have e := HLI.out
        rw [HM.out, show ns.length = (ns.map absN).length by simp, List.take_length] at e
        have hl : L.length = q0 := by rw [HLL.out, HQ.out]
        have h := HW.out.1
        rw [padN_full hl] at h
        rw [e]
        have h2 := rd_of_owned (mk := U) (w := wo) (e := 32) (B := w.heap.size) (v := .slice (some ⟨R, 0, none⟩) q0 q0) (zs := L) (by rw [hl]; exact h)
        exact ⟨h2, HW.out.2⟩)
      clear hlt hk hkk
      go_wp2_with fail
      go_ret
      exact ⟨_, rfl, HE.out⟩
end Go.Proofs.Ytemolhmkhjfehaa.aig
